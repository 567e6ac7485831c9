import Derived.Shelf.SlSortCmp.NoneTotal
import Derived.Shelf.Small.Strs
import Derived.Test.YtokjlgebkihimaaGreatXq
namespace Go.Proofs.YtokjlgebkihimaaGreat
open Go.Shelf Go.RowKit Go.Maps Go.Sort
def Tryz.sfA_ren : Go.Shelf.Ren := ⟨fun | 6 => 50 | 15 => 78 | 14 => 77 | 28 => 112 | 29 => 113 | 20 => 104 | 21 => 105 | 22 => 106 | 23 => 107 | 24 => 108 | 25 => 109 | 26 => 110 | 27 => 111 | 46 => 136 | 47 => 137 | 48 => 138 | 49 => 139 | 50 => 140 | 57 => 171 | n => n, fun | 22 => 24 | 24 => 9 | 25 => 103 | 3 => 3 | 39 => 126 | 0 => 0 | 53 => 166 | 55 => 168 | 4 => 4 | 46 => 159 | 45 => 158 | 50 => 163 | 5 => 5 | 9 => 9 | 66 => 191 | 70 => 195 | 76 => 227 | 77 => 45 | n => n, fun | n => n⟩
set_option maxRecDepth 100000 in
theorem Tryz.sfA : Go.Proofs.SlLaysF.n6 Tryz.prog Tryz.sfA_ren := {
  mixed := by kernel_rfl
  f6 := ⟨Tryz.f50.name, by decide, Tryz.func50.trans (congrArg some (by kernel_rfl))⟩
  f14 := ⟨Tryz.f77.name, by decide, Tryz.func77.trans (congrArg some (by kernel_rfl))⟩
  f15 := Tryz.func78.trans (congrArg some (by kernel_rfl))
  f20 := ⟨Tryz.f104.name, by decide, Tryz.func104.trans (congrArg some (by kernel_rfl))⟩
  f21 := ⟨Tryz.f105.name, by decide, Tryz.func105.trans (congrArg some (by kernel_rfl))⟩
  f22 := ⟨Tryz.f106.name, by decide, Tryz.func106.trans (congrArg some (by kernel_rfl))⟩
  f23 := ⟨Tryz.f107.name, by decide, Tryz.func107.trans (congrArg some (by kernel_rfl))⟩
  f24 := ⟨Tryz.f108.name, by decide, Tryz.func108.trans (congrArg some (by kernel_rfl))⟩
  f25 := ⟨Tryz.f109.name, by decide, Tryz.func109.trans (congrArg some (by kernel_rfl))⟩
  f26 := ⟨Tryz.f110.name, by decide, Tryz.func110.trans (congrArg some (by kernel_rfl))⟩
  f27 := ⟨Tryz.f111.name, by decide, Tryz.func111.trans (congrArg some (by kernel_rfl))⟩
  f28 := Tryz.func112.trans (congrArg some (by kernel_rfl))
  f29 := Tryz.func113.trans (congrArg some (by kernel_rfl))
  f46 := ⟨Tryz.f136.name, by decide, Tryz.func136.trans (congrArg some (by kernel_rfl))⟩
  f47 := Tryz.func137.trans (congrArg some (by kernel_rfl))
  f48 := Tryz.func138.trans (congrArg some (by kernel_rfl))
  f49 := ⟨Tryz.f139.name, by decide, Tryz.func139.trans (congrArg some (by kernel_rfl))⟩
  f50 := ⟨Tryz.f140.name, by decide, Tryz.func140.trans (congrArg some (by kernel_rfl))⟩
  f57 := ⟨Tryz.f171.name, by decide, Tryz.func171.trans (congrArg some (by kernel_rfl))⟩
  t0 := Tryz.underlying0
  a0 := Tryz.isAgg0
  z0 := Tryz.sizeOf0
  v0 := Tryz.zeroValue0
  t3 := Tryz.underlying3
  a3 := Tryz.isAgg3
  z3 := Tryz.sizeOf3
  v3 := Tryz.zeroValue3
  t4 := Tryz.underlying4
  a4 := Tryz.isAgg4
  z4 := Tryz.sizeOf4
  v4 := Tryz.zeroValue4
  t5 := Tryz.underlying5
  a5 := Tryz.isAgg5
  z5 := Tryz.sizeOf5
  v5 := Tryz.zeroValue5
  t9 := Tryz.underlying9
  a9 := Tryz.isAgg9
  z9 := Tryz.sizeOf9
  v9 := Tryz.zeroValue9
  t22 := Tryz.underlying24
  a22 := Tryz.isAgg24
  z22 := Tryz.sizeOf24
  v22 := Tryz.zeroValue24
  a24 := Tryz.isAgg9
  z24 := Tryz.sizeOf9
  t25 := Tryz.underlying103
  a25 := Tryz.isAgg103
  z25 := Tryz.sizeOf103
  v25 := Tryz.zeroValue103
  t39 := Tryz.underlying126
  a39 := Tryz.isAgg126
  z39 := Tryz.sizeOf126
  v39 := Tryz.zeroValue126
  t45 := Tryz.underlying158
  a45 := Tryz.isAgg158
  z45 := Tryz.sizeOf158
  v45 := Tryz.zeroValue158
  t46 := Tryz.underlying159
  a46 := Tryz.isAgg159
  z46 := Tryz.sizeOf159
  v46 := Tryz.zeroValue159
  t50 := Tryz.underlying163
  a50 := Tryz.isAgg163
  z50 := Tryz.sizeOf163
  v50 := Tryz.zeroValue163
  t53 := Tryz.underlying166
  a53 := Tryz.isAgg166
  z53 := Tryz.sizeOf166
  v53 := Tryz.zeroValue166
  t55 := Tryz.underlying168
  a55 := Tryz.isAgg168
  z55 := Tryz.sizeOf168
  v55 := Tryz.zeroValue168
  t66 := Tryz.underlying191
  a66 := Tryz.isAgg191
  z66 := Tryz.sizeOf191
  v66 := Tryz.zeroValue191
  t70 := Tryz.underlying195
  a70 := Tryz.isAgg195
  z70 := Tryz.sizeOf195
  v70 := Tryz.zeroValue195
  t76 := Tryz.underlying227
  a76 := Tryz.isAgg227
  z76 := Tryz.sizeOf227
  v76 := Tryz.zeroValue227
  t77 := Tryz.underlying45
  a77 := Tryz.isAgg45
  z77 := Tryz.sizeOf45
  v77 := Tryz.zeroValue45 }

def Tryz.lays106_ren : Go.Shelf.Ren := ⟨fun | 106 => 52 | 213 => 79 | 265 => 114 | n => n, fun | 9 => 9 | 3 => 3 | n => n, fun | n => n⟩
set_option maxRecDepth 100000 in
theorem Tryz.lays106 : Go.Proofs.Lays.n106 Tryz.prog Tryz.lays106_ren := {
  mixed := by kernel_rfl
  f106 := Tryz.func52.trans (congrArg some (by kernel_rfl))
  f213 := Tryz.func79.trans (congrArg some (by kernel_rfl))
  f265 := Tryz.func114.trans (congrArg some (by kernel_rfl))
  t3 := Tryz.underlying3
  a3 := Tryz.isAgg3
  z3 := Tryz.sizeOf3
  v3 := Tryz.zeroValue3
  t9 := Tryz.underlying9
  a9 := Tryz.isAgg9
  z9 := Tryz.sizeOf9
  v9 := Tryz.zeroValue9 }
set_option maxRecDepth 100000 in
theorem compare_any (a b : ByteArray) (w : World) :
    Calls Tryz.prog 52 #[.string a, .string b] w fun e w' => e = .returned (.int .i64 (Lib.compareBytes a.data.toList b.data.toList)) ∧ w' = w := Any.strings_Compare Tryz.lays106 a b w
/-- the order of names -/
def cfN (a b : ByteArray) : Int := Lib.compareBytes a.data.toList b.data.toList
set_option maxRecDepth 100000 in
theorem less_any (a b : ByteArray) (w : World) : Calls Tryz.prog 51 #[.string a, .string b] w fun e w' => e = .returned (.int .i64 (cfN a b)) ∧ w' = w := by
  have HC := hid (compare_any a b)
  unfold cfN
  obtain ⟨E, hE⟩ : ∃ E, E = Lib.compareBytes a.data.toList b.data.toList := ⟨_, rfl⟩
  rw [← hE] at HC ⊢
  clear hE
  go_enter Tryz.func51, Tryz.ntmps51
  go_wp2_with (first
    | (go_at_call 52; refine (HC.out _).mono ?_; rintro e w1 ⟨rfl, hw⟩; have hw := hw.symm; subst hw))
  go_ret
  exact ⟨rfl, rfl⟩
theorem bl_irr : ∀ x : List UInt8, Op.bytesLess x x = false
  | [] => rfl
  | a :: x => by
    have := bl_irr x
    rw [Op.bytesLess]
    simp [this]
theorem bl_trans : ∀ x y z : List UInt8, Op.bytesLess x y = true → Op.bytesLess y z = true → Op.bytesLess x z = true
  | [], [], _, h, _ => by simp [Op.bytesLess] at h
  | _ :: _, [], _, h, _ => by simp [Op.bytesLess] at h
  | _, _ :: _, [], _, h => by simp [Op.bytesLess] at h
  | [], _ :: _, _ :: _, _, _ => by simp [Op.bytesLess]
  | a :: x, b :: y, c :: z, h1, h2 => by
    have ih := bl_trans x y z
    rw [Op.bytesLess] at h1 h2 ⊢
    simp only [Bool.or_eq_true, Bool.and_eq_true, decide_eq_true_eq, beq_iff_eq, UInt8.lt_iff_toNat_lt] at h1 h2 ⊢
    rcases h1 with h1 | ⟨rfl, h1⟩
    · rcases h2 with h2 | ⟨rfl, h2⟩
      · left; omega
      · left; exact h1
    · rcases h2 with h2 | ⟨rfl, h2⟩
      · left; exact h2
      · right; exact ⟨rfl, ih h1 h2⟩
theorem bl_tri : ∀ x y : List UInt8, Op.bytesLess x y = false → Op.bytesLess y x = false → x = y
  | [], [], _, _ => rfl
  | _ :: _, [], _, h => by simp [Op.bytesLess] at h
  | [], _ :: _, h, _ => by simp [Op.bytesLess] at h
  | a :: x, b :: y, h1, h2 => by
    have ih := bl_tri x y
    rw [Op.bytesLess] at h1 h2
    simp only [Bool.or_eq_false_iff, Bool.and_eq_false_iff, decide_eq_false_iff_not, UInt8.lt_iff_toNat_lt] at h1 h2
    have e : a = b := UInt8.toNat_inj.1 (by omega)
    subst e
    simp at h1 h2
    rw [ih h1 h2]
theorem cmp_less : ∀ a b : List UInt8, (Lib.compareBytes a b = 0 ↔ a = b) ∧ (decide (Lib.compareBytes a b < 0) = Op.bytesLess a b)
  | [], [] => by simp [Lib.compareBytes, Op.bytesLess]
  | [], _ :: _ => by simp [Lib.compareBytes, Op.bytesLess]
  | _ :: _, [] => by simp [Lib.compareBytes, Op.bytesLess]
  | a :: x, b :: y => by
    have ih := cmp_less x y
    rw [Lib.compareBytes, Op.bytesLess]
    by_cases h1 : a < b
    · have hne : a ≠ b := by intro e; subst e; rw [UInt8.lt_iff_toNat_lt] at h1; omega
      rw [if_pos h1]
      simp [hne, h1]
    · rw [if_neg h1]
      by_cases h2 : b < a
      · have hne : a ≠ b := by intro e; subst e; rw [UInt8.lt_iff_toNat_lt] at h2; omega
        rw [if_pos h2]
        simp [hne, h1]
      · rw [if_neg h2]
        have e : a = b := UInt8.toNat_inj.1 (by rw [UInt8.lt_iff_toNat_lt] at h1 h2; omega)
        subst e
        simp [h1, ih.1, ih.2]
theorem ltN (x y : ByteArray) : ltOf cfN x y = Op.bytesLess x.data.toList y.data.toList := (cmp_less _ _).2
theorem swoN : SWO (ltOf cfN) where
  irrefl x := by rw [ltN]; exact bl_irr _
  trans x y z h1 h2 := by rw [ltN] at *; exact bl_trans _ _ _ h1 h2
  ntrans x y z h1 h2 := by
    rw [ltN] at *
    cases h : Op.bytesLess x.data.toList z.data.toList with
    | false => rfl
    | true =>
      exfalso
      cases h3 : Op.bytesLess y.data.toList x.data.toList with
      | true => rw [bl_trans _ _ _ h3 h] at h2; cases h2
      | false =>
        have := bl_tri _ _ h1 h3
        rw [this] at h
        rw [h] at h2; cases h2
theorem totN (x y : ByteArray) (h1 : ltOf cfN x y = false) (h2 : ltOf cfN y x = false) : x = y := by
  rw [ltN] at h1 h2
  exact ba_ext (bl_tri _ _ h1 h2)
theorem cmpN (blk off size : Nat) (w : World) : CmpLays1 Tryz.prog 51 #[] Value.string cfN blk off size w :=
  fun m os dk _ x y => (less_any x y _).mono fun e w' ⟨he, hw⟩ => ⟨he, 0, #[], by rw [hw, grow_empty]; rfl⟩
/-- names, sorted -/
def sortN (L : List ByteArray) : List ByteArray := L.mergeSort fun x y => !(ltOf cfN y x)
theorem sortN_len (L : List ByteArray) : (sortN L).length = L.length := List.length_mergeSort _
set_option maxRecDepth 100000 in
theorem sort_row {base x cap : Nat} {w : World} {L : List ByteArray} (h : SRow base w (.slice (some ⟨x, 0, none⟩) L.length cap) L) (hn : L.length ≤ 2000) :
    Calls Tryz.prog 50 #[.slice (some ⟨x, 0, none⟩) L.length cap, .func (.func 51) #[] #[]] w fun e w' => e = .returned (.tuple #[]) ∧ SRow base w' (.slice (some ⟨x, 0, none⟩) L.length cap) (sortN L) ∧ Below base w w' := by
  obtain ⟨e1, ⟨e2, _⟩ | ⟨x', cap', cur, e3, e4, e5, e6, e7, e8, e9⟩⟩ := h
  · cases e2
  · cases e3
    rw [Nat.mul_one] at e8 e9
    have hlt := lt_of_block e5
    have hH : Holds Value.string w x 0 L.toArray := by
      intro j hj
      have hj' : j < L.length := by simpa using hj
      rw [Nat.zero_add]
      have hc : cur.toList[j]? = some (.string L[j]) := by
        have : (cur.toList.take L.length)[j]? = (L.map Value.string)[j]? := by rw [e9]
        rw [List.getElem?_take_of_lt hj', List.getElem?_map, List.getElem?_eq_getElem hj'] at this
        exact this
      rw [Array.getElem?_toList] at hc
      refine ⟨?_, by simp [World.frozen?, e5]⟩
      rw [getElem!_pos L.toArray j hj]
      simp only [World.cell?, e5, List.getElem_toArray]
      exact hc
    have hcon := Any.slices_SortFunc_total Tryz.sfA Value.string (fun _ => rfl) cfN swoN 51 #[] x 0 cap L.toArray w (enters_of Tryz.func51 (by kernel_rfl) rfl) (cmpN x 0 _ w) hH hlt (by simp; omega) totN
    have hsz : L.toArray.size = L.length := by simp
    rw [hsz] at hcon
    refine Calls.mono hcon ?_
    rintro e w' ⟨he, n, os, rfl⟩
    have hll : (sortN L).length = L.length := sortN_len L
    have hb : (sortWorld Value.string w x 0 n (sortN L).toArray os).heap[x]? = some (.cells (putCells Value.string 0 (sortN L).toArray cur) 9 (0, 0)) := by
      show ((w.heap.modify x (onCells _)) ++ os)[x]? = _
      rw [Array.getElem?_append_left (by simpa using hlt), Array.getElem?_modify, if_pos rfl, e5]
      rfl
    refine ⟨he, ⟨by simp [hll], .inr ⟨x, cap, putCells Value.string 0 (sortN L).toArray cur, by rw [hll], e4, hb, by rw [hll]; exact e6, e7, by simp [putCells, e8], ?_⟩⟩, ?_⟩
    · rw [Nat.mul_one, hll]
      apply List.ext_getElem?
      intro j
      by_cases hj : j < L.length
      · rw [List.getElem?_take_of_lt hj, Array.getElem?_toList, List.getElem?_map, List.getElem?_eq_getElem (by omega)]
        have hjc : j < cur.size := by omega
        simp only [putCells]
        rw [Array.getElem?_mapIdx, Array.getElem?_eq_getElem hjc]
        simp only [Option.map_some]
        rw [if_pos ⟨Nat.zero_le _, by simp; omega⟩, Nat.sub_zero, getElem!_pos _ j (by simp; omega)]
        simp
      · rw [List.getElem?_eq_none (by rw [List.length_take]; omega), List.getElem?_eq_none (by rw [List.length_map]; omega)]
    · refine ⟨rfl, rfl, rfl, ?_, fun k hk => ?_⟩
      · show w.heap.size ≤ ((w.heap.modify x (onCells _)) ++ os).size
        simp
      · show ((w.heap.modify x (onCells _)) ++ os)[k]? = _
        rw [Array.getElem?_append_left (by simpa using Nat.lt_of_lt_of_le hk (Nat.le_of_lt (Nat.lt_of_le_of_lt e4 hlt))), Array.getElem?_modify, if_neg (by omega)]
/-- the names of slots -/
def namesL (S : List (List UInt8)) : List ByteArray := (S.filter hasN).map fun s => st (nam s)
theorem namesL_snoc (S : List (List UInt8)) (s : List UInt8) : namesL (S ++ [s]) = namesL S ++ (if hasN s then [st (nam s)] else []) := by
  unfold namesL
  rw [List.filter_append, List.map_append]
  cases h : hasN s <;> simp [h]
theorem namesL_le (S : List (List UInt8)) : (namesL S).length ≤ S.length := by
  unfold namesL; rw [List.length_map]; exact List.length_filter_le _ _
theorem SRow.empty (base : Nat) (w : World) (hb : base ≤ w.heap.size) : SRow base (w.alloc (.cells #[] 9)) (.slice (some ⟨w.heap.size, 0, none⟩) 0 0) [] :=
  ⟨rfl, .inr ⟨w.heap.size, 0, #[], rfl, hb, box_at _ _, Nat.le_refl _, by decide, rfl, rfl⟩⟩
set_option maxRecDepth 100000 in
set_option maxHeartbeats 2000000 in
theorem names_dir {p i : Value} {w : World} {S : List (List UInt8)} (HS : SlotsAt p i w S) (hl : S.length ≤ 400) : Calls Tryz.prog 17 #[p, i] w fun e' w' => ∃ v, e' = .returned (.tuple #[v, .int .i64 0]) ∧ SRow w.heap.size w' v (sortN (namesL S)) ∧ Below w.heap.size w w' := by
  have H1 := hid (HS w (Below.refl _ _))
  clear HS
  obtain ⟨SN, hSN⟩ : ∃ SN, SN = sortN (namesL S) := ⟨_, rfl⟩
  rw [← hSN]
  have HSN := hid hSN
  clear hSN
  go_enter Tryz.func17, Tryz.ntmps17
  go_wp2_with (go_at_call 48; fail)
  refine (H1.out).mono ?_
  rintro e' w1 ⟨v, rfl, hlr, hb⟩
  have HB := hid hb
  obtain ⟨hall, ao, cap, rfl, h1, h2, h3⟩ := hlr.lie
  have HA := hid hall
  have HC := hid h3
  unfold maxLen at h2
  obtain ⟨n, hn⟩ : ∃ n, n = S.length := ⟨_, rfl⟩
  rw [← hn] at h1 hl ⊢
  have HN := hid hn
  clear hlr hb hall h3 hn H1
  go_upto_region 5 with fail
  obtain ⟨w2, hw2⟩ : ∃ w2, w2 = w1.alloc (.cells #[] 9) := ⟨_, rfl⟩
  have HB2 : Hid (Below w1.heap.size w1 w2) := hid (by rw [hw2]; exact below_alloc _ _)
  have HR2 : Hid (SRow w1.heap.size w2 (.slice (some ⟨w1.heap.size, 0, none⟩) 0 0) []) := hid (by rw [hw2]; exact SRow.empty _ _ (Nat.le_refl _))
  rw [← hw2]
  clear hw2
  go_wp2
  go_loopw [8, 25] (fun nv ix wr => ∃ (j : Nat) (x cx : Nat), nv = .slice (some ⟨x, 0, none⟩) (namesL (S.take j)).length cx ∧ ix = .int .i64 (j : Int) ∧ j ≤ n ∧ Hid (SRow w1.heap.size wr nv (namesL (S.take j))) ∧ Hid (Below w1.heap.size w1 wr)) (fun _ ix _ => n - (intOf ix).toNat)
  case atStart => exact ⟨0, w1.heap.size, 0, by rw [List.take_zero]; rfl, rfl, Nat.zero_le _, by rw [List.take_zero]; exact HR2, HB2⟩
  case round =>
    obtain ⟨j, x, cx, rfl, rfl, hj, HR, HX⟩ := hrel
    rename World => wr
    clear HR2 HB2
    have hnl := namesL_le (S.take j)
    rw [List.length_take] at hnl
    by_cases hlt : j < n
    · have hj' : j < S.length := by rw [← HN.out]; exact hlt
      obtain ⟨gb, off, ea, hgb, hat⟩ := HC.out j hj'
      subst ea
      have hlen := HA.out _ (List.getElem_mem hj')
      have HAT := hid (fun k (hk : k < (S[j]'hj').length) => (HX.out.cell (p := ⟨gb, off + j * 32 + k, none⟩) hgb).trans (hat k hk))
      have HF := hid (name_slot (S[j]'hj') hlen)
      have HLE := hid hlen
      have HU : Hid (namesL (S.take (j + 1)) = namesL (S.take j) ++ (if hasN (S[j]'hj') then [st (nam (S[j]'hj'))] else [])) := hid (by
        rw [List.take_add_one, List.getElem?_eq_getElem hj']
        exact namesL_snoc _ _)
      obtain ⟨s, hs⟩ : ∃ s, s = S[j]'hj' := ⟨_, rfl⟩
      rw [← hs] at HAT HF HLE HU
      obtain ⟨L, hL⟩ : ∃ L, L = namesL (S.take j) := ⟨_, rfl⟩
      rw [← hL] at HU HR hnl ⊢
      obtain ⟨L2, hL2⟩ : ∃ L2, L2 = namesL (S.take (j + 1)) := ⟨_, rfl⟩
      rw [← hL2] at HU
      have HL2 := hid hL2
      obtain ⟨nm, hnm⟩ : ∃ nm, nm = st (nam s) := ⟨_, rfl⟩
      rw [← hnm] at HF HU
      clear hs hat hlen hL hL2 hnm
      have HZB : Hid (SB wr.heap.size (wr.alloc (.cells #[.int .u8 0, .int .u8 0, .int .u8 0, .int .u8 0, .int .u8 0, .int .u8 0, .int .u8 0, .int .u8 0, .int .u8 0, .int .u8 0, .int .u8 0, .int .u8 0, .int .u8 0, .int .u8 0, .int .u8 0, .int .u8 0, .int .u8 0, .int .u8 0, .int .u8 0, .int .u8 0, .int .u8 0, .int .u8 0, .int .u8 0, .int .u8 0, .int .u8 0, .int .u8 0, .int .u8 0, .int .u8 0, .int .u8 0, .int .u8 0, .int .u8 0, .int .u8 0] 87)) Z32) := hid (by unfold SB; rw [zero_cells]; exact box_at _ _)
      have HLA : Hid (Below wr.heap.size wr (wr.alloc (.cells #[.int .u8 0, .int .u8 0, .int .u8 0, .int .u8 0, .int .u8 0, .int .u8 0, .int .u8 0, .int .u8 0, .int .u8 0, .int .u8 0, .int .u8 0, .int .u8 0, .int .u8 0, .int .u8 0, .int .u8 0, .int .u8 0, .int .u8 0, .int .u8 0, .int .u8 0, .int .u8 0, .int .u8 0, .int .u8 0, .int .u8 0, .int .u8 0, .int .u8 0, .int .u8 0, .int .u8 0, .int .u8 0, .int .u8 0, .int .u8 0, .int .u8 0, .int .u8 0] 87))) := hid (below_alloc _ _)
      go_upto_region 8 with (first
        | (refine at_load87 rfl (.tmp 27) rfl gb (off + j * 32) rfl s HLE.out HAT.out ?_)
        | ((with_reducible refine SB.at_store HZB.out rfl HLE.out ?_ ?_ ?_); rfl; rfl; intro w5 hS5 hK5))
      have HK := hid (hK5 _ _ (Nat.le_refl _) HLA.out)
      have HX5 := hid (HX.out.next HK.out)
      have HR5 := hid (HR.out.below HK.out)
      have HS5 := hid hS5
      clear hS5 hK5
      cases hh : hasN s with
      | true =>
        rw [hh] at HF HU
        simp only [if_true] at HF HU
        have HLL : Hid (L.length ≤ 2000) := hid (by omega)
        have HLN : Hid (L2.length = L.length + 1) := hid (by rw [HU.out]; simp)
        obtain ⟨ln, hln⟩ : ∃ ln, ln = L.length := ⟨_, rfl⟩
        rw [← hln] at hnl HR5 HR ⊢
        have HLEN := hid hln
        clear hln
        go_wp2_with (first
          | (refine SB.at HS5.out HLE.out rfl (.tmp 10) rfl rfl ?_)
          | (go_at_call 49; refine (HF.out _).mono ?_; rintro e' w6 ⟨rfl, b6⟩; have HR6 := hid (HR5.out.below b6); have HX6 := hid (HX5.out.next b6); clear b6)
          | (at_builtin; refine pushS rfl (.tmp 35) (.tmp 37) rfl w1.heap.size _ _ L nm rfl rfl rfl HR6.out HLL.out HX6.out.size ?_; intro sl' w7 hl7 hb7; have HR7 := hid hl7; have HX7 := hid (HX6.out.trans hb7); clear hl7 hb7))
        rw [← HU.out] at HR7
        obtain ⟨x7, c7, e7⟩ : ∃ x7 c7, sl' = .slice (some ⟨x7, 0, none⟩) L2.length c7 := by
          obtain ⟨_, ⟨_, h⟩ | ⟨x7, c7, _, h, _⟩⟩ := HR7.out
          · rw [HLN.out] at h; omega
          · exact ⟨x7, c7, h⟩
        subst e7
        go_roundw
        case rel => exact ⟨j + 1, x7, c7, by rw [← HL2.out], by go_num, by omega, by rw [← HL2.out]; exact HR7, HX7⟩
        case measure => simp [intOf]; omega
      | false =>
        rw [hh] at HF HU
        simp only [Bool.false_eq_true, if_false, List.append_nil] at HF HU
        obtain ⟨ln, hln⟩ : ∃ ln, ln = L.length := ⟨_, rfl⟩
        rw [← hln] at hnl HR5 HR ⊢
        have HLEN := hid hln
        clear hln
        go_wp2_with (first
          | (refine SB.at HS5.out HLE.out rfl (.tmp 10) rfl rfl ?_)
          | (go_at_call 49; refine (HF.out _).mono ?_; rintro e' w6 ⟨rfl, b6⟩; have HR6 := hid (HR5.out.below b6); have HX6 := hid (HX5.out.next b6); clear b6))
        go_roundw
        case rel => exact ⟨j + 1, x, cx, by rw [← HL2.out, HU.out, HLEN.out], by go_num, by omega, by rw [← HL2.out, HU.out]; exact HR6, HX6⟩
        case measure => simp [intOf]; omega
    · have hjn : S.take j = S := by rw [List.take_of_length_le]; rw [← HN.out]; omega
      rw [hjn] at HR hnl ⊢
      have HQ := hid (sort_row HR.out (by omega))
      obtain ⟨ln, hln⟩ : ∃ ln, ln = (namesL S).length := ⟨_, rfl⟩
      rw [← hln] at HQ hnl ⊢
      clear hln hjn
      rw [← HSN.out] at HQ
      go_wp2_with (go_at_call 50; refine (HQ.out).mono ?_; rintro e' w6 ⟨rfl, r6, b6⟩; have HR6 := hid r6; have HX6 := hid (HX.out.trans b6); clear r6 b6)
      go_ret2
      refine ⟨_, rfl, ?_, HB.out.next HX6.out⟩
      obtain ⟨q1, q2 | ⟨x7, c7, cur, q3, q4, q5⟩⟩ := HR6.out
      · exact ⟨q1, .inl q2⟩
      · exact ⟨q1, .inr ⟨x7, c7, cur, q3, Nat.le_trans HB.out.size q4, q5⟩⟩
end Go.Proofs.YtokjlgebkihimaaGreat
