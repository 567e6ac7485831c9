import Derived.Test.YtopebghandojbaaGreatTo
import Derived.Deep.RegionHeld3
import Derived.Deep.DeepCutAuto
import Derived.Deep.CutBlock
namespace Go.Proofs.YtopebghandojbaaGreat
open Go.RowKit
/-- a block that is a transaction's head: its number, places, sum -/
def isHead (b : ByteArray) (seq : Nat) (ps : List Int) (sm : Nat) : Prop := unV b = (st (headL seq ps sm), 0) ∧ 1 ≤ seq ∧ seq ≤ 1099511627776 ∧ placesB ps = true ∧ sm < 4294967296
theorem places_in : ∀ {last : Int} {ps : List Int}, -1 ≤ last → risesI last ps = true → ∀ p ∈ ps, 0 ≤ p ∧ p < 1024
  | _, [], _, _, p, hp => by cases hp
  | last, x :: ps, hl, h, p, hp => by
    unfold risesI at h
    simp only [Bool.and_eq_true, decide_eq_true_eq] at h
    rcases List.mem_cons.1 hp with rfl | hp
    · omega
    · exact places_in (by omega) h.2.2 p hp
theorem placesB_iff {ps : List Int} : placesB ps = true ↔ risesI (-1) ps = true ∧ ps.length ≤ 48 := by
  unfold placesB; simp
theorem headT (seq : Nat) (ps : List Int) (sm : Nat) : isT (st (headL seq ps sm)) ∧ ((st (headL seq ps sm)).extract 1 (st (headL seq ps sm)).size).data.toList = fEnc seq 8 ++ fEnc ps.length 1 ++ plE ps ++ fEnc sm 4 := by
  refine ⟨?_, ?_⟩
  · unfold isT; rw [st_list, headL]; rfl
  · rw [ext_list, st_list, List.take_of_length_le (by rw [st_size]; exact Nat.le_refl _), headL]; rfl
theorem head_yes (b : ByteArray) (hb : b.size ≤ 150000000000000) (seq : Nat) (ps : List Int) (sm : Nat) (h : isHead b seq ps sm) (w : World) :
    Calls Tryz.prog 130 #[.string b] w fun e w' => ∃ pv, e = .returned (.tuple #[.agg #[.int .i64 seq, pv, .int .i64 sm], .bool true]) ∧ ILie w' pv ps ∧ Below w.heap.size w w' := by
  obtain ⟨hu, h1, h2, h3, h4⟩ := h
  obtain ⟨k1, k2⟩ := headT seq ps sm
  have hp := placesB_iff.1 h3
  have hin := places_in (Int.le_refl _) hp.1
  have := head_any b _ _ hb hu k1 rfl w
  obtain ⟨a1, a2, a3, a4⟩ := head_of _ seq ps sm (by omega) (fun p hp => by have := hin p hp; omega) (by omega) h4 k2
  have hok : hOk ((st (headL seq ps sm)).extract 1 (st (headL seq ps sm)).size) = true := by
    unfold hOk
    rw [a1, a2, a3, h3]
    simp; omega
  rw [a2, a3, a4, hok] at this
  exact this
theorem st_take1 {t : ByteArray} (h : isT t) : t.data.toList = [84] ++ (t.extract 1 t.size).data.toList := by
  have hl := len_list t
  rw [ext_list, List.take_of_length_le (l := t.data.toList) (by omega)]
  unfold isT at h
  rw [← h, List.take_append_drop]
theorem head_not (b : ByteArray) (hb : b.size ≤ 150000000000000) (h : ¬ ∃ seq ps sm, isHead b seq ps sm) (w : World) :
    Calls Tryz.prog 130 #[.string b] w fun e w' => ∃ (n1 n4 : Int) (ao : Option Addr) (k c : Nat), e = .returned (.tuple #[.agg #[.int .i64 n1, .slice ao k c, .int .i64 n4], .bool false]) ∧ Below w.heap.size w w' := by
  by_cases hT : (unV b).2 = 0 ∧ isT (unV b).1
  · have hu : unV b = ((unV b).1, 0) := by rw [← hT.1]
    refine (head_any b _ _ hb hu hT.2 rfl w).mono fun e w' ⟨pv, he, hl, hb⟩ => ?_
    obtain ⟨n, hn⟩ : ∃ n, n = (unV b).1.extract 1 (unV b).1.size := ⟨_, rfl⟩
    rw [← hn] at he hl
    have hno : hOk n = false := by
      cases hk : hOk n with
      | false => rfl
      | true =>
        exfalso
        apply h
        unfold hOk at hk
        simp only [Bool.and_eq_true, decide_eq_true_eq] at hk
        obtain ⟨k1, k2, k3⟩ := hk
        obtain ⟨m1, m2, m3, m4, m5⟩ := head_back n k1
        refine ⟨hN1 n, (hP n).1, hN4 n, ?_, by omega, by omega, k3, m2⟩
        rw [hu]
        congr 1
        rw [← st_toList (unV b).1, st_take1 hT.2, ← hn, m1]
        rfl
    obtain ⟨ao, cap, e1, _⟩ := hl
    rw [hno, e1] at he
    exact ⟨_, _, _, _, _, he, hb⟩
  · exact (head_no b hb hT w).mono fun e w' ⟨he, hb⟩ => ⟨0, 0, none, 0, 0, he, hb⟩
theorem decode_none (ao : Option Addr) (cap : Nat) (w : World) : Calls Tryz.prog 101 #[.slice ao 0 cap] w fun e w' => e = .returned (.tuple #[.int .i64 0, .slice none 0 0, .int .i64 0, .int .i64 20]) ∧ w' = w := by
  go_enter Tryz.func101, Tryz.ntmps101
  go_wp2
  refine bodyPost_ret (v := .tuple #[.int .i64 0, .slice none 0 0, .int .i64 0, .int .i64 20]) (by simp [results, Tryz.results101, go_sem]) rfl ⟨rfl, rfl⟩
set_option maxRecDepth 100000 in
set_option maxHeartbeats 1000000 in
theorem decode_form (v : Value) (b : ByteArray) (bl : List ByteArray) (w : World) (h : SLie w v (b :: bl)) (hb : b.size ≤ 150000000000000) (hh : ¬ ∃ seq ps sm, isHead b seq ps sm) :
    Calls Tryz.prog 101 #[v] w fun e w' => e = .returned (.tuple #[.int .i64 0, .slice none 0 0, .int .i64 0, .int .i64 4]) ∧ Below w.heap.size w w' := by
  obtain ⟨ao, cap, rfl, hlc, hcm, hcell⟩ := h
  obtain ⟨gb, off, rfl, hg, c0⟩ := hcell 0 (by simp)
  have HH := hid (fun w => head_not b hb hh w)
  rw [List.getElem_cons_zero, Nat.add_zero] at c0
  unfold maxLen at hcm
  rw [List.length_cons] at hlc ⊢
  clear hcell hh
  go_enter Tryz.func101, Tryz.ntmps101
  go_wp2_with (first
    | (go_at_call 130; refine (HH.out _).mono ?_; rintro e w1 ⟨n1, n4, pao, k, c, rfl, hb1⟩; have HB1 := hid hb1; clear hb1))
  refine bodyPost_ret (v := .tuple #[.int .i64 0, .slice none 0 0, .int .i64 0, .int .i64 4]) (by simp [results, Tryz.results101, go_sem]) rfl ⟨rfl, ?_⟩
  exact HB1.out.next (below_alloc _ _)
set_option maxRecDepth 100000 in
set_option maxHeartbeats 1000000 in
theorem decode_cut (v : Value) (b : ByteArray) (bl : List ByteArray) (w : World) (h : SLie w v (b :: bl)) (hb : b.size ≤ 150000000000000) (seq : Nat) (ps : List Int) (sm : Nat) (hh : isHead b seq ps sm) (hs : bl.length < ps.length) :
    Calls Tryz.prog 101 #[v] w fun e w' => e = .returned (.tuple #[.int .i64 0, .slice none 0 0, .int .i64 0, .int .i64 20]) ∧ Below w.heap.size w w' := by
  obtain ⟨ao, cap, rfl, hlc, hcm, hcell⟩ := h
  obtain ⟨gb, off, rfl, hg, c0⟩ := hcell 0 (by simp)
  have hpl : ps.length ≤ 48 := (placesB_iff.1 hh.2.2.2.1).2
  have HH := hid (fun w => head_yes b hb seq ps sm hh w)
  rw [List.getElem_cons_zero, Nat.add_zero] at c0
  unfold maxLen at hcm
  rw [List.length_cons] at hlc ⊢
  clear hcell hh
  go_enter Tryz.func101, Tryz.ntmps101
  go_wp2_with (go_at_call 130; fail)
  refine (HH.out _).mono ?_
  rintro e w1 ⟨pv, rfl, hl1, hb1⟩
  obtain ⟨pao, pcap, rfl, hp1, hp2, _⟩ := hl1
  have HB1 := hid hb1
  clear hb1
  unfold maxLen at hp2
  go_wp2
  refine bodyPost_ret (v := .tuple #[.int .i64 0, .slice none 0 0, .int .i64 0, .int .i64 20]) (by simp [results, Tryz.results101, go_sem]) rfl ⟨rfl, ?_⟩
  exact HB1.out.next (below_alloc _ _)
end Go.Proofs.YtopebghandojbaaGreat
namespace Go.Proofs.YtopebghandojbaaGreat
open Go.RowKit
theorem allD_blocks : ∀ {l : List ByteArray}, blocksB l = true → (allD l).length = 128 * l.length
  | [], _ => rfl
  | x :: l, h => by
    rw [blocksB_cons, Bool.and_eq_true, decide_eq_true_eq] at h
    have ih := allD_blocks h.2
    have hs : x.data.toList.length = 128 := by rw [Array.length_toList]; exact h.1
    unfold allD at *
    rw [List.map_cons, List.flatten_cons, List.length_append, ih, hs, List.length_cons]
    omega
/-- the cut of a slice of strings behind its first -/
theorem SLie.tail {w : World} {gb off cap n : Nat} {b : ByteArray} {bl : List ByteArray} (hg : gb < w.heap.size) (hn : n ≤ bl.length) (hlc : bl.length + 1 ≤ cap) (hcm : cap ≤ maxLen)
    (hcell : ∀ i (hi : i < (b :: bl).length), ∃ gb' off', (some ⟨gb, off, none⟩ : Option Addr) = some ⟨gb', off', none⟩ ∧ gb' < w.heap.size ∧ w.cell? ⟨gb', off' + i, none⟩ = some (.string (b :: bl)[i])) :
    SLie w (.slice (some ⟨gb, off + 1, none⟩) n (cap - 1)) (bl.take n) ∧ (cap = 1 → SLie w (.slice (some ⟨gb, off, none⟩) n 0) (bl.take n)) := by
  have hl : (bl.take n).length = n := by rw [List.length_take]; omega
  refine ⟨⟨_, _, by rw [hl], by omega, by omega, fun i hi => ⟨gb, off + 1, rfl, hg, ?_⟩⟩, fun h1 => ⟨_, _, by rw [hl], by omega, by decide, fun i hi => by omega⟩⟩
  obtain ⟨gb', off', e, _, c⟩ := hcell (i + 1) (by simp; omega)
  cases e
  rw [List.getElem_cons_succ] at c
  rw [List.getElem_take, show off + 1 + i = off + (i + 1) by omega]
  exact c
/-- changes, of which so many have been laid into their row -/
def Fil (g n q : Nat) (w : World) (L : List Chg) : Prop :=
  ∃ cur, w.heap[g]? = some (.cells cur 94 (0, 0)) ∧ cur.size = n * 2 ∧ ∀ i (hi : i < L.length), i < q → cur[i * 2]? = some (.int .i64 L[i].b) ∧ cur[i * 2 + 1]? = some (.string L[i].d)
theorem Fil.get {g n q : Nat} {w : World} {L : List Chg} (h : Fil g n q w L) (j : Nat) (hj : j < n * 2) : ∃ x, w.cell? ⟨g, j, none⟩ = some x := by
  obtain ⟨cur, h1, h2, _⟩ := h
  exact ⟨cur[j]'(by omega), by simp [World.cell?, h1]⟩
theorem Fil.free {g n q : Nat} {w : World} {L : List Chg} (h : Fil g n q w L) (j : Nat) : w.frozen? ⟨g, j, none⟩ = false := by
  obtain ⟨cur, h1, h2, _⟩ := h
  simp [World.frozen?, h1]
theorem cells_set {w : World} {g j : Nat} {cur : Array Value} {t : TypeId} (h : w.heap[g]? = some (.cells cur t (0, 0))) (v : Value) : (w.setCell ⟨g, j, none⟩ v).heap[g]? = some (.cells (cur.set! j v) t (0, 0)) := by
  simp [World.setCell, Array.getElem?_modify, h]
theorem Fil.set {g n q : Nat} {w : World} {L : List Chg} (h : Fil g n q w L) (hL : L.length = n) (hq : q < n) :
    Fil g n (q + 1) ((w.setCell ⟨g, q * 2, none⟩ (.int .i64 (L[q]'(by omega)).b)).setCell ⟨g, q * 2 + 1, none⟩ (.string (L[q]'(by omega)).d)) L := by
  obtain ⟨cur, h1, h2, h3⟩ := h
  refine ⟨_, cells_set (cells_set h1 _) _, by simp [h2], fun i hi hlt => ?_⟩
  by_cases hiq : i = q
  · subst hiq
    have z0 : i * 2 < cur.size := by omega
    have z1 : i * 2 + 1 < cur.size := by omega
    refine ⟨?_, ?_⟩
    · simp [z0]
    · simp [z1]
  · obtain ⟨k0, k1⟩ := h3 i hi (by omega)
    have z0 : ¬ q * 2 = i * 2 := by omega
    have z1 : ¬ q * 2 + 1 = i * 2 := by omega
    have z2 : ¬ q * 2 = i * 2 + 1 := by omega
    have z3 : ¬ q * 2 + 1 = i * 2 + 1 := by omega
    refine ⟨?_, ?_⟩
    · rw [← k0]; simp [z0, z1]
    · rw [← k1, Array.set!_eq_setIfInBounds, Array.set!_eq_setIfInBounds, Array.getElem?_setIfInBounds_ne z3, Array.getElem?_setIfInBounds_ne z2]
theorem Fil.lie {g n : Nat} {w : World} {L : List Chg} (h : Fil g n n w L) (hL : L.length = n) (hn : n ≤ 1000) : CLie w (.slice (some ⟨g, 0, none⟩) n n) L := by
  obtain ⟨cur, h1, h2, h3⟩ := h
  refine ⟨_, _, by rw [hL], by omega, by unfold maxLen; omega, fun i hi => ⟨g, 0, rfl, lt_of_block h1, ?_⟩⟩
  obtain ⟨k0, k1⟩ := h3 i hi (by omega)
  rw [Nat.zero_add]
  exact ⟨by simp [World.cell?, h1, k0], by simp [World.cell?, h1, k1]⟩
theorem Tryz.infoD44 : (Tryz.prog.info? 94).map (fun i => (i.zero, i.size, i.bytes)) = some (some (.agg #[.int .i64 0, .string ⟨#[]⟩]), 2, 24) := by kernel_rfl
theorem mkD (n : Nat) (hn : n ≤ 100) : ∃ cs, (∀ w : World, (Instr.makeSlice 24 (.int .i64 (n : Int)) (.int .i64 (n : Int))).run Tryz.prog w = .ok (.slice (some ⟨w.heap.size, 0, none⟩) n n) (w.alloc (.cells cs 94))) ∧ ∀ (w : World) L, Fil w.heap.size n 0 (w.alloc (.cells cs 94)) L := by
  obtain ⟨i0, hi, hz0, hz1, hz2⟩ := info_parts Tryz.infoD44
  refine ⟨madeCells (Value.agg #[.int .i64 0, .string ⟨#[]⟩]).cells (n * 2), fun w => ?_, fun w L => ⟨_, box_at _ _, by simp [size_madeCells], fun i hi h => by omega⟩⟩
  have := run_makeSlice (P := Tryz.prog) w 24 94 i0 (.agg #[.int .i64 0, .string ⟨#[]⟩]) Tryz.underlying24 hi hz0 .i64 .i64 (n : Int) (n : Int) (by omega) (by omega) (by rw [hz1]; omega) (by rw [hz2]; omega) (by omega)
  have e1 : (n : Int).toNat = n := by omega
  rw [e1, hz1] at this
  exact this
/-- places and what is to stand there -/
def zipC (ps : List Int) (D : List ByteArray) : List Chg := List.zipWith Chg.mk ps D
theorem zipC_len {ps : List Int} {D : List ByteArray} (h : D.length = ps.length) : (zipC ps D).length = ps.length := by unfold zipC; simp [h]
theorem zipC_get {ps : List Int} {D : List ByteArray} (q : Nat) (h0 : q < (zipC ps D).length) (h1 : q < ps.length) (h2 : q < D.length) : (zipC ps D)[q] = ⟨ps[q], D[q]⟩ := List.getElem_zipWith ..
/-- what Decode answers, its head being right and blocks enough -/
def DP (seq : Nat) (ps : List Int) (D : List ByteArray) (sm : Nat) (e : Ending) (w' : World) : Prop :=
  (blocksB D = true ∧ crc (allD D) = sm → ∃ v', e = .returned (.tuple #[.int .i64 seq, v', .int .i64 (1 + (ps.length : Int)), .int .i64 0]) ∧ CLie w' v' (zipC ps D)) ∧
  (¬ (blocksB D = true ∧ crc (allD D) = sm) → e = .returned (.tuple #[.int .i64 0, .slice none 0 0, .int .i64 0, .int .i64 4]))
set_option maxRecDepth 100000 in
set_option maxHeartbeats 4000000 in
theorem decode_data (v : Value) (b : ByteArray) (bl : List ByteArray) (w : World) (h : SLie w v (b :: bl)) (hb : b.size ≤ 150000000000000) (seq : Nat) (ps : List Int) (sm : Nat) (hh : isHead b seq ps sm) (hs : ps.length ≤ bl.length) :
    Calls Tryz.prog 101 #[v] w fun e w' => DP seq ps (bl.take ps.length) sm e w' ∧ Below w.heap.size w w' := by
  obtain ⟨ao, cap, rfl, hlc, hcm, hcell⟩ := h
  obtain ⟨gb, off, rfl, hg, c0⟩ := hcell 0 (by simp)
  have hpl : ps.length ≤ 48 := (placesB_iff.1 hh.2.2.2.1).2
  have HH := hid (fun w => head_yes b hb seq ps sm hh w)
  rw [List.getElem_cons_zero, Nat.add_zero] at c0
  rw [List.length_cons] at hlc
  have hDl : (bl.take ps.length).length = ps.length := by rw [List.length_take]; omega
  obtain ⟨hA, hBB⟩ := SLie.tail (n := ps.length) hg hs hlc hcm hcell
  unfold maxLen at hcm
  obtain ⟨D, hD⟩ : ∃ D, D = bl.take ps.length := ⟨_, rfl⟩
  rw [← hD] at hA hBB hDl ⊢
  have HA := hid hA
  have HBB := hid hBB
  rw [List.length_cons]
  clear hcell hh hD hA hBB
  go_enter Tryz.func101, Tryz.ntmps101
  go_wp2_with (go_at_call 130; fail)
  refine (HH.out _).mono ?_
  rintro e w1 ⟨pv, rfl, hl1, hb1⟩
  have HL1 := hid hl1
  obtain ⟨pao, pcap, rfl, hp1, hp2, hpc⟩ := hl1
  have HPC := hid hpc
  have HB1 := hid hb1
  clear hb1 hpc
  unfold maxLen at hp2
  have HV2 := hid (box_at w1 (.cells #[.int .i64 seq, .slice pao ps.length pcap, .int .i64 sm] 209))
  have HB2 := hid (HB1.out.next (below_alloc w1 (.cells #[.int .i64 seq, .slice pao ps.length pcap, .int .i64 sm] 209)))
  have HL2 := hid (HL1.out.below (below_alloc w1 (.cells #[.int .i64 seq, .slice pao ps.length pcap, .int .i64 sm] 209)))
  have hz2 : (w1.alloc (.cells #[.int .i64 seq, .slice pao ps.length pcap, .int .i64 sm] 209)).heap.size = w1.heap.size + 1 := by simp
  obtain ⟨R, hR⟩ : ∃ R : Bool, R = (!(blocksB D) || ((crc (allD D) : Int) != (sm : Int))) := ⟨_, rfl⟩
  have HR := hid hR
  obtain ⟨bb, hbb⟩ : ∃ bb, bb = blocksB D := ⟨_, rfl⟩
  have HAB := hid (fun V w h => areBlocks_any V D w h)
  rw [← hbb] at HAB
  have HBBD := hid hbb
  clear hR hbb
  by_cases hcap : cap = 1
  all_goals go_upto_region 10 with fail
  all_goals
    obtain ⟨w2, hw2⟩ : ∃ w2, w2 = w1.alloc (.cells #[.int .i64 seq, .slice pao ps.length pcap, .int .i64 sm] 209) := ⟨_, rfl⟩
    rw [← hw2] at HV2 HB2 HL2 hz2 ⊢
    simp only [Nat.add_sub_cancel_left]
    clear hw2
    obtain ⟨q0, q1, q2⟩ := three_cells HV2.out
    have hv2 : w1.heap.size < w2.heap.size := by omega
    go_cut [45] (fun s wx => s = .bool R ∧ Below w2.heap.size w2 wx)
    case first =>
      cases bb with
      | false =>
        first
          | (go_region_with (first
              | (go_at_call 131; refine (HAB.out _ _ (by first | exact HA.out.below (HB2.out.next ⟨rfl, rfl, rfl, Nat.le_refl _, fun _ _ => rfl⟩) | exact (HBB.out (by assumption)).below (HB2.out.next ⟨rfl, rfl, rfl, Nat.le_refl _, fun _ _ => rfl⟩))).mono ?_; rintro e wa ⟨rfl, hw⟩; have hw := hw.symm; subst hw)))
          | fail
        all_goals
          go_wp2
          go_meet
          exact ⟨by rw [HR.out, ← HBBD.out]; rfl, ⟨rfl, rfl, rfl, Nat.le_refl _, fun _ _ => rfl⟩⟩
      | true =>
        have hall : (allD D).length ≤ 140737488355328 := by rw [allD_blocks HBBD.out.symm]; omega
        have HSM := hid (fun V w h => dsum_any V D w h hall (by omega))
        obtain ⟨c, hc⟩ : ∃ c, c = crc (allD D) := ⟨_, rfl⟩
        rw [← hc] at HSM HR
        clear hc hall
        cases hcb : ((c : Int) != (sm : Int))
        all_goals
          rw [hcb] at HR
          go_region_held3 (fun w' => w'.cell? ⟨w1.heap.size, 2, none⟩ = some (.int .i64 sm)) (first | exact q2 | exact hq | go_keep) (first
            | (go_at_call 131; refine (HAB.out _ _ (by first | exact HA.out.below (HB2.out.next ⟨rfl, rfl, rfl, Nat.le_refl _, fun _ _ => rfl⟩) | exact (HBB.out (by assumption)).below (HB2.out.next ⟨rfl, rfl, rfl, Nat.le_refl _, fun _ _ => rfl⟩))).mono ?_; rintro e wa ⟨rfl, hw⟩; have hw := hw.symm; subst hw)
            | (go_at_call 132; refine (HSM.out _ _ (by first | exact HA.out.below (HB2.out.next ⟨rfl, rfl, rfl, Nat.le_refl _, fun _ _ => rfl⟩) | exact (HBB.out (by assumption)).below (HB2.out.next ⟨rfl, rfl, rfl, Nat.le_refl _, fun _ _ => rfl⟩))).mono ?_; rintro e wb ⟨rfl, hbb⟩; have hq := (hbb.cell (p := ⟨w1.heap.size, 2, none⟩) hv2).trans q2))
          all_goals
            go_wp2
            go_meet
            exact ⟨by rw [HR.out, ← HBBD.out]; rfl, ⟨hbb.os, hbb.tape, hbb.output, hbb.size, hbb.block⟩⟩
    case rest =>
      obtain ⟨rfl, hbx⟩ := hcut
      rename World => wc
      have HBX := hid hbx
      have HV3 := hid ((hbx.block _ hv2).trans HV2.out)
      clear q0 q1 q2
      obtain ⟨q0, q1, q2⟩ := three_cells HV3.out
      have hv3 := lt_of_block HV3.out
      have HL3 := hid (HL2.out.below hbx)
      have HBW := hid (HB2.out.next hbx)
      clear hbx
      cases R with
      | true =>
        go_wp2
        refine bodyPost_ret (v := .tuple #[.int .i64 0, .slice none 0 0, .int .i64 0, .int .i64 4]) (by simp [results, Tryz.results101, go_sem]) rfl ⟨?_, HBW.out⟩
        have hno : ¬ (blocksB D = true ∧ crc (allD D) = sm) := by
          rintro ⟨k1, k2⟩
          have := HR.out
          rw [k1, k2] at this
          simp at this
        exact ⟨fun h => absurd h hno, fun _ => rfl⟩
      | false =>
        have HG : Hid (blocksB D = true ∧ crc (allD D) = sm) := by
          have := HR.out
          simp at this
          exact ⟨this.1, by omega⟩
        obtain ⟨cs, hmk, hmF⟩ := mkD ps.length (by omega)
        have HMF := hid hmF
        clear hmF
        have hmk1 := hmk wc
        have HF4 := hid (HMF.out wc (zipC ps D))
        have HB4 := hid (below_alloc wc (.cells cs 94))
        go_wp2
        clear hmk1 hmk
        obtain ⟨w4, hw4⟩ : ∃ w4, w4 = wc.alloc (.cells cs 94) := ⟨_, rfl⟩
        rw [← hw4] at HF4 HB4 ⊢
        clear hw4
        have hZl := zipC_len hDl
        have HPL := hid HL3.out
        go_loopw [51] (fun i wr => ∃ q : Nat, i = .int .i64 q ∧ q ≤ ps.length ∧ Fil wc.heap.size ps.length q wr (zipC ps D) ∧ Below wc.heap.size wc wr) (fun i _ => ps.length - (intOf i).toNat)
        case atStart => exact ⟨0, rfl, Nat.zero_le _, HF4.out, HB4.out⟩
        case round =>
          obtain ⟨q, rfl, hq, hFq, hBq⟩ := hrel
          have HFq := hid hFq
          have HBq := hid hBq
          have HVq := hid ((hBq.block _ hv3).trans HV3.out)
          clear hFq hBq q0 q1 q2
          obtain ⟨q0, q1, q2⟩ := three_cells HVq.out
          have hvq := lt_of_block HVq.out
          by_cases hqk : q < ps.length
          · first
            | (exfalso; omega)
            | (obtain ⟨pg, po, e, hpg, pc⟩ : ∃ pg po, pao = some ⟨pg, po, none⟩ ∧ pg < wc.heap.size ∧ wc.cell? ⟨pg, po + q, none⟩ = some (.int .i64 ps[q]) := by
                 obtain ⟨ao', cap', e, _, _, hc⟩ := HL3.out
                 obtain ⟨g', o', e', k1, k2⟩ := hc q hqk
                 injection e with e1 e2 e3
                 exact ⟨g', o', e1.trans e', k1, k2⟩
               subst e
               have dc : w.cell? ⟨gb, off + 1 + q, none⟩ = some (.string (D[q]'(by omega))) := by
                 obtain ⟨ao', cap', e, _, _, hc⟩ := HA.out
                 obtain ⟨g', o', e', k1, k2⟩ := hc q (by omega)
                 injection e with e1 e2 e3
                 have e4 := e1.trans e'
                 injection e4 with e5
                 injection e5 with e6 e7 e8
                 subst e6 e7
                 exact k2
               have hgc : gb < wc.heap.size := Nat.lt_of_lt_of_le hg HBW.out.size
               replace dc := (HBq.out.cell (p := ⟨gb, off + 1 + q, none⟩) hgc).trans ((HBW.out.cell (p := ⟨gb, off + 1 + q, none⟩) hg).trans dc)
               replace pc := (HBq.out.cell (p := ⟨pg, po + q, none⟩) hpg).trans pc
               have hgr : gb < wr.heap.size := Nat.lt_of_lt_of_le hgc HBq.out.size
               have hpr : pg < wr.heap.size := Nat.lt_of_lt_of_le hpg HBq.out.size
               obtain ⟨x0, hx0⟩ := HFq.out.get (q * 2) (by omega)
               obtain ⟨x1, hx1⟩ := HFq.out.get (q * 2 + 1) (by omega)
               have hf0 := HFq.out.free (q * 2)
               have hf1 := HFq.out.free (q * 2 + 1)
               have HS := hid (HFq.out.set hZl hqk)
               rw [zipC_get q (by omega) hqk (by omega)] at HS
               obtain ⟨p, hp⟩ : ∃ p, p = ps[q] := ⟨_, rfl⟩
               obtain ⟨d, hd⟩ : ∃ d, d = D[q]'(by omega) := ⟨_, rfl⟩
               rw [← hp] at pc HS
               rw [← hd] at dc HS
               clear hp hd
               have hwl : wc.heap.size < wr.heap.size := by
                 obtain ⟨cur, k, _⟩ := HFq.out
                 exact lt_of_block k
               go_wp2
               go_roundw
               case rel => exact ⟨q + 1, by go_num, by omega, HS.out, (HBq.out.setCell (Nat.le_refl _) _).setCell (Nat.le_refl _) _⟩
               case measure => simp [intOf]; omega)
          · have hqe : q = ps.length := by omega
            subst hqe
            go_wp2
            refine bodyPost_ret (v := .tuple #[.int .i64 seq, .slice (some ⟨wc.heap.size, 0, none⟩) ps.length ps.length, .int .i64 (1 + (ps.length : Int)), .int .i64 0]) (by simp [results, Tryz.results101, go_sem]) rfl ⟨?_, HBW.out.next HBq.out⟩
            exact ⟨fun _ => ⟨_, rfl, HFq.out.lie hZl (by omega)⟩, fun h => absurd HG.out h⟩
end Go.Proofs.YtopebghandojbaaGreat
