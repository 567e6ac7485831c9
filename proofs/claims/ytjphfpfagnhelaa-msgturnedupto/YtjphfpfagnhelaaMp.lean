import Derived.Test.YtjphfpfagnhelaaMn
import Derived.Deep.DeepCutAuto
import Derived.Deep.DeepFit
import Derived.Deep.CutBlock
import Derived.Lib.ConvBytes
namespace Go.Proofs.Ytjphfpfagnhelaa
open Go.RowKit Go.Maps Go.Shelf

/-- bytes in a row of the call's own, from its first place on -/
def BIs (g : Nat) (w : World) (l : List UInt8) : Prop := ∃ cur fz, w.heap[g]? = some (.cells cur 5 fz) ∧ l.length ≤ fz.1 ∧ cur.toList.take l.length = bc l
theorem BIs.get {g : Nat} {w : World} {l : List UInt8} (h : BIs g w l) (j : Nat) (hj : j < l.length) : w.cell? ⟨g, j, none⟩ = some (.int .u8 ((l[j]).toNat : Int)) := by
  obtain ⟨cur, fz, h1, h2, h3⟩ := h
  have h4 : cur.toList[j]? = (bc l)[j]? := by rw [← h3, List.getElem?_take_of_lt hj]
  simp [World.cell?, h1]
  rw [← Array.getElem?_toList, h4]
  simp [bc, hj]
theorem BIs.free {g : Nat} {w : World} {l : List UInt8} (h : BIs g w l) (j : Nat) (hj : j < l.length) : w.frozen? ⟨g, j, none⟩ = false := by
  obtain ⟨cur, fz, h1, h2, h3⟩ := h
  obtain ⟨lo, hi⟩ := fz
  simp [World.frozen?, h1]
  intro h5
  simp at h2
  omega
theorem BIs.set {g : Nat} {w : World} {l : List UInt8} (h : BIs g w l) (j : Nat) (b : UInt8) (x : Int) (hx : x = (b.toNat : Int)) : BIs g (w.setCell ⟨g, j, none⟩ (.int .u8 x)) (l.set j b) := by
  obtain ⟨cur, fz, h1, h2, h3⟩ := h
  have hlt := lt_of_block h1
  have h' : w.heap[g] = .cells cur 5 fz := by simpa [Array.getElem?_eq_getElem hlt] using h1
  subst hx
  refine ⟨cur.setIfInBounds j (.int .u8 b.toNat), fz, ?_, by rw [List.length_set]; exact h2, ?_⟩
  · show (w.heap.modify g _)[g]? = _
    rw [Array.getElem?_eq_getElem (by simpa using hlt), Array.getElem_modify_self, h']
    rfl
  · rw [List.length_set, Array.toList_setIfInBounds, List.take_set, h3]
    simp [bc, List.map_set]
theorem BIs.conv {g : Nat} {w : World} {l : List UInt8} (h : BIs g w l) (cap : Nat) : (convert 43 9 (.slice (some ⟨g, 0, none⟩) l.length cap)).run Try.prog w = .ok (.string (st l)) w := by
  rw [← strOf_bytes]
  refine run_convert_bytes_arg w 43 5 Try.underlying43 Try.underlying5 g 0 l.length cap _ (by simp) (fun i hi => ?_) 9 Try.underlying9
  have hi' : i < l.length := by simpa using hi
  rw [Nat.zero_add, h.get i hi']
  simp [List.getElem?_eq_getElem hi']
theorem bytes_new (w : World) (s : ByteArray) : ∃ cap wc, (convert 9 43 (.string s)).run Try.prog w = .ok (.slice (some ⟨w.heap.size, 0, none⟩) s.size cap) wc ∧ BIs w.heap.size wc s.data.toList ∧ Below w.heap.size w wc := by
  refine ⟨_, _, Lib.run_convert_string_bytes w 9 43 5 s Try.underlying9 Try.underlying43 Try.underlying5, ⟨_, _, Lib.bytesWorld_at_new w 5 s, ?_, ?_⟩, ⟨?_, ?_, ?_, ?_, ?_⟩⟩
  · simp [Lib.bytesCells]
  · simp [Lib.bytesCells, bc]
  · rfl
  · rfl
  · rfl
  · rw [Lib.bytesWorld_size]; omega
  · intro k hk; exact Lib.bytesWorld_at_old w 5 s k hk

/-- one bit turned -/
theorem big_flip : ∀ (l : List UInt8) (k j : Nat) (hk : k < l.length), j < 8 → Cd.big (l.set k (l[k] ^^^ UInt8.ofNat (2 ^ j))) = Cd.big l ^^^ 2 ^ (8 * k + j)
  | [], k, j, hk, _ => by simp at hk
  | b :: l, 0, j, _, hj => by
    show Cd.big ((b ^^^ UInt8.ofNat (2 ^ j)) :: l) = _
    have e : (UInt8.ofNat (2 ^ j)).toNat = 2 ^ j := by
      rw [UInt8.toNat_ofNat']
      exact Nat.mod_eq_of_lt (Nat.lt_of_lt_of_le (Nat.pow_lt_pow_right (by decide) hj) (by decide))
    rw [Cd.big_cons, Cd.big_cons, UInt8.toNat_xor, e, Nat.mul_zero, Nat.zero_add]
    ac_rfl
  | b :: l, k + 1, j, hk, hj => by
    have hk' : k < l.length := by simpa using hk
    show Cd.big (b :: l.set k (l[k] ^^^ UInt8.ofNat (2 ^ j))) = _
    rw [Cd.big_cons, Cd.big_cons, big_flip l k j hk' hj, show 2 ^ (8 * (k + 1) + j) = 256 * 2 ^ (8 * k + j) by rw [show 8 * (k + 1) + j = 8 + (8 * k + j) by omega, Nat.pow_add 2 8]]
    have e : ∀ x y : Nat, 256 * (x ^^^ y) = 256 * x ^^^ 256 * y := by
      intro x y
      apply Nat.eq_of_testBit_eq
      intro i
      rw [Nat.testBit_xor]
      have h2 : ∀ m : Nat, (256 * m).testBit i = (decide (8 ≤ i) && m.testBit (i - 8)) := fun m => by
        have := Nat.testBit_two_pow_mul (i := 8) (a := m) (j := i)
        rw [show (2 : Nat) ^ 8 = 256 by decide] at this
        simpa using this
      rw [h2, h2, h2, Nat.testBit_xor]
      cases decide (8 ≤ i) <;> simp
    rw [e]
    ac_rfl
theorem bx8 (a b : UInt8) : bits .xor .u8 (a.toNat : Int) (b.toNat : Int) = ((a ^^^ b).toNat : Int) := by
  show IntKind.u8.wrap (((BitVec.ofInt 8 (a.toNat : Int) ^^^ BitVec.ofInt 8 (b.toNat : Int)).toNat : Nat) : Int) = _
  have ha := a.toNat_lt
  have hb := b.toNat_lt
  have hx := (a ^^^ b).toNat_lt
  rw [BitVec.toNat_xor, BitVec.ofInt_natCast, BitVec.ofInt_natCast, BitVec.toNat_ofNat, BitVec.toNat_ofNat, Nat.mod_eq_of_lt (by omega), Nat.mod_eq_of_lt (by omega), ← UInt8.toNat_xor, IntKind.wrap_u8]
  omega
theorem xor_m (x : UInt8) (m : Nat) : bits .xor .u8 (x.toNat : Int) (2 ^ m % 256) = ((x ^^^ UInt8.ofNat (2 ^ m)).toNat : Int) := by
  have e : (2 : Int) ^ m % 256 = ((UInt8.ofNat (2 ^ m)).toNat : Int) := by
    rw [UInt8.toNat_ofNat']
    have : ((2 ^ m % 256 : Nat) : Int) = (2 : Int) ^ m % 256 := by simp
    rw [← this]
  rw [e, bx8]
theorem mul_xor (A x y : Nat) : 2 ^ A * (x ^^^ y) = 2 ^ A * x ^^^ 2 ^ A * y := by
  apply Nat.eq_of_testBit_eq
  intro i
  rw [Nat.testBit_xor, Nat.testBit_two_pow_mul, Nat.testBit_two_pow_mul, Nat.testBit_two_pow_mul, Nat.testBit_xor]
  cases decide (A ≤ i) <;> simp
/-- what was turned does not carry its sum -/
theorem turned_bad (x y : ByteArray) (n A P : Nat) (hx : x.size = n + 4) (hy : y.size = n + 4) (hP : P < 4294967296) (h0 : P ≠ 0) (hA : A ≤ 8 * (n + 4)) (hb : Cd.big y.data.toList = Cd.big x.data.toList ^^^ 2 ^ A * P)
    (hc : Cd.crc (x.data.toList.take n) = Cd.big (x.data.toList.drop n)) : ¬ Cd.crc (y.data.toList.take n) = Cd.big (y.data.toList.drop n) := by
  have lx : (x.data.toList.drop n).length = 4 := by rw [List.length_drop, Cd.len_list]; omega
  have ly : (y.data.toList.drop n).length = 4 := by rw [List.length_drop, Cd.len_list]; omega
  rw [Cd.carries lx, List.take_append_drop, Cd.len_list, hx] at hc
  rw [Cd.carries ly, List.take_append_drop, Cd.len_list, hy]
  exact Cd.found hP h0 hA hb hc
/-- a block of which a bit is turned -/
def flipB (s : ByteArray) (i j : Nat) (h : i < s.data.toList.length) : ByteArray := st (s.data.toList.set i (s.data.toList[i] ^^^ UInt8.ofNat (2 ^ j)))
theorem flipB_size (s : ByteArray) (i j : Nat) (h : i < s.data.toList.length) : (flipB s i j h).size = s.size := by unfold flipB; rw [st_size, List.length_set, Cd.len_list]
theorem flipB_big (s : ByteArray) (i j : Nat) (h : i < s.data.toList.length) (hj : j < 8) : Cd.big (flipB s i j h).data.toList = Cd.big s.data.toList ^^^ 2 ^ (8 * i + j) := by unfold flipB; rw [st_list]; exact big_flip _ i j h hj
theorem BIs.lt {g : Nat} {w : World} {l : List UInt8} (h : BIs g w l) : g < w.heap.size := by
  obtain ⟨cur, fz, h1, _⟩ := h
  exact lt_of_block h1
theorem mS_parts {m : Mg} (he : mE m = 0) : mS m = Cd.sealL (mL m) ∧ (mL m).length + 4 ≤ 60000 := by
  refine ⟨by unfold mS; rw [if_pos he], ?_⟩
  rcases mE_cases m with h | h | h | h
  · omega
  · omega
  · omega
  · exact h.2.2.1
theorem flip_shut {m : Mg} (he : mE m = 0) {i j : Nat} (h : i < (st (mS m)).data.toList.length) (hj : j < 8) : Shut (flipB (st (mS m)) i j h) := by
  obtain ⟨e1, e2⟩ := mS_parts he
  have hsz : (st (mS m)).size = (mL m).length + 4 := by rw [e1, st_size, Cd.sealL_len]
  have htk : (st (mS m)).data.toList.take (mL m).length = mL m := by rw [st_list, e1]; unfold Cd.sealL; rw [List.take_left]
  have hcr := (Cd.seal_back (st (mS m)) (mL m).length hsz).1 (by rw [htk, e1]; rfl)
  have hi : i < (mL m).length + 4 := by rw [Cd.len_list, hsz] at h; exact h
  refine .inr ⟨(mL m).length, by rw [flipB_size, hsz], ?_⟩
  exact turned_bad (st (mS m)) _ (mL m).length (8 * i + j) 1 hsz (by rw [flipB_size, hsz]) (by decide) (by decide) (by omega) (by rw [Nat.mul_one]; exact flipB_big _ _ _ _ hj) hcr
set_option maxRecDepth 100000 in
set_option maxHeartbeats 2000000 in
theorem turned_e {w : World} (m : Mg) (h : MOk w m) (a1 a2 : Int) (he : mE m ≠ 0) : Calls Try.prog 5 #[m.v, .int .i64 a1, .int .i64 a2] w fun e w' => e = .returned (.bool true) ∧ Below w.heap.size w w' := by
  have HSP := hid speaks_any
  have hz : st (mS m) = ⟨#[]⟩ := by unfold mS; rw [if_neg he]; rfl
  have HEN := hid (fun w' (hb : Below w.heap.size w w') => enc_any m (h.below hb))
  rw [hz] at HEN
  obtain ⟨sa, sn, sc, hsl⟩ := mg_sl h
  have hmv : m.v = .agg #[.int .i64 m.K, .int .i64 m.V, .int .i64 m.N, .int .i64 m.A, .int .i64 m.C, .slice sa sn sc] := by unfold Mg.v; rw [hsl]
  rw [hmv] at HEN ⊢
  obtain ⟨EM, hEM⟩ : ∃ E, E = mE m := ⟨_, rfl⟩
  rw [← hEM] at HEN he
  have x0 : (EM != 0) = true := by simp [he]
  clear hmv hsl h hEM he hz
  obtain ⟨K, V, N, A, C, sl, es⟩ := m
  simp only [] at HEN ⊢
  have bcur : Hid (Below w.heap.size w (w.alloc (.cells #[.int .i64 K, .int .i64 V, .int .i64 N, .int .i64 A, .int .i64 C, .slice sa sn sc] 24))) := hid (below_alloc w _)
  go_enter Try.func5, Try.ntmps5
  go_wp2_with (first | (go_at_call 7; (with_reducible refine (HEN.out _ bcur.out).mono ?_); rintro e wa ⟨rfl, b1⟩; have bn := hid (bcur.out.next b1); clear bcur b1; have bcur := bn; clear bn) | (go_at_call 15; refine (HSP.out _).mono ?_; rintro e wg ⟨rfl, b1⟩; have HF := hid (bcur.out.next b1)))
  go_ret
  exact ⟨rfl, HF.out⟩
set_option maxRecDepth 100000 in
set_option maxHeartbeats 4000000 in
theorem turned_y {w : World} (m : Mg) (h : MOk w m) (a1 a2 : Int) (he : mE m = 0) (bt ck : Nat) (hbt : bt < 8 * (mS m).length) (hs1 : ((a1 < 0 ∨ 8 * ((mS m).length : Int) ≤ a1) ∧ bt = 0) ∨ (0 ≤ a1 ∧ a1 < 8 * ((mS m).length : Int) ∧ a1 = (bt : Int))) (hck : ck ≤ 3) (hs2 : ((a2 < 0 ∨ 3 < a2) ∧ ck = 3) ∨ (0 ≤ a2 ∧ a2 ≤ 3 ∧ a2 = (ck : Int))) :
    Calls Try.prog 5 #[m.v, .int .i64 a1, .int .i64 a2] w fun e w' => e = .returned (.bool true) ∧ Below w.heap.size w w' := by
  have HSP := hid speaks_any
  have HSM := hid (fun w' => same_yes (w := w') 0 0 0 0 0 (ELie.nil w') (ELie.nil w'))
  have HEN := hid (fun w' (hb : Below w.heap.size w w') => enc_any m (h.below hb))
  obtain ⟨p1, p2⟩ := mS_parts he
  have hlen : (mS m).length = (mL m).length + 4 := by rw [p1, Cd.sealL_len]
  have hk : bt / 8 < (st (mS m)).data.toList.length := by rw [st_list]; omega
  have HFL := hid (fun w' => decode_shut (flipB (st (mS m)) (bt / 8) (bt % 8) hk) (by rw [flipB_size, st_size]; omega) (flip_shut he hk (by omega)) w')
  have HCT := hid (fun w' => decode_shut ((st (mS m)).extract 0 ck) (by rw [ByteArray.size_extract]; omega) (.inl (by rw [ByteArray.size_extract]; omega)) w')
  unfold zeroV at HFL HCT
  obtain ⟨sa, sn, sc, hsl⟩ := mg_sl h
  have hmv : m.v = .agg #[.int .i64 m.K, .int .i64 m.V, .int .i64 m.N, .int .i64 m.A, .int .i64 m.C, .slice sa sn sc] := by unfold Mg.v; rw [hsl]
  rw [hmv] at HEN ⊢
  rw [he] at HEN
  obtain ⟨s, hs⟩ : ∃ s, s = st (mS m) := ⟨_, rfl⟩
  have hsz : s.size = (mS m).length := by rw [hs, st_size]
  rw [← hsz] at hbt hs1 hlen
  obtain ⟨y, hy⟩ : ∃ y, y = flipB (st (mS m)) (bt / 8) (bt % 8) hk := ⟨_, rfl⟩
  rw [← hy] at HFL
  obtain ⟨x, hx⟩ : ∃ x, x = (st (mS m)).data.toList[bt / 8] := ⟨_, rfl⟩
  have hyl : y.data.toList = s.data.toList.set (bt / 8) (x ^^^ UInt8.ofNat (2 ^ (bt % 8))) := by
    rw [hy, hx, hs]; unfold flipB; rw [st_list]
  have hxs : s.data.toList[bt / 8]? = some x := by rw [hs, List.getElem?_eq_getElem hk, hx]
  have HYL := hid hyl
  have HXS := hid hxs
  have HYS := hid (st_toList y)
  have HYZ := hid (show y.size = s.size from by rw [hy, flipB_size, hs])
  obtain ⟨zc, hzc⟩ : ∃ z, z = (st (mS m)).extract 0 ck := ⟨_, rfl⟩
  rw [← hzc] at HCT
  have hcsl : ∀ w, (Instr.slice 9 (.string s) none (some (.int .i64 (ck : Int))) none).run Try.prog w = .ok (.string zc) w := fun w => by
    rw [run_slice_string_h w 9 s Try.underlying9 .i64 (ck : Int) (by omega) (by omega), Int.toNat_natCast, hzc, hs]
  have hks : bt / 8 < s.data.toList.length := by rw [hs]; exact hk
  rw [← hs] at HEN
  have hzn : s ≠ ⟨#[]⟩ := by
    intro e
    rw [e] at hlen
    have e0 : (⟨#[]⟩ : ByteArray).size = 0 := rfl
    omega
  have hzn2 := str_ne hzn
  have hzn3 : s.toList.isEmpty = false := by
    cases h : s.toList.isEmpty with
    | false => rfl
    | true =>
      rw [List.isEmpty_iff.1 h] at hzn2
      simp at hzn2
  have hzn4 : (s.toList == ([] : List UInt8)) = false := by
    cases h : s.toList with
    | nil => rw [h] at hzn3; cases hzn3
    | cons b t => rfl
  have hw8 : IntKind.i64.wrap (8 * (s.size : Int)) = 8 * (s.size : Int) := by rw [IntKind.wrap_i64]; omega
  have hs60 : s.size ≤ 60000 := by omega
  have HS1 := hid hs1
  have HS2 := hid hs2
  clear hmv hsl h hsz p1 p2 he hyl hxs hx hy hzc hzn hlen hs1 hs2 hs hk
  obtain ⟨K, V, N, A, C, sl, es⟩ := m
  simp only [] at HEN ⊢
  have bcur : Hid (Below w.heap.size w (w.alloc (.cells #[.int .i64 K, .int .i64 V, .int .i64 N, .int .i64 A, .int .i64 C, .slice sa sn sc] 24))) := hid (below_alloc w _)
  have hxk : s.data.toList[bt / 8] = x := by have := HXS.out; rw [List.getElem?_eq_getElem hks] at this; exact Option.some.inj this
  have hib : (0 : Int) ≤ ((bt / 8 : Nat) : Int) ∧ ((bt / 8 : Nat) : Int) < (s.size : Int) := by have := Cd.len_list s; omega
  have hpos : 0 < s.size := by omega
  rcases HS1.out with ⟨h1 | h1, h2⟩ | ⟨h1, h2, h3⟩
  · subst h2
    have x1 : a1 < 0 := h1
    simp only [Nat.zero_div, Nat.zero_mod] at HYL HXS hks hxk hib
    rcases HS2.out with ⟨k1 | k1, k2⟩ | ⟨k1, k2, k3⟩
    · subst k2
      have hcs3 : ∀ w, (Instr.slice 9 (.string s) none (some (.int .i64 3)) none).run Try.prog w = .ok (.string zc) w := fun w => hcsl w
      clear HS1 HS2
      go_enter Try.func5, Try.ntmps5
      go_upto_region 8 with (first | (go_at_call 7; (with_reducible refine (HEN.out _ bcur.out).mono ?_); rintro e wa ⟨rfl, b1⟩; obtain ⟨tcap, wc, hconv, hBI, hBe⟩ := bytes_new wa s; have hcell := hBI.get _ hks; have hfree := hBI.free _ hks; rw [hxk] at hcell; have HBI := hid hBI; have hbw := hid (bcur.out.next b1); have hgl := hBI.lt; have HBE := hid hBe; clear bcur b1 hBI hBe))
      have HY2 : Hid (BIs wa.heap.size (wc.setCell ⟨wa.heap.size, 0, none⟩ (.int .u8 (bits .xor .u8 (x.toNat : Int) 1))) y.data.toList) := hid (by rw [HYL.out]; exact HBI.out.set _ _ _ (by have := xor_m x 0; simpa using this))
      have bcur : Hid (Below w.heap.size w (wc.setCell ⟨wa.heap.size, 0, none⟩ (.int .u8 (bits .xor .u8 (x.toNat : Int) 1)))) := hid ((hbw.out.next HBE.out).setCell (p := ⟨wa.heap.size, _, none⟩) hbw.out.size _)
      obtain ⟨wd, hwd⟩ : ∃ W, W = (wc.setCell ⟨wa.heap.size, 0, none⟩ (.int .u8 (bits .xor .u8 (x.toNat : Int) 1))) := ⟨_, rfl⟩
      rw [← hwd] at HY2 bcur ⊢
      have hcv : (convert 43 9 (.slice (some ⟨wa.heap.size, 0, none⟩) s.size tcap)).run Try.prog wd = .ok (.string y) wd := by
        have := HY2.out.conv tcap
        rw [HYS.out, Cd.len_list, HYZ.out] at this
        exact this
      clear hwd HBI HBE hbw HY2
      go_wp2_with (first | (go_at_call 10; (with_reducible refine (HFL.out _).mono ?_); rintro e wq ⟨rfl, b1⟩; have mx := hid (show MBox wq.heap.size (wq.alloc (.cells #[.int .i64 0, .int .i64 0, .int .i64 0, .int .i64 0, .int .i64 0, .slice none 0 0] 24)) 0 0 0 0 0 (.slice none 0 0) from box_at _ _); have bn := hid ((bcur.out.next b1).next (below_alloc wq (.cells #[.int .i64 0, .int .i64 0, .int .i64 0, .int .i64 0, .int .i64 0, .slice none 0 0] 24))); clear bcur b1; have bcur := bn; clear bn) | (go_at_call 10; (with_reducible refine (HCT.out _).mono ?_); rintro e wq2 ⟨rfl, b1⟩; have m2 : MBox wq.heap.size (wq2.alloc (.cells #[.int .i64 0, .int .i64 0, .int .i64 0, .int .i64 0, .int .i64 0, .slice none 0 0] 24)) 0 0 0 0 0 (.slice none 0 0) := (alloc_past _ _ (Nat.lt_of_lt_of_le (lt_of_block mx.out) b1.size)).trans ((b1.block _ (lt_of_block mx.out)).trans mx.out); obtain ⟨f0, f1, f2, f3, f4, f5⟩ := m2.cells; clear m2; have bn := hid ((bcur.out.next b1).next (below_alloc wq2 (.cells #[.int .i64 0, .int .i64 0, .int .i64 0, .int .i64 0, .int .i64 0, .slice none 0 0] 24))); clear bcur b1; have bcur := bn; clear bn) | (go_at_call 14; (with_reducible refine (HSM.out _).mono ?_); rintro e wr ⟨rfl, b1⟩; have bn := hid (bcur.out.next b1); clear bcur b1; have bcur := bn; clear bn) | (go_at_call 15; refine (HSP.out _).mono ?_; rintro e wg ⟨rfl, b1⟩; have HF := hid (bcur.out.next b1)))
      go_ret
      exact ⟨rfl, HF.out⟩
    · subst k2
      have y1 : ¬ a2 < 0 := by omega
      have hcs3 : ∀ w, (Instr.slice 9 (.string s) none (some (.int .i64 3)) none).run Try.prog w = .ok (.string zc) w := fun w => hcsl w
      clear HS1 HS2
      go_enter Try.func5, Try.ntmps5
      go_upto_region 8 with (first | (go_at_call 7; (with_reducible refine (HEN.out _ bcur.out).mono ?_); rintro e wa ⟨rfl, b1⟩; obtain ⟨tcap, wc, hconv, hBI, hBe⟩ := bytes_new wa s; have hcell := hBI.get _ hks; have hfree := hBI.free _ hks; rw [hxk] at hcell; have HBI := hid hBI; have hbw := hid (bcur.out.next b1); have hgl := hBI.lt; have HBE := hid hBe; clear bcur b1 hBI hBe))
      have HY2 : Hid (BIs wa.heap.size (wc.setCell ⟨wa.heap.size, 0, none⟩ (.int .u8 (bits .xor .u8 (x.toNat : Int) 1))) y.data.toList) := hid (by rw [HYL.out]; exact HBI.out.set _ _ _ (by have := xor_m x 0; simpa using this))
      have bcur : Hid (Below w.heap.size w (wc.setCell ⟨wa.heap.size, 0, none⟩ (.int .u8 (bits .xor .u8 (x.toNat : Int) 1)))) := hid ((hbw.out.next HBE.out).setCell (p := ⟨wa.heap.size, _, none⟩) hbw.out.size _)
      obtain ⟨wd, hwd⟩ : ∃ W, W = (wc.setCell ⟨wa.heap.size, 0, none⟩ (.int .u8 (bits .xor .u8 (x.toNat : Int) 1))) := ⟨_, rfl⟩
      rw [← hwd] at HY2 bcur ⊢
      have hcv : (convert 43 9 (.slice (some ⟨wa.heap.size, 0, none⟩) s.size tcap)).run Try.prog wd = .ok (.string y) wd := by
        have := HY2.out.conv tcap
        rw [HYS.out, Cd.len_list, HYZ.out] at this
        exact this
      clear hwd HBI HBE hbw HY2
      go_wp2_with (first | (go_at_call 10; (with_reducible refine (HFL.out _).mono ?_); rintro e wq ⟨rfl, b1⟩; have mx := hid (show MBox wq.heap.size (wq.alloc (.cells #[.int .i64 0, .int .i64 0, .int .i64 0, .int .i64 0, .int .i64 0, .slice none 0 0] 24)) 0 0 0 0 0 (.slice none 0 0) from box_at _ _); have bn := hid ((bcur.out.next b1).next (below_alloc wq (.cells #[.int .i64 0, .int .i64 0, .int .i64 0, .int .i64 0, .int .i64 0, .slice none 0 0] 24))); clear bcur b1; have bcur := bn; clear bn) | (go_at_call 10; (with_reducible refine (HCT.out _).mono ?_); rintro e wq2 ⟨rfl, b1⟩; have m2 : MBox wq.heap.size (wq2.alloc (.cells #[.int .i64 0, .int .i64 0, .int .i64 0, .int .i64 0, .int .i64 0, .slice none 0 0] 24)) 0 0 0 0 0 (.slice none 0 0) := (alloc_past _ _ (Nat.lt_of_lt_of_le (lt_of_block mx.out) b1.size)).trans ((b1.block _ (lt_of_block mx.out)).trans mx.out); obtain ⟨f0, f1, f2, f3, f4, f5⟩ := m2.cells; clear m2; have bn := hid ((bcur.out.next b1).next (below_alloc wq2 (.cells #[.int .i64 0, .int .i64 0, .int .i64 0, .int .i64 0, .int .i64 0, .slice none 0 0] 24))); clear bcur b1; have bcur := bn; clear bn) | (go_at_call 14; (with_reducible refine (HSM.out _).mono ?_); rintro e wr ⟨rfl, b1⟩; have bn := hid (bcur.out.next b1); clear bcur b1; have bcur := bn; clear bn) | (go_at_call 15; refine (HSP.out _).mono ?_; rintro e wg ⟨rfl, b1⟩; have HF := hid (bcur.out.next b1)))
      go_ret
      exact ⟨rfl, HF.out⟩
    · subst k3
      have y1 : ¬ (ck : Int) < 0 := by omega
      have y2 : ¬ (3 : Int) < (ck : Int) := by omega
      clear HS1 HS2
      go_enter Try.func5, Try.ntmps5
      go_upto_region 8 with (first | (go_at_call 7; (with_reducible refine (HEN.out _ bcur.out).mono ?_); rintro e wa ⟨rfl, b1⟩; obtain ⟨tcap, wc, hconv, hBI, hBe⟩ := bytes_new wa s; have hcell := hBI.get _ hks; have hfree := hBI.free _ hks; rw [hxk] at hcell; have HBI := hid hBI; have hbw := hid (bcur.out.next b1); have hgl := hBI.lt; have HBE := hid hBe; clear bcur b1 hBI hBe))
      have HY2 : Hid (BIs wa.heap.size (wc.setCell ⟨wa.heap.size, 0, none⟩ (.int .u8 (bits .xor .u8 (x.toNat : Int) 1))) y.data.toList) := hid (by rw [HYL.out]; exact HBI.out.set _ _ _ (by have := xor_m x 0; simpa using this))
      have bcur : Hid (Below w.heap.size w (wc.setCell ⟨wa.heap.size, 0, none⟩ (.int .u8 (bits .xor .u8 (x.toNat : Int) 1)))) := hid ((hbw.out.next HBE.out).setCell (p := ⟨wa.heap.size, _, none⟩) hbw.out.size _)
      obtain ⟨wd, hwd⟩ : ∃ W, W = (wc.setCell ⟨wa.heap.size, 0, none⟩ (.int .u8 (bits .xor .u8 (x.toNat : Int) 1))) := ⟨_, rfl⟩
      rw [← hwd] at HY2 bcur ⊢
      have hcv : (convert 43 9 (.slice (some ⟨wa.heap.size, 0, none⟩) s.size tcap)).run Try.prog wd = .ok (.string y) wd := by
        have := HY2.out.conv tcap
        rw [HYS.out, Cd.len_list, HYZ.out] at this
        exact this
      clear hwd HBI HBE hbw HY2
      go_wp2_with (first | (go_at_call 10; (with_reducible refine (HFL.out _).mono ?_); rintro e wq ⟨rfl, b1⟩; have mx := hid (show MBox wq.heap.size (wq.alloc (.cells #[.int .i64 0, .int .i64 0, .int .i64 0, .int .i64 0, .int .i64 0, .slice none 0 0] 24)) 0 0 0 0 0 (.slice none 0 0) from box_at _ _); have bn := hid ((bcur.out.next b1).next (below_alloc wq (.cells #[.int .i64 0, .int .i64 0, .int .i64 0, .int .i64 0, .int .i64 0, .slice none 0 0] 24))); clear bcur b1; have bcur := bn; clear bn) | (go_at_call 10; (with_reducible refine (HCT.out _).mono ?_); rintro e wq2 ⟨rfl, b1⟩; have m2 : MBox wq.heap.size (wq2.alloc (.cells #[.int .i64 0, .int .i64 0, .int .i64 0, .int .i64 0, .int .i64 0, .slice none 0 0] 24)) 0 0 0 0 0 (.slice none 0 0) := (alloc_past _ _ (Nat.lt_of_lt_of_le (lt_of_block mx.out) b1.size)).trans ((b1.block _ (lt_of_block mx.out)).trans mx.out); obtain ⟨f0, f1, f2, f3, f4, f5⟩ := m2.cells; clear m2; have bn := hid ((bcur.out.next b1).next (below_alloc wq2 (.cells #[.int .i64 0, .int .i64 0, .int .i64 0, .int .i64 0, .int .i64 0, .slice none 0 0] 24))); clear bcur b1; have bcur := bn; clear bn) | (go_at_call 14; (with_reducible refine (HSM.out _).mono ?_); rintro e wr ⟨rfl, b1⟩; have bn := hid (bcur.out.next b1); clear bcur b1; have bcur := bn; clear bn) | (go_at_call 15; refine (HSP.out _).mono ?_; rintro e wg ⟨rfl, b1⟩; have HF := hid (bcur.out.next b1)))
      go_ret
      exact ⟨rfl, HF.out⟩
  · subst h2
    have x1 : ¬ a1 < 0 := by omega
    simp only [Nat.zero_div, Nat.zero_mod] at HYL HXS hks hxk hib
    rcases HS2.out with ⟨k1 | k1, k2⟩ | ⟨k1, k2, k3⟩
    · subst k2
      have hcs3 : ∀ w, (Instr.slice 9 (.string s) none (some (.int .i64 3)) none).run Try.prog w = .ok (.string zc) w := fun w => hcsl w
      clear HS1 HS2
      go_enter Try.func5, Try.ntmps5
      go_upto_region 8 with (first | (go_at_call 7; (with_reducible refine (HEN.out _ bcur.out).mono ?_); rintro e wa ⟨rfl, b1⟩; obtain ⟨tcap, wc, hconv, hBI, hBe⟩ := bytes_new wa s; have hcell := hBI.get _ hks; have hfree := hBI.free _ hks; rw [hxk] at hcell; have HBI := hid hBI; have hbw := hid (bcur.out.next b1); have hgl := hBI.lt; have HBE := hid hBe; clear bcur b1 hBI hBe))
      have HY2 : Hid (BIs wa.heap.size (wc.setCell ⟨wa.heap.size, 0, none⟩ (.int .u8 (bits .xor .u8 (x.toNat : Int) 1))) y.data.toList) := hid (by rw [HYL.out]; exact HBI.out.set _ _ _ (by have := xor_m x 0; simpa using this))
      have bcur : Hid (Below w.heap.size w (wc.setCell ⟨wa.heap.size, 0, none⟩ (.int .u8 (bits .xor .u8 (x.toNat : Int) 1)))) := hid ((hbw.out.next HBE.out).setCell (p := ⟨wa.heap.size, _, none⟩) hbw.out.size _)
      obtain ⟨wd, hwd⟩ : ∃ W, W = (wc.setCell ⟨wa.heap.size, 0, none⟩ (.int .u8 (bits .xor .u8 (x.toNat : Int) 1))) := ⟨_, rfl⟩
      rw [← hwd] at HY2 bcur ⊢
      have hcv : (convert 43 9 (.slice (some ⟨wa.heap.size, 0, none⟩) s.size tcap)).run Try.prog wd = .ok (.string y) wd := by
        have := HY2.out.conv tcap
        rw [HYS.out, Cd.len_list, HYZ.out] at this
        exact this
      clear hwd HBI HBE hbw HY2
      go_wp2_with (first | (go_at_call 10; (with_reducible refine (HFL.out _).mono ?_); rintro e wq ⟨rfl, b1⟩; have mx := hid (show MBox wq.heap.size (wq.alloc (.cells #[.int .i64 0, .int .i64 0, .int .i64 0, .int .i64 0, .int .i64 0, .slice none 0 0] 24)) 0 0 0 0 0 (.slice none 0 0) from box_at _ _); have bn := hid ((bcur.out.next b1).next (below_alloc wq (.cells #[.int .i64 0, .int .i64 0, .int .i64 0, .int .i64 0, .int .i64 0, .slice none 0 0] 24))); clear bcur b1; have bcur := bn; clear bn) | (go_at_call 10; (with_reducible refine (HCT.out _).mono ?_); rintro e wq2 ⟨rfl, b1⟩; have m2 : MBox wq.heap.size (wq2.alloc (.cells #[.int .i64 0, .int .i64 0, .int .i64 0, .int .i64 0, .int .i64 0, .slice none 0 0] 24)) 0 0 0 0 0 (.slice none 0 0) := (alloc_past _ _ (Nat.lt_of_lt_of_le (lt_of_block mx.out) b1.size)).trans ((b1.block _ (lt_of_block mx.out)).trans mx.out); obtain ⟨f0, f1, f2, f3, f4, f5⟩ := m2.cells; clear m2; have bn := hid ((bcur.out.next b1).next (below_alloc wq2 (.cells #[.int .i64 0, .int .i64 0, .int .i64 0, .int .i64 0, .int .i64 0, .slice none 0 0] 24))); clear bcur b1; have bcur := bn; clear bn) | (go_at_call 14; (with_reducible refine (HSM.out _).mono ?_); rintro e wr ⟨rfl, b1⟩; have bn := hid (bcur.out.next b1); clear bcur b1; have bcur := bn; clear bn) | (go_at_call 15; refine (HSP.out _).mono ?_; rintro e wg ⟨rfl, b1⟩; have HF := hid (bcur.out.next b1)))
      go_ret
      exact ⟨rfl, HF.out⟩
    · subst k2
      have y1 : ¬ a2 < 0 := by omega
      have hcs3 : ∀ w, (Instr.slice 9 (.string s) none (some (.int .i64 3)) none).run Try.prog w = .ok (.string zc) w := fun w => hcsl w
      clear HS1 HS2
      go_enter Try.func5, Try.ntmps5
      go_upto_region 8 with (first | (go_at_call 7; (with_reducible refine (HEN.out _ bcur.out).mono ?_); rintro e wa ⟨rfl, b1⟩; obtain ⟨tcap, wc, hconv, hBI, hBe⟩ := bytes_new wa s; have hcell := hBI.get _ hks; have hfree := hBI.free _ hks; rw [hxk] at hcell; have HBI := hid hBI; have hbw := hid (bcur.out.next b1); have hgl := hBI.lt; have HBE := hid hBe; clear bcur b1 hBI hBe))
      have HY2 : Hid (BIs wa.heap.size (wc.setCell ⟨wa.heap.size, 0, none⟩ (.int .u8 (bits .xor .u8 (x.toNat : Int) 1))) y.data.toList) := hid (by rw [HYL.out]; exact HBI.out.set _ _ _ (by have := xor_m x 0; simpa using this))
      have bcur : Hid (Below w.heap.size w (wc.setCell ⟨wa.heap.size, 0, none⟩ (.int .u8 (bits .xor .u8 (x.toNat : Int) 1)))) := hid ((hbw.out.next HBE.out).setCell (p := ⟨wa.heap.size, _, none⟩) hbw.out.size _)
      obtain ⟨wd, hwd⟩ : ∃ W, W = (wc.setCell ⟨wa.heap.size, 0, none⟩ (.int .u8 (bits .xor .u8 (x.toNat : Int) 1))) := ⟨_, rfl⟩
      rw [← hwd] at HY2 bcur ⊢
      have hcv : (convert 43 9 (.slice (some ⟨wa.heap.size, 0, none⟩) s.size tcap)).run Try.prog wd = .ok (.string y) wd := by
        have := HY2.out.conv tcap
        rw [HYS.out, Cd.len_list, HYZ.out] at this
        exact this
      clear hwd HBI HBE hbw HY2
      go_wp2_with (first | (go_at_call 10; (with_reducible refine (HFL.out _).mono ?_); rintro e wq ⟨rfl, b1⟩; have mx := hid (show MBox wq.heap.size (wq.alloc (.cells #[.int .i64 0, .int .i64 0, .int .i64 0, .int .i64 0, .int .i64 0, .slice none 0 0] 24)) 0 0 0 0 0 (.slice none 0 0) from box_at _ _); have bn := hid ((bcur.out.next b1).next (below_alloc wq (.cells #[.int .i64 0, .int .i64 0, .int .i64 0, .int .i64 0, .int .i64 0, .slice none 0 0] 24))); clear bcur b1; have bcur := bn; clear bn) | (go_at_call 10; (with_reducible refine (HCT.out _).mono ?_); rintro e wq2 ⟨rfl, b1⟩; have m2 : MBox wq.heap.size (wq2.alloc (.cells #[.int .i64 0, .int .i64 0, .int .i64 0, .int .i64 0, .int .i64 0, .slice none 0 0] 24)) 0 0 0 0 0 (.slice none 0 0) := (alloc_past _ _ (Nat.lt_of_lt_of_le (lt_of_block mx.out) b1.size)).trans ((b1.block _ (lt_of_block mx.out)).trans mx.out); obtain ⟨f0, f1, f2, f3, f4, f5⟩ := m2.cells; clear m2; have bn := hid ((bcur.out.next b1).next (below_alloc wq2 (.cells #[.int .i64 0, .int .i64 0, .int .i64 0, .int .i64 0, .int .i64 0, .slice none 0 0] 24))); clear bcur b1; have bcur := bn; clear bn) | (go_at_call 14; (with_reducible refine (HSM.out _).mono ?_); rintro e wr ⟨rfl, b1⟩; have bn := hid (bcur.out.next b1); clear bcur b1; have bcur := bn; clear bn) | (go_at_call 15; refine (HSP.out _).mono ?_; rintro e wg ⟨rfl, b1⟩; have HF := hid (bcur.out.next b1)))
      go_ret
      exact ⟨rfl, HF.out⟩
    · subst k3
      have y1 : ¬ (ck : Int) < 0 := by omega
      have y2 : ¬ (3 : Int) < (ck : Int) := by omega
      clear HS1 HS2
      go_enter Try.func5, Try.ntmps5
      go_upto_region 8 with (first | (go_at_call 7; (with_reducible refine (HEN.out _ bcur.out).mono ?_); rintro e wa ⟨rfl, b1⟩; obtain ⟨tcap, wc, hconv, hBI, hBe⟩ := bytes_new wa s; have hcell := hBI.get _ hks; have hfree := hBI.free _ hks; rw [hxk] at hcell; have HBI := hid hBI; have hbw := hid (bcur.out.next b1); have hgl := hBI.lt; have HBE := hid hBe; clear bcur b1 hBI hBe))
      have HY2 : Hid (BIs wa.heap.size (wc.setCell ⟨wa.heap.size, 0, none⟩ (.int .u8 (bits .xor .u8 (x.toNat : Int) 1))) y.data.toList) := hid (by rw [HYL.out]; exact HBI.out.set _ _ _ (by have := xor_m x 0; simpa using this))
      have bcur : Hid (Below w.heap.size w (wc.setCell ⟨wa.heap.size, 0, none⟩ (.int .u8 (bits .xor .u8 (x.toNat : Int) 1)))) := hid ((hbw.out.next HBE.out).setCell (p := ⟨wa.heap.size, _, none⟩) hbw.out.size _)
      obtain ⟨wd, hwd⟩ : ∃ W, W = (wc.setCell ⟨wa.heap.size, 0, none⟩ (.int .u8 (bits .xor .u8 (x.toNat : Int) 1))) := ⟨_, rfl⟩
      rw [← hwd] at HY2 bcur ⊢
      have hcv : (convert 43 9 (.slice (some ⟨wa.heap.size, 0, none⟩) s.size tcap)).run Try.prog wd = .ok (.string y) wd := by
        have := HY2.out.conv tcap
        rw [HYS.out, Cd.len_list, HYZ.out] at this
        exact this
      clear hwd HBI HBE hbw HY2
      go_wp2_with (first | (go_at_call 10; (with_reducible refine (HFL.out _).mono ?_); rintro e wq ⟨rfl, b1⟩; have mx := hid (show MBox wq.heap.size (wq.alloc (.cells #[.int .i64 0, .int .i64 0, .int .i64 0, .int .i64 0, .int .i64 0, .slice none 0 0] 24)) 0 0 0 0 0 (.slice none 0 0) from box_at _ _); have bn := hid ((bcur.out.next b1).next (below_alloc wq (.cells #[.int .i64 0, .int .i64 0, .int .i64 0, .int .i64 0, .int .i64 0, .slice none 0 0] 24))); clear bcur b1; have bcur := bn; clear bn) | (go_at_call 10; (with_reducible refine (HCT.out _).mono ?_); rintro e wq2 ⟨rfl, b1⟩; have m2 : MBox wq.heap.size (wq2.alloc (.cells #[.int .i64 0, .int .i64 0, .int .i64 0, .int .i64 0, .int .i64 0, .slice none 0 0] 24)) 0 0 0 0 0 (.slice none 0 0) := (alloc_past _ _ (Nat.lt_of_lt_of_le (lt_of_block mx.out) b1.size)).trans ((b1.block _ (lt_of_block mx.out)).trans mx.out); obtain ⟨f0, f1, f2, f3, f4, f5⟩ := m2.cells; clear m2; have bn := hid ((bcur.out.next b1).next (below_alloc wq2 (.cells #[.int .i64 0, .int .i64 0, .int .i64 0, .int .i64 0, .int .i64 0, .slice none 0 0] 24))); clear bcur b1; have bcur := bn; clear bn) | (go_at_call 14; (with_reducible refine (HSM.out _).mono ?_); rintro e wr ⟨rfl, b1⟩; have bn := hid (bcur.out.next b1); clear bcur b1; have bcur := bn; clear bn) | (go_at_call 15; refine (HSP.out _).mono ?_; rintro e wg ⟨rfl, b1⟩; have HF := hid (bcur.out.next b1)))
      go_ret
      exact ⟨rfl, HF.out⟩
  · subst h3
    have x1 : ¬ (bt : Int) < 0 := by omega
    have x2 : ¬ 8 * (s.size : Int) ≤ (bt : Int) := by omega
    rcases HS2.out with ⟨k1 | k1, k2⟩ | ⟨k1, k2, k3⟩
    · subst k2
      have hcs3 : ∀ w, (Instr.slice 9 (.string s) none (some (.int .i64 3)) none).run Try.prog w = .ok (.string zc) w := fun w => hcsl w
      clear HS1 HS2
      go_enter Try.func5, Try.ntmps5
      go_upto_region 8 with (first | (go_at_call 7; (with_reducible refine (HEN.out _ bcur.out).mono ?_); rintro e wa ⟨rfl, b1⟩; obtain ⟨tcap, wc, hconv, hBI, hBe⟩ := bytes_new wa s; have hcell := hBI.get _ hks; have hfree := hBI.free _ hks; rw [hxk] at hcell; have HBI := hid hBI; have hbw := hid (bcur.out.next b1); have hgl := hBI.lt; have HBE := hid hBe; clear bcur b1 hBI hBe))
      have HY2 : Hid (BIs wa.heap.size (wc.setCell ⟨wa.heap.size, bt / 8, none⟩ (.int .u8 (bits .xor .u8 (x.toNat : Int) (2 ^ (bt % 8) % 256)))) y.data.toList) := hid (by rw [HYL.out]; exact HBI.out.set _ _ _ (xor_m x _))
      have bcur : Hid (Below w.heap.size w (wc.setCell ⟨wa.heap.size, bt / 8, none⟩ (.int .u8 (bits .xor .u8 (x.toNat : Int) (2 ^ (bt % 8) % 256))))) := hid ((hbw.out.next HBE.out).setCell (p := ⟨wa.heap.size, _, none⟩) hbw.out.size _)
      obtain ⟨wd, hwd⟩ : ∃ W, W = (wc.setCell ⟨wa.heap.size, bt / 8, none⟩ (.int .u8 (bits .xor .u8 (x.toNat : Int) (2 ^ (bt % 8) % 256)))) := ⟨_, rfl⟩
      rw [← hwd] at HY2 bcur ⊢
      have hcv : (convert 43 9 (.slice (some ⟨wa.heap.size, 0, none⟩) s.size tcap)).run Try.prog wd = .ok (.string y) wd := by
        have := HY2.out.conv tcap
        rw [HYS.out, Cd.len_list, HYZ.out] at this
        exact this
      clear hwd HBI HBE hbw HY2
      go_wp2_with (first | (go_at_call 10; (with_reducible refine (HFL.out _).mono ?_); rintro e wq ⟨rfl, b1⟩; have mx := hid (show MBox wq.heap.size (wq.alloc (.cells #[.int .i64 0, .int .i64 0, .int .i64 0, .int .i64 0, .int .i64 0, .slice none 0 0] 24)) 0 0 0 0 0 (.slice none 0 0) from box_at _ _); have bn := hid ((bcur.out.next b1).next (below_alloc wq (.cells #[.int .i64 0, .int .i64 0, .int .i64 0, .int .i64 0, .int .i64 0, .slice none 0 0] 24))); clear bcur b1; have bcur := bn; clear bn) | (go_at_call 10; (with_reducible refine (HCT.out _).mono ?_); rintro e wq2 ⟨rfl, b1⟩; have m2 : MBox wq.heap.size (wq2.alloc (.cells #[.int .i64 0, .int .i64 0, .int .i64 0, .int .i64 0, .int .i64 0, .slice none 0 0] 24)) 0 0 0 0 0 (.slice none 0 0) := (alloc_past _ _ (Nat.lt_of_lt_of_le (lt_of_block mx.out) b1.size)).trans ((b1.block _ (lt_of_block mx.out)).trans mx.out); obtain ⟨f0, f1, f2, f3, f4, f5⟩ := m2.cells; clear m2; have bn := hid ((bcur.out.next b1).next (below_alloc wq2 (.cells #[.int .i64 0, .int .i64 0, .int .i64 0, .int .i64 0, .int .i64 0, .slice none 0 0] 24))); clear bcur b1; have bcur := bn; clear bn) | (go_at_call 14; (with_reducible refine (HSM.out _).mono ?_); rintro e wr ⟨rfl, b1⟩; have bn := hid (bcur.out.next b1); clear bcur b1; have bcur := bn; clear bn) | (go_at_call 15; refine (HSP.out _).mono ?_; rintro e wg ⟨rfl, b1⟩; have HF := hid (bcur.out.next b1)))
      go_ret
      exact ⟨rfl, HF.out⟩
    · subst k2
      have y1 : ¬ a2 < 0 := by omega
      have hcs3 : ∀ w, (Instr.slice 9 (.string s) none (some (.int .i64 3)) none).run Try.prog w = .ok (.string zc) w := fun w => hcsl w
      clear HS1 HS2
      go_enter Try.func5, Try.ntmps5
      go_upto_region 8 with (first | (go_at_call 7; (with_reducible refine (HEN.out _ bcur.out).mono ?_); rintro e wa ⟨rfl, b1⟩; obtain ⟨tcap, wc, hconv, hBI, hBe⟩ := bytes_new wa s; have hcell := hBI.get _ hks; have hfree := hBI.free _ hks; rw [hxk] at hcell; have HBI := hid hBI; have hbw := hid (bcur.out.next b1); have hgl := hBI.lt; have HBE := hid hBe; clear bcur b1 hBI hBe))
      have HY2 : Hid (BIs wa.heap.size (wc.setCell ⟨wa.heap.size, bt / 8, none⟩ (.int .u8 (bits .xor .u8 (x.toNat : Int) (2 ^ (bt % 8) % 256)))) y.data.toList) := hid (by rw [HYL.out]; exact HBI.out.set _ _ _ (xor_m x _))
      have bcur : Hid (Below w.heap.size w (wc.setCell ⟨wa.heap.size, bt / 8, none⟩ (.int .u8 (bits .xor .u8 (x.toNat : Int) (2 ^ (bt % 8) % 256))))) := hid ((hbw.out.next HBE.out).setCell (p := ⟨wa.heap.size, _, none⟩) hbw.out.size _)
      obtain ⟨wd, hwd⟩ : ∃ W, W = (wc.setCell ⟨wa.heap.size, bt / 8, none⟩ (.int .u8 (bits .xor .u8 (x.toNat : Int) (2 ^ (bt % 8) % 256)))) := ⟨_, rfl⟩
      rw [← hwd] at HY2 bcur ⊢
      have hcv : (convert 43 9 (.slice (some ⟨wa.heap.size, 0, none⟩) s.size tcap)).run Try.prog wd = .ok (.string y) wd := by
        have := HY2.out.conv tcap
        rw [HYS.out, Cd.len_list, HYZ.out] at this
        exact this
      clear hwd HBI HBE hbw HY2
      go_wp2_with (first | (go_at_call 10; (with_reducible refine (HFL.out _).mono ?_); rintro e wq ⟨rfl, b1⟩; have mx := hid (show MBox wq.heap.size (wq.alloc (.cells #[.int .i64 0, .int .i64 0, .int .i64 0, .int .i64 0, .int .i64 0, .slice none 0 0] 24)) 0 0 0 0 0 (.slice none 0 0) from box_at _ _); have bn := hid ((bcur.out.next b1).next (below_alloc wq (.cells #[.int .i64 0, .int .i64 0, .int .i64 0, .int .i64 0, .int .i64 0, .slice none 0 0] 24))); clear bcur b1; have bcur := bn; clear bn) | (go_at_call 10; (with_reducible refine (HCT.out _).mono ?_); rintro e wq2 ⟨rfl, b1⟩; have m2 : MBox wq.heap.size (wq2.alloc (.cells #[.int .i64 0, .int .i64 0, .int .i64 0, .int .i64 0, .int .i64 0, .slice none 0 0] 24)) 0 0 0 0 0 (.slice none 0 0) := (alloc_past _ _ (Nat.lt_of_lt_of_le (lt_of_block mx.out) b1.size)).trans ((b1.block _ (lt_of_block mx.out)).trans mx.out); obtain ⟨f0, f1, f2, f3, f4, f5⟩ := m2.cells; clear m2; have bn := hid ((bcur.out.next b1).next (below_alloc wq2 (.cells #[.int .i64 0, .int .i64 0, .int .i64 0, .int .i64 0, .int .i64 0, .slice none 0 0] 24))); clear bcur b1; have bcur := bn; clear bn) | (go_at_call 14; (with_reducible refine (HSM.out _).mono ?_); rintro e wr ⟨rfl, b1⟩; have bn := hid (bcur.out.next b1); clear bcur b1; have bcur := bn; clear bn) | (go_at_call 15; refine (HSP.out _).mono ?_; rintro e wg ⟨rfl, b1⟩; have HF := hid (bcur.out.next b1)))
      go_ret
      exact ⟨rfl, HF.out⟩
    · subst k3
      have y1 : ¬ (ck : Int) < 0 := by omega
      have y2 : ¬ (3 : Int) < (ck : Int) := by omega
      clear HS1 HS2
      go_enter Try.func5, Try.ntmps5
      go_upto_region 8 with (first | (go_at_call 7; (with_reducible refine (HEN.out _ bcur.out).mono ?_); rintro e wa ⟨rfl, b1⟩; obtain ⟨tcap, wc, hconv, hBI, hBe⟩ := bytes_new wa s; have hcell := hBI.get _ hks; have hfree := hBI.free _ hks; rw [hxk] at hcell; have HBI := hid hBI; have hbw := hid (bcur.out.next b1); have hgl := hBI.lt; have HBE := hid hBe; clear bcur b1 hBI hBe))
      have HY2 : Hid (BIs wa.heap.size (wc.setCell ⟨wa.heap.size, bt / 8, none⟩ (.int .u8 (bits .xor .u8 (x.toNat : Int) (2 ^ (bt % 8) % 256)))) y.data.toList) := hid (by rw [HYL.out]; exact HBI.out.set _ _ _ (xor_m x _))
      have bcur : Hid (Below w.heap.size w (wc.setCell ⟨wa.heap.size, bt / 8, none⟩ (.int .u8 (bits .xor .u8 (x.toNat : Int) (2 ^ (bt % 8) % 256))))) := hid ((hbw.out.next HBE.out).setCell (p := ⟨wa.heap.size, _, none⟩) hbw.out.size _)
      obtain ⟨wd, hwd⟩ : ∃ W, W = (wc.setCell ⟨wa.heap.size, bt / 8, none⟩ (.int .u8 (bits .xor .u8 (x.toNat : Int) (2 ^ (bt % 8) % 256)))) := ⟨_, rfl⟩
      rw [← hwd] at HY2 bcur ⊢
      have hcv : (convert 43 9 (.slice (some ⟨wa.heap.size, 0, none⟩) s.size tcap)).run Try.prog wd = .ok (.string y) wd := by
        have := HY2.out.conv tcap
        rw [HYS.out, Cd.len_list, HYZ.out] at this
        exact this
      clear hwd HBI HBE hbw HY2
      go_wp2_with (first | (go_at_call 10; (with_reducible refine (HFL.out _).mono ?_); rintro e wq ⟨rfl, b1⟩; have mx := hid (show MBox wq.heap.size (wq.alloc (.cells #[.int .i64 0, .int .i64 0, .int .i64 0, .int .i64 0, .int .i64 0, .slice none 0 0] 24)) 0 0 0 0 0 (.slice none 0 0) from box_at _ _); have bn := hid ((bcur.out.next b1).next (below_alloc wq (.cells #[.int .i64 0, .int .i64 0, .int .i64 0, .int .i64 0, .int .i64 0, .slice none 0 0] 24))); clear bcur b1; have bcur := bn; clear bn) | (go_at_call 10; (with_reducible refine (HCT.out _).mono ?_); rintro e wq2 ⟨rfl, b1⟩; have m2 : MBox wq.heap.size (wq2.alloc (.cells #[.int .i64 0, .int .i64 0, .int .i64 0, .int .i64 0, .int .i64 0, .slice none 0 0] 24)) 0 0 0 0 0 (.slice none 0 0) := (alloc_past _ _ (Nat.lt_of_lt_of_le (lt_of_block mx.out) b1.size)).trans ((b1.block _ (lt_of_block mx.out)).trans mx.out); obtain ⟨f0, f1, f2, f3, f4, f5⟩ := m2.cells; clear m2; have bn := hid ((bcur.out.next b1).next (below_alloc wq2 (.cells #[.int .i64 0, .int .i64 0, .int .i64 0, .int .i64 0, .int .i64 0, .slice none 0 0] 24))); clear bcur b1; have bcur := bn; clear bn) | (go_at_call 14; (with_reducible refine (HSM.out _).mono ?_); rintro e wr ⟨rfl, b1⟩; have bn := hid (bcur.out.next b1); clear bcur b1; have bcur := bn; clear bn) | (go_at_call 15; refine (HSP.out _).mono ?_; rintro e wg ⟨rfl, b1⟩; have HF := hid (bcur.out.next b1)))
      go_ret
      exact ⟨rfl, HF.out⟩
theorem turned_walk {w : World} (m : Mg) (h : MOk w m) (a1 a2 : Int) : Calls Try.prog 5 #[m.v, .int .i64 a1, .int .i64 a2] w fun e w' => e = .returned (.bool true) ∧ Below w.heap.size w w' := by
  by_cases he : mE m = 0
  · obtain ⟨p1, _⟩ := mS_parts he
    have hp : 4 ≤ (mS m).length := by rw [p1, Cd.sealL_len]; omega
    obtain ⟨bt, b1, b2⟩ : ∃ bt : Nat, bt < 8 * (mS m).length ∧ (((a1 < 0 ∨ 8 * ((mS m).length : Int) ≤ a1) ∧ bt = 0) ∨ (0 ≤ a1 ∧ a1 < 8 * ((mS m).length : Int) ∧ a1 = (bt : Int))) := by
      by_cases k : 0 ≤ a1 ∧ a1 < 8 * ((mS m).length : Int)
      · exact ⟨a1.toNat, by omega, .inr ⟨k.1, k.2, by omega⟩⟩
      · exact ⟨0, by omega, .inl ⟨by omega, rfl⟩⟩
    obtain ⟨ck, c1, c2⟩ : ∃ ck : Nat, ck ≤ 3 ∧ (((a2 < 0 ∨ 3 < a2) ∧ ck = 3) ∨ (0 ≤ a2 ∧ a2 ≤ 3 ∧ a2 = (ck : Int))) := by
      by_cases k : 0 ≤ a2 ∧ a2 ≤ 3
      · exact ⟨a2.toNat, by omega, .inr ⟨k.1, k.2, by omega⟩⟩
      · exact ⟨3, Nat.le_refl _, .inl ⟨by omega, rfl⟩⟩
    exact turned_y m h a1 a2 he bt ck b1 b2 c1 c2
  · exact turned_e m h a1 a2 he
end Go.Proofs.Ytjphfpfagnhelaa
