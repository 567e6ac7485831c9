import Derived.Test.YtopebghandojbaaGreatRp
import Derived.Test.YtopebghandojbaaGreatLc
import Derived.Test.YtopebghandojbaaGreatKe
import Derived.Test.YtopebghandojbaaGreatLd
import Derived.Test.YtopebghandojbaaGreatLf
import Derived.Test.YtopebghandojbaaGreatLg
import Derived.Deep.RegionHeld3
import Derived.Deep.DeepCutAuto
namespace Go.Proofs.YtopebghandojbaaGreat
open Go.RowKit
theorem sized2 (w : World) : Calls Tryz.prog 137 #[.int .i64 2] w fun e w' => e = .returned (.bool true) ∧ w' = w := by
  go_enter Tryz.func137, Tryz.ntmps137
  go_wp2
  go_ret
  exact ⟨rfl, rfl⟩
/-- a reader that has failed answers nothing more -/
theorem q8_bad (g : Nat) (s : ByteArray) (e : Int) (he : e ≠ 0) (w : World) (h : QIs g w s e) : Calls Tryz.prog 108 #[.pointer (some ⟨g, 0, none⟩), .int .i64 8] w fun x w' => x = .returned (.tuple #[.int .i64 0, .int .i64 e]) ∧ QIs g w' s e ∧ Kept w.heap.size g w w' := by
  have h0 := h.c0
  have h1 := h.c1
  have hne : (e != 0) = true := by simpa using he
  have HQ := hid h
  clear h he
  go_enter Tryz.func108, Tryz.ntmps108
  go_wp2_with (first | (go_at_call 137; refine (sized8 _).mono ?_; rintro x w' ⟨rfl, hw⟩; have hw := hw.symm; subst hw))
  go_quiet (fail)
  go_wp2
  go_ret2
  exact ⟨rfl, HQ.out.drew _, (Kept.refl _ _ _).drewN _⟩
theorem q8_form2 (g : Nat) (s : ByteArray) (hks : 8 ≤ s.size) (hb : ¬ fval (s.data.toList.take 8) < 9223372036854775808) (w : World) (h : QIs g w s 0) : Calls Tryz.prog 108 #[.pointer (some ⟨g, 0, none⟩), .int .i64 8] w fun x w' => x = .returned (.tuple #[.int .i64 0, .int .i64 4]) ∧ QIs g w' s 4 ∧ Kept w.heap.size g w w' := by
  have ht : ¬ s[7].toNat ≤ 127 := fun hh => hb ((top_byte s hks).2 hh)
  have h0 := h.c0
  have h1 := h.c1
  have hf := h.fr 1
  have h2 := h.c1' (e' := 4)
  have HQ := hid h
  clear hb h
  go_enter Tryz.func108, Tryz.ntmps108
  go_wp2_with (first | (go_at_call 137; refine (sized8 _).mono ?_; rintro x w' ⟨rfl, hw⟩; have hw := hw.symm; subst hw))
  go_quiet (fail)
  go_wp2
  go_ret2
  exact ⟨rfl, (HQ.out.set1).drew _, ((Kept.refl _ _ _).setCell 1 _).drewN _⟩
set_option maxRecDepth 100000 in
set_option maxHeartbeats 2000000 in
theorem q8_ok2 (g : Nat) (s : ByteArray) (hks : 8 ≤ s.size) (hs : s.size ≤ maxLen) (hb : fval (s.data.toList.take 8) < 9223372036854775808) (w : World) (h : QIs g w s 0) : Calls Tryz.prog 108 #[.pointer (some ⟨g, 0, none⟩), .int .i64 8] w fun x w' => x = .returned (.tuple #[.int .i64 (fval (s.data.toList.take 8)), .int .i64 0]) ∧ QIs g w' (s.extract 8 s.size) 0 ∧ Kept w.heap.size g w w' := by
  have h0 := h.c0
  have h1 := h.c1
  have hf := h.fr 0
  have HQ := hid h
  unfold maxLen at hs
  have HB : Hid (fval (s.data.toList.take 8) < 9223372036854775808) := hb
  have hh : 7 < s.size := by omega
  have h127 : s[7].toNat ≤ 127 := (top_byte s hks).1 hb
  clear hb h
  go_enter Tryz.func108, Tryz.ntmps108
  go_wp2_with (first | (go_at_call 137; refine (sized8 _).mono ?_; rintro x w' ⟨rfl, hw⟩; have hw := hw.symm; subst hw))
  go_loop [6, 7] (fun u i => ∃ (j x : Nat), j ≤ 8 ∧ i = .int .i64 ((j : Int) - 1) ∧ u = .int .i64 x ∧ x = fval ((s.data.toList.take 8).drop j)) (fun _ i => (intOf i + 1).toNat)
  case atStart => exact ⟨8, 0, Nat.le_refl _, rfl, rfl, by rw [List.drop_of_length_le (by rw [List.length_take]; exact Nat.min_le_left _ _)]; rfl⟩
  case round =>
    obtain ⟨j, x, hj, rfl, rfl, hx⟩ := hrel
    have HX : Hid (x = fval ((s.data.toList.take 8).drop j)) := hx
    clear hx
    by_cases hj0 : j = 0
    · subst hj0
      have HX2 : Hid (fval (s.data.toList.take 8) = x) := HX.out.symm
      go_wp2
      go_ret2
      exact ⟨by rw [HX2.out]; rfl, HQ.out.set0, (Kept.refl _ _ _).setCell 0 _⟩
    · obtain ⟨i, rfl⟩ : ∃ i, j = i + 1 := ⟨j - 1, by omega⟩
      have his : i < s.size := by omega
      have hc : s[i].toNat < 256 := s[i].toNat_lt
      have hst := fval_step s 8 i hks (by omega)
      rw [← HX.out] at hst
      have hle := fval_drop_le (s.data.toList.take 8) i
      rw [hst] at hle
      have hb2 : s[i].toNat + 256 * x < 9223372036854775808 := by have := HB.out; omega
      have HN : Hid (fval ((s.data.toList.take 8).drop i) = s[i].toNat + 256 * x) := hst
      clear hst hle hj0
      go_wp2
      go_round
      case rel => exact ⟨i, s[i].toNat + 256 * x, by omega, rfl, by congr 1; omega, HN.out.symm⟩
      case measure => simp [intOf]
set_option maxRecDepth 100000 in
set_option maxHeartbeats 2000000 in
theorem q2_ok2 (g : Nat) (s : ByteArray) (hks : 2 ≤ s.size) (hs : s.size ≤ maxLen) (hb : fval (s.data.toList.take 2) < 9223372036854775808) (w : World) (h : QIs g w s 0) : Calls Tryz.prog 108 #[.pointer (some ⟨g, 0, none⟩), .int .i64 2] w fun x w' => x = .returned (.tuple #[.int .i64 (fval (s.data.toList.take 2)), .int .i64 0]) ∧ QIs g w' (s.extract 2 s.size) 0 ∧ Kept w.heap.size g w w' := by
  have h0 := h.c0
  have h1 := h.c1
  have hf := h.fr 0
  have HQ := hid h
  unfold maxLen at hs
  have HB : Hid (fval (s.data.toList.take 2) < 9223372036854775808) := hb
  clear hb h
  go_enter Tryz.func108, Tryz.ntmps108
  go_wp2_with (first | (go_at_call 137; refine (sized2 _).mono ?_; rintro x w' ⟨rfl, hw⟩; have hw := hw.symm; subst hw))
  go_loop [6, 7] (fun u i => ∃ (j x : Nat), j ≤ 2 ∧ i = .int .i64 ((j : Int) - 1) ∧ u = .int .i64 x ∧ x = fval ((s.data.toList.take 2).drop j)) (fun _ i => (intOf i + 1).toNat)
  case atStart => exact ⟨2, 0, Nat.le_refl _, rfl, rfl, by rw [List.drop_of_length_le (by rw [List.length_take]; exact Nat.min_le_left _ _)]; rfl⟩
  case round =>
    obtain ⟨j, x, hj, rfl, rfl, hx⟩ := hrel
    have HX : Hid (x = fval ((s.data.toList.take 2).drop j)) := hx
    clear hx
    by_cases hj0 : j = 0
    · subst hj0
      have HX2 : Hid (fval (s.data.toList.take 2) = x) := HX.out.symm
      go_wp2
      go_ret2
      exact ⟨by rw [HX2.out]; rfl, HQ.out.set0, (Kept.refl _ _ _).setCell 0 _⟩
    · obtain ⟨i, rfl⟩ : ∃ i, j = i + 1 := ⟨j - 1, by omega⟩
      have his : i < s.size := by omega
      have hc : s[i].toNat < 256 := s[i].toNat_lt
      have hst := fval_step s 2 i hks (by omega)
      rw [← HX.out] at hst
      have hle := fval_drop_le (s.data.toList.take 2) i
      rw [hst] at hle
      have hb2 : s[i].toNat + 256 * x < 9223372036854775808 := by have := HB.out; omega
      have HN : Hid (fval ((s.data.toList.take 2).drop i) = s[i].toNat + 256 * x) := hst
      clear hst hle hj0
      go_wp2
      go_round
      case rel => exact ⟨i, s[i].toNat + 256 * x, by omega, rfl, by congr 1; omega, HN.out.symm⟩
      case measure => simp [intOf]
end Go.Proofs.YtopebghandojbaaGreat
namespace Go.Proofs.YtopebghandojbaaGreat
open Go.RowKit Go.Maps
def RON (e : Ending) : Prop := e = .returned (.tuple #[.pointer none, .int .i64 80])
set_option maxRecDepth 100000 in
theorem ropen_form (v : Value) (b0 : ByteArray) (ring : List ByteArray) (w : World) (hv : SLie w v (b0 :: ring)) (hb : b0.size ≤ 150000000000000) (hn : 7 ≤ ring.length ∧ ring.length ≤ 255) (h : ¬ ((unV b0).2 = 0 ∧ (unV b0).1.size = 19)) :
    Calls Tryz.prog 58 #[v] w fun e w' => RON e ∧ Below w.heap.size w w' := by
  have HU := hid (fun w => refUnblock b0 hb w)
  have hsz := unV_size b0
  obtain ⟨ao, cap, rfl, hlc, hcm, hcell⟩ := hv
  obtain ⟨gb, off, rfl, hg, c0⟩ := hcell 0 (by simp)
  rw [List.getElem_cons_zero, Nat.add_zero] at c0
  rw [List.length_cons] at hlc ⊢
  obtain ⟨t, ht⟩ : ∃ t, t = (unV b0).1 := ⟨_, rfl⟩
  obtain ⟨e, he⟩ : ∃ e, e = (unV b0).2 := ⟨_, rfl⟩
  rw [← ht, ← he] at HU h
  rw [← ht] at hsz
  clear hcell ht he
  unfold maxLen at hcm
  by_cases h0 : e = 0
  · subst h0
    have h19 : ((t.size : Int) != 19) = true := by simp at h ⊢; omega
    clear h
    go_enter Tryz.func58, Tryz.ntmps58
    go_wp2_with (first | (go_at_call 107; refine (HU.out _).mono ?_; rintro e w1 ⟨rfl, hb1⟩; have HB1 := hid hb1; clear hb1))
    go_ret2
    exact ⟨rfl, HB1.out⟩
  · have hne : (e != 0) = true := by simpa using h0
    clear h
    go_enter Tryz.func58, Tryz.ntmps58
    go_wp2_with (first | (go_at_call 107; refine (HU.out _).mono ?_; rintro e w1 ⟨rfl, hb1⟩; have HB1 := hid hb1; clear hb1))
    go_ret2
    exact ⟨rfl, HB1.out⟩
/-- the numbers of a header's text -/
def nT (s : ByteArray) : Nat := fval ((s.extract 1 s.size).data.toList.take 2)
def nR1 (s : ByteArray) : ByteArray := (s.extract 1 s.size).extract 2 (s.extract 1 s.size).size
def nF (s : ByteArray) : Nat := fval ((nR1 s).data.toList.take 8)
def nR2 (s : ByteArray) : ByteArray := (nR1 s).extract 8 (nR1 s).size
def nE (s : ByteArray) : Nat := fval ((nR2 s).data.toList.take 8)
theorem n_sizes {s : ByteArray} (h : s.size = 19) : (s.extract 1 s.size).size = 18 ∧ (nR1 s).size = 16 ∧ (nR2 s).size = 8 ∧ nT s < 65536 := by
  have h1 : (s.extract 1 s.size).size = 18 := by rw [ByteArray.size_extract]; omega
  have h2 : (nR1 s).size = 16 := by unfold nR1; rw [ByteArray.size_extract]; omega
  refine ⟨h1, h2, by unfold nR2; rw [ByteArray.size_extract]; omega, ?_⟩
  have := fval_lt ((s.extract 1 s.size).data.toList.take 2)
  unfold nT
  rw [List.length_take, len_list, h1] at this
  simpa using this
theorem nums2 (s : ByteArray) (hs : s.size = 19) (g : Nat) (w : World) (h : QIs g w (s.extract 1 s.size) 0) : Calls Tryz.prog 108 #[.pointer (some ⟨g, 0, none⟩), .int .i64 2] w fun x w' => x = .returned (.tuple #[.int .i64 (nT s), .int .i64 0]) ∧ QIs g w' (nR1 s) 0 ∧ Kept w.heap.size g w w' := by
  obtain ⟨z1, z2, z3, z4⟩ := n_sizes hs
  have a1 : 2 ≤ (s.extract 1 s.size).size := by rw [z1]; decide
  have a2 : (s.extract 1 s.size).size ≤ maxLen := by rw [z1]; decide
  have a3 : nT s < 9223372036854775808 := by omega
  exact q2_ok2 g (s.extract 1 s.size) a1 a2 a3 w h
theorem nums8 (s : ByteArray) (hs : s.size = 19) (hf : nF s < 9223372036854775808) (g : Nat) (w : World) (h : QIs g w (nR1 s) 0) : Calls Tryz.prog 108 #[.pointer (some ⟨g, 0, none⟩), .int .i64 8] w fun x w' => x = .returned (.tuple #[.int .i64 (nF s), .int .i64 0]) ∧ QIs g w' (nR2 s) 0 ∧ Kept w.heap.size g w w' := by
  obtain ⟨z1, z2, z3, z4⟩ := n_sizes hs
  have a1 : 8 ≤ (nR1 s).size := by rw [z2]; decide
  have a2 : (nR1 s).size ≤ maxLen := by rw [z2]; decide
  exact q8_ok2 g (nR1 s) a1 a2 hf w h
theorem nums8e (s : ByteArray) (hs : s.size = 19) (hf : nE s < 9223372036854775808) (g : Nat) (w : World) (h : QIs g w (nR2 s) 0) : Calls Tryz.prog 108 #[.pointer (some ⟨g, 0, none⟩), .int .i64 8] w fun x w' => x = .returned (.tuple #[.int .i64 (nE s), .int .i64 0]) ∧ QIs g w' ((nR2 s).extract 8 (nR2 s).size) 0 ∧ Kept w.heap.size g w w' := by
  obtain ⟨z1, z2, z3, z4⟩ := n_sizes hs
  have a1 : 8 ≤ (nR2 s).size := by rw [z3]; decide
  have a2 : (nR2 s).size ≤ maxLen := by rw [z3]; decide
  exact q8_ok2 g (nR2 s) a1 a2 hf w h
theorem nums8a (s : ByteArray) (hs : s.size = 19) (hf : ¬ nF s < 9223372036854775808) (g : Nat) (w : World) (h : QIs g w (nR1 s) 0) : Calls Tryz.prog 108 #[.pointer (some ⟨g, 0, none⟩), .int .i64 8] w fun x w' => x = .returned (.tuple #[.int .i64 0, .int .i64 4]) ∧ QIs g w' (nR1 s) 4 ∧ Kept w.heap.size g w w' := by
  obtain ⟨z1, z2, z3, z4⟩ := n_sizes hs
  have a1 : 8 ≤ (nR1 s).size := by rw [z2]; decide
  exact q8_form2 g (nR1 s) a1 hf w h
theorem nums8b (s : ByteArray) (hs : s.size = 19) (hf : ¬ nE s < 9223372036854775808) (g : Nat) (w : World) (h : QIs g w (nR2 s) 0) : Calls Tryz.prog 108 #[.pointer (some ⟨g, 0, none⟩), .int .i64 8] w fun x w' => x = .returned (.tuple #[.int .i64 0, .int .i64 4]) ∧ QIs g w' (nR2 s) 4 ∧ Kept w.heap.size g w w' := by
  obtain ⟨z1, z2, z3, z4⟩ := n_sizes hs
  have a1 : 8 ≤ (nR2 s).size := by rw [z3]; decide
  exact q8_form2 g (nR2 s) a1 hf w h
theorem below_kept' {w1 w2 : World} {o : Obj} (k : Kept (w1.alloc o).heap.size w1.heap.size (w1.alloc o) w2) : Below w1.heap.size w1 w2 := by
  obtain ⟨a1, a2, a3, a4, a5⟩ := k
  refine ⟨a1, a2, a3, ?_, fun j hj => (a5 j (by simp; omega) (by omega)).trans (Below.heap_alloc _ _ _ hj)⟩
  simp at a4
  omega
end Go.Proofs.YtopebghandojbaaGreat
namespace Go.Proofs.YtopebghandojbaaGreat
open Go.RowKit Go.Maps
set_option maxRecDepth 100000 in
set_option maxHeartbeats 2000000 in
theorem ropen_f (v : Value) (b0 : ByteArray) (ring : List ByteArray) (w : World) (hv : SLie w v (b0 :: ring)) (hb : b0.size ≤ 150000000000000) (hn : 7 ≤ ring.length ∧ ring.length ≤ 255) (s : ByteArray) (hu : unV b0 = (s, 0)) (hs : s.size = 19) (hf : ¬ nF s < 9223372036854775808) :
    Calls Tryz.prog 58 #[v] w fun e w' => RON e ∧ Below w.heap.size w w' := by
  have HU := hid (fun w => refUnblock b0 hb w)
  rw [hu] at HU
  simp only at HU
  obtain ⟨z1, z2, z3, hT6⟩ := n_sizes hs
  have h19 : ((s.size : Int) != 19) = false := by simp; omega
  have H2 := hid (nums2 s hs)
  have H3 := hid (nums8a s hs hf)
  have H4 := hid (fun (g : Nat) (w : World) (h : QIs g w (nR1 s) 4) => q8_bad g (nR1 s) 4 (by decide) w h)
  obtain ⟨ao, cap, rfl, hlc, hcm, hcell⟩ := hv
  obtain ⟨gb, off, rfl, hg, c0⟩ := hcell 0 (by simp)
  rw [List.getElem_cons_zero, Nat.add_zero] at c0
  rw [List.length_cons] at hlc ⊢
  obtain ⟨t, ht⟩ : ∃ t, t = s.extract 1 s.size := ⟨_, rfl⟩
  obtain ⟨T, hT⟩ : ∃ T, T = nT s := ⟨_, rfl⟩
  rw [← ht, ← hT] at H2
  rw [← hT] at hT6
  rw [← ht] at z1
  have hts : t.size = 18 := z1
  have hex : s.extract 1 19 = t := by rw [← hs]; exact ht.symm
  have HC0 := hid c0
  clear hcell ht z1 z2 z3 hb hu hT hf
  unfold maxLen at hcm
  go_enter Tryz.func58, Tryz.ntmps58
  go_upto_region 12 with (first
    | (go_at_call 107; refine (HU.out _).mono ?_; rintro e w1 ⟨rfl, hb1⟩; have HB1 := hid hb1; clear hb1)
    | (go_at_call 108; have hk := HQ3; clear hk; refine (H4.out _ _ HQ3.out).mono ?_; rintro e w4 ⟨rfl, hq4, hk4⟩; have HK4 : Hid (Below w1.heap.size w1 w4) := hid (HK3.out.trans (hk4.low (Nat.le_of_lt hz3) (Nat.le_refl _))); have hz4 := Nat.lt_of_lt_of_le hz3 hk4.size; clear hq4 hk4)
    | (go_at_call 108; have hk := HQ2; clear hk; refine (H3.out _ _ HQ2.out).mono ?_; rintro e w3 ⟨rfl, hq3, hk3⟩; have HQ3 := hid hq3; have HK3 : Hid (Below w1.heap.size w1 w3) := hid (HK2.out.trans (hk3.low (Nat.le_of_lt hz2) (Nat.le_refl _))); have hz3 := Nat.lt_of_lt_of_le hz2 hk3.size; clear hq3 hk3)
    | (go_at_call 108; refine (H2.out _ _ (by exact QIs.new t w1)).mono ?_; rintro e w2 ⟨rfl, hq2, hk2⟩; have HQ2 := hid hq2; have HK2 : Hid (Below w1.heap.size w1 w2) := hid (below_kept' hk2); have hz2 : w1.heap.size < w2.heap.size := HQ2.out.lt; clear hq2 hk2))
  go_wp2
  go_quiet ((fail))
  go_wp2
  go_ret2
  exact ⟨rfl, HB1.out.next (HK4.out.next ((below_alloc _ _).dN _))⟩
set_option maxRecDepth 100000 in
set_option maxHeartbeats 2000000 in
theorem ropen_g (v : Value) (b0 : ByteArray) (ring : List ByteArray) (w : World) (hv : SLie w v (b0 :: ring)) (hb : b0.size ≤ 150000000000000) (hn : 7 ≤ ring.length ∧ ring.length ≤ 255) (s : ByteArray) (hu : unV b0 = (s, 0)) (hs : s.size = 19) (hf : nF s < 9223372036854775808) (he : ¬ nE s < 9223372036854775808) :
    Calls Tryz.prog 58 #[v] w fun e w' => RON e ∧ Below w.heap.size w w' := by
  have HU := hid (fun w => refUnblock b0 hb w)
  rw [hu] at HU
  simp only at HU
  obtain ⟨z1, z2, z3, hT6⟩ := n_sizes hs
  have h19 : ((s.size : Int) != 19) = false := by simp; omega
  have H2 := hid (nums2 s hs)
  have H3 := hid (nums8 s hs hf)
  have H4 := hid (nums8b s hs he)
  obtain ⟨F, hF⟩ : ∃ F, F = nF s := ⟨_, rfl⟩
  rw [← hF] at H3 hf
  obtain ⟨ao, cap, rfl, hlc, hcm, hcell⟩ := hv
  obtain ⟨gb, off, rfl, hg, c0⟩ := hcell 0 (by simp)
  rw [List.getElem_cons_zero, Nat.add_zero] at c0
  rw [List.length_cons] at hlc ⊢
  obtain ⟨t, ht⟩ : ∃ t, t = s.extract 1 s.size := ⟨_, rfl⟩
  obtain ⟨T, hT⟩ : ∃ T, T = nT s := ⟨_, rfl⟩
  rw [← ht, ← hT] at H2
  rw [← hT] at hT6
  rw [← ht] at z1
  have hts : t.size = 18 := z1
  have hex : s.extract 1 19 = t := by rw [← hs]; exact ht.symm
  have HC0 := hid c0
  clear hcell ht z1 z2 z3 hb hu hT he hF
  unfold maxLen at hcm
  go_enter Tryz.func58, Tryz.ntmps58
  go_upto_region 12 with (first
    | (go_at_call 107; refine (HU.out _).mono ?_; rintro e w1 ⟨rfl, hb1⟩; have HB1 := hid hb1; clear hb1)
    | (go_at_call 108; have hk := HQ3; clear hk; refine (H4.out _ _ HQ3.out).mono ?_; rintro e w4 ⟨rfl, hq4, hk4⟩; have HK4 : Hid (Below w1.heap.size w1 w4) := hid (HK3.out.trans (hk4.low (Nat.le_of_lt hz3) (Nat.le_refl _))); have hz4 := Nat.lt_of_lt_of_le hz3 hk4.size; clear hq4 hk4)
    | (go_at_call 108; have hk := HQ2; clear hk; refine (H3.out _ _ HQ2.out).mono ?_; rintro e w3 ⟨rfl, hq3, hk3⟩; have HQ3 := hid hq3; have HK3 : Hid (Below w1.heap.size w1 w3) := hid (HK2.out.trans (hk3.low (Nat.le_of_lt hz2) (Nat.le_refl _))); have hz3 := Nat.lt_of_lt_of_le hz2 hk3.size; clear hq3 hk3)
    | (go_at_call 108; refine (H2.out _ _ (by exact QIs.new t w1)).mono ?_; rintro e w2 ⟨rfl, hq2, hk2⟩; have HQ2 := hid hq2; have HK2 : Hid (Below w1.heap.size w1 w2) := hid (below_kept' hk2); have hz2 : w1.heap.size < w2.heap.size := HQ2.out.lt; clear hq2 hk2))
  go_wp2
  go_quiet ((fail))
  go_wp2
  go_ret2
  exact ⟨rfl, HB1.out.next (HK4.out.next ((below_alloc _ _).dN _))⟩
end Go.Proofs.YtopebghandojbaaGreat
namespace Go.Proofs.YtopebghandojbaaGreat
open Go.RowKit Go.Maps
set_option maxRecDepth 100000 in
set_option maxHeartbeats 4000000 in
theorem ropen_bad (v : Value) (b0 : ByteArray) (ring : List ByteArray) (w : World) (hv : SLie w v (b0 :: ring)) (hb : b0.size ≤ 150000000000000) (hn : 7 ≤ ring.length ∧ ring.length ≤ 255) (s : ByteArray) (hu : unV b0 = (s, 0)) (hs : s.size = 19) (hf : nF s < 9223372036854775808) (he : nE s < 9223372036854775808)
    (h : ¬ (nF s ≤ nE s ∧ nE s - nF s ≤ ring.length ∧ nT s < ring.length ∧ 1 ≤ nF s ∧ nF s ≤ 1099511627776)) :
    Calls Tryz.prog 58 #[v] w fun e w' => RON e ∧ Below w.heap.size w w' := by
  have HU := hid (fun w => refUnblock b0 hb w)
  rw [hu] at HU
  simp only at HU
  obtain ⟨z1, z2, z3, hT6⟩ := n_sizes hs
  have h19 : ((s.size : Int) != 19) = false := by simp; omega
  have H2 := hid (nums2 s hs)
  have H3 := hid (nums8 s hs hf)
  have H4 := hid (nums8e s hs he)
  obtain ⟨F, hF⟩ : ∃ F, F = nF s := ⟨_, rfl⟩
  rw [← hF] at H3 hf h
  obtain ⟨E, hE⟩ : ∃ E, E = nE s := ⟨_, rfl⟩
  rw [← hE] at H4 he h
  obtain ⟨ao, cap, rfl, hlc, hcm, hcell⟩ := hv
  obtain ⟨gb, off, rfl, hg, c0⟩ := hcell 0 (by simp)
  rw [List.getElem_cons_zero, Nat.add_zero] at c0
  rw [List.length_cons] at hlc ⊢
  obtain ⟨t, ht⟩ : ∃ t, t = s.extract 1 s.size := ⟨_, rfl⟩
  obtain ⟨T, hT⟩ : ∃ T, T = nT s := ⟨_, rfl⟩
  rw [← ht, ← hT] at H2
  rw [← hT] at hT6 h
  rw [← ht] at z1
  have hts : t.size = 18 := z1
  have hex : s.extract 1 19 = t := by rw [← hs]; exact ht.symm
  have HC0 := hid c0
  clear hcell ht z1 z2 z3 hb hu hT hF hE
  unfold maxLen at hcm
  go_enter Tryz.func58, Tryz.ntmps58
  go_upto_region 12 with (first
    | (go_at_call 107; refine (HU.out _).mono ?_; rintro e w1 ⟨rfl, hb1⟩; have HB1 := hid hb1; clear hb1)
    | (go_at_call 108; have hk := HQ3; clear hk; refine (H4.out _ _ HQ3.out).mono ?_; rintro e w4 ⟨rfl, hq4, hk4⟩; have HK4 : Hid (Below w1.heap.size w1 w4) := hid (HK3.out.trans (hk4.low (Nat.le_of_lt hz3) (Nat.le_refl _))); have hz4 := Nat.lt_of_lt_of_le hz3 hk4.size; clear hq4 hk4)
    | (go_at_call 108; have hk := HQ2; clear hk; refine (H3.out _ _ HQ2.out).mono ?_; rintro e w3 ⟨rfl, hq3, hk3⟩; have HQ3 := hid hq3; have HK3 : Hid (Below w1.heap.size w1 w3) := hid (HK2.out.trans (hk3.low (Nat.le_of_lt hz2) (Nat.le_refl _))); have hz3 := Nat.lt_of_lt_of_le hz2 hk3.size; clear hq3 hk3)
    | (go_at_call 108; refine (H2.out _ _ (by exact QIs.new t w1)).mono ?_; rintro e w2 ⟨rfl, hq2, hk2⟩; have HQ2 := hid hq2; have HK2 : Hid (Below w1.heap.size w1 w2) := hid (below_kept' hk2); have hz2 : w1.heap.size < w2.heap.size := HQ2.out.lt; clear hq2 hk2))
  have HH := hid h
  clear h
  have i1 : IntKind.i64.wrap ((E : Int) - (F : Int)) = (E : Int) - (F : Int) := by rw [IntKind.wrap_i64]; omega
  have i2 : IntKind.i64.wrap ((ring.length : Int) + 1 - 1) = (ring.length : Int) := by rw [IntKind.wrap_i64]; omega
  by_cases c1 : E < F
  · have d1 : decide ((E : Int) < (F : Int)) = true := by simp; omega
    go_wp2
    go_quiet ((fail))
    go_wp2
    go_ret2
    exact ⟨rfl, HB1.out.next (HK4.out.next ((below_alloc _ _).dN _))⟩
  have d1 : decide ((E : Int) < (F : Int)) = false := by simp; omega
  by_cases c2 : ring.length < E - F
  · have d2 : decide ((ring.length : Int) < (E : Int) - (F : Int)) = true := by simp; omega
    go_wp2
    go_quiet ((fail))
    go_wp2
    go_ret2
    exact ⟨rfl, HB1.out.next (HK4.out.next ((below_alloc _ _).dN _))⟩
  have d2 : decide ((ring.length : Int) < (E : Int) - (F : Int)) = false := by simp; omega
  by_cases c3 : ring.length ≤ T
  · have d3 : decide ((ring.length : Int) ≤ (T : Int)) = true := by simp; omega
    go_wp2
    go_quiet ((fail))
    go_wp2
    go_ret2
    exact ⟨rfl, HB1.out.next (HK4.out.next ((below_alloc _ _).dN _))⟩
  have d3 : decide ((ring.length : Int) ≤ (T : Int)) = false := by simp; omega
  by_cases c4 : F < 1
  · have d4 : decide ((F : Int) < 1) = true := by simp; omega
    go_wp2
    go_quiet ((fail))
    go_wp2
    go_ret2
    exact ⟨rfl, HB1.out.next (HK4.out.next ((below_alloc _ _).dN _))⟩
  have d4 : decide ((F : Int) < 1) = false := by simp; omega
  have c5 : 1099511627776 < F := by have := HH.out; omega
  have d5 : decide ((1099511627776 : Int) < (F : Int)) = true := by simp; omega
  go_wp2
  go_quiet ((fail))
  go_wp2
  go_ret2
  exact ⟨rfl, HB1.out.next (HK4.out.next ((below_alloc _ _).dN _))⟩
end Go.Proofs.YtopebghandojbaaGreat
namespace Go.Proofs.YtopebghandojbaaGreat
open Go.RowKit Go.Maps
set_option maxRecDepth 100000 in
set_option maxHeartbeats 4000000 in
theorem ropen_hdr (v : Value) (b0 : ByteArray) (ring : List ByteArray) (w : World) (hv : SLie w v (b0 :: ring)) (hb : b0.size ≤ 150000000000000) (hn : 7 ≤ ring.length ∧ ring.length ≤ 255) (s : ByteArray) (hu : unV b0 = (s, 0)) (hs : s.size = 19) (hf : nF s < 9223372036854775808) (he : nE s < 9223372036854775808)
    (h : nF s ≤ nE s ∧ nE s - nF s ≤ ring.length ∧ nT s < ring.length ∧ 1 ≤ nF s ∧ nF s ≤ 1099511627776) (hx : hdB (nT s) (nF s) (nE s) ≠ b0) :
    Calls Tryz.prog 58 #[v] w fun e w' => RON e ∧ Below w.heap.size w w' := by
  have HU := hid (fun w => refUnblock b0 hb w)
  rw [hu] at HU
  simp only at HU
  obtain ⟨z1, z2, z3, hT6⟩ := n_sizes hs
  have h19 : ((s.size : Int) != 19) = false := by simp; omega
  have H2 := hid (nums2 s hs)
  have H3 := hid (nums8 s hs hf)
  have H4 := hid (nums8e s hs he)
  obtain ⟨F, hF⟩ : ∃ F, F = nF s := ⟨_, rfl⟩
  rw [← hF] at H3 hf h
  obtain ⟨E, hE⟩ : ∃ E, E = nE s := ⟨_, rfl⟩
  rw [← hE] at H4 he h
  obtain ⟨ao, cap, rfl, hlc, hcm, hcell⟩ := hv
  obtain ⟨gb, off, rfl, hg, c0⟩ := hcell 0 (by simp)
  rw [List.getElem_cons_zero, Nat.add_zero] at c0
  rw [List.length_cons] at hlc ⊢
  obtain ⟨t, ht⟩ : ∃ t, t = s.extract 1 s.size := ⟨_, rfl⟩
  obtain ⟨T, hT⟩ : ∃ T, T = nT s := ⟨_, rfl⟩
  rw [← ht, ← hT] at H2
  rw [← hT] at hT6 h
  rw [← ht] at z1
  have hts : t.size = 18 := z1
  have hex : s.extract 1 19 = t := by rw [← hs]; exact ht.symm
  have HC0 := hid c0
  rw [← hT, ← hF, ← hE] at hx
  clear hcell ht z1 z2 z3 hb hu hT hF hE
  have hxx := hid hx
  clear hx
  unfold maxLen at hcm
  go_enter Tryz.func58, Tryz.ntmps58
  go_upto_region 12 with (first
    | (go_at_call 107; refine (HU.out _).mono ?_; rintro e w1 ⟨rfl, hb1⟩; have HB1 := hid hb1; clear hb1)
    | (go_at_call 108; have hk := HQ3; clear hk; refine (H4.out _ _ HQ3.out).mono ?_; rintro e w4 ⟨rfl, hq4, hk4⟩; have HK4 : Hid (Below w1.heap.size w1 w4) := hid (HK3.out.trans (hk4.low (Nat.le_of_lt hz3) (Nat.le_refl _))); have hz4 := Nat.lt_of_lt_of_le hz3 hk4.size; clear hq4 hk4)
    | (go_at_call 108; have hk := HQ2; clear hk; refine (H3.out _ _ HQ2.out).mono ?_; rintro e w3 ⟨rfl, hq3, hk3⟩; have HQ3 := hid hq3; have HK3 : Hid (Below w1.heap.size w1 w3) := hid (HK2.out.trans (hk3.low (Nat.le_of_lt hz2) (Nat.le_refl _))); have hz3 := Nat.lt_of_lt_of_le hz2 hk3.size; clear hq3 hk3)
    | (go_at_call 108; refine (H2.out _ _ (by exact QIs.new t w1)).mono ?_; rintro e w2 ⟨rfl, hq2, hk2⟩; have HQ2 := hid hq2; have HK2 : Hid (Below w1.heap.size w1 w2) := hid (below_kept' hk2); have hz2 : w1.heap.size < w2.heap.size := HQ2.out.lt; clear hq2 hk2))
  obtain ⟨h1, h2, h3, h4, h5⟩ := h
  obtain ⟨S, hS⟩ : ∃ S, E = F + S := ⟨E - F, by omega⟩
  have i1 : IntKind.i64.wrap ((E : Int) - (F : Int)) = (E : Int) - (F : Int) := by rw [IntKind.wrap_i64]; omega
  have i2 : IntKind.i64.wrap ((ring.length : Int) + 1 - 1) = (ring.length : Int) := by rw [IntKind.wrap_i64]; omega
  have d1 : decide ((E : Int) < (F : Int)) = false := by simp; omega
  have d2 : decide ((ring.length : Int) < (S : Int)) = false := by simp; omega
  have d3 : decide ((ring.length : Int) ≤ (T : Int)) = false := by simp; omega
  have d4 : decide ((F : Int) < 1) = false := by simp; omega
  have d5 : decide ((1099511627776 : Int) < (F : Int)) = false := by simp; omega
  have n1 : decide (E < F) = false := by simp; omega
  have n2 : decide (ring.length < S) = false := by simp; omega
  have n3 : decide (ring.length ≤ T) = false := by simp; omega
  have n4 : decide (F < 1) = false := by simp; omega
  have n5 : decide (1099511627776 < F) = false := by simp; omega
  have m1 : ((F : Int) ≤ (E : Int)) := by omega
  have m2 : ((S : Int) ≤ (ring.length : Int)) := by omega
  have m3 : ((T : Int) < (ring.length : Int)) := by omega
  have m4 : ((1 : Int) ≤ (F : Int)) := by omega
  have m5 : ((F : Int) ≤ 1099511627776) := by omega
  have i3 : IntKind.i64.wrap (ring.length : Int) = (ring.length : Int) := by rw [IntKind.wrap_i64]; omega
  have d2a : decide ((ring.length : Int) < (E : Int) - (F : Int)) = false := by simp; omega
  have m2a : (E : Int) - (F : Int) ≤ (ring.length : Int) := by omega
  have hSE := hid hS
  clear hS
  have HRK : Hid (RK w4.heap.size none (w4.alloc (.cells #[.int .i64 (ring.length : Int), .int .i64 T, .int .i64 F, .int .i64 ((E : Int) - (F : Int)), .slice none 0 0] 113)) ring.length T F S []) := hid ⟨.slice none 0 0, rfl, by rw [show (E : Int) - (F : Int) = (S : Int) by have := hSE.out; omega]; exact box_at _ _, VRow.nil _, fun v hv => by cases hv⟩
  have HB4 : Hid (Below w.heap.size w (w4.alloc (.cells #[.int .i64 (ring.length : Int), .int .i64 T, .int .i64 F, .int .i64 ((E : Int) - (F : Int)), .slice none 0 0] 113))) := hid (HB1.out.next (HK4.out.next (below_alloc _ _)))
  have c4 := (HB4.out.cell (p := ⟨gb, off, none⟩) hg).trans c0
  have hg4 : gb < (w4.alloc (.cells #[.int .i64 (ring.length : Int), .int .i64 T, .int .i64 F, .int .i64 ((E : Int) - (F : Int)), .slice none 0 0] 113)).heap.size := Nat.lt_of_lt_of_le hg HB4.out.size
  have HHd := hid (fun w' (k : Below (w4.alloc (.cells #[.int .i64 (ring.length : Int), .int .i64 T, .int .i64 F, .int .i64 ((E : Int) - (F : Int)), .slice none 0 0] 113)).heap.size (w4.alloc (.cells #[.int .i64 (ring.length : Int), .int .i64 T, .int .i64 F, .int .i64 ((E : Int) - (F : Int)), .slice none 0 0] 113)) w') => refHeader_j w4.heap.size none ring.length T F S [] hT6 (by omega) w' (HRK.out.below k))
  have HNE : Hid (hdB T F (F + S) ≠ b0) := by
    show _ ≠ _
    rw [← hSE.out]; exact hxx.out
  obtain ⟨Hh, hHh⟩ : ∃ Hh, Hh = hdB T F (F + S) := ⟨_, rfl⟩
  rw [← hHh] at HHd HNE
  have hne : (Hh.toList == b0.toList) = false := str_ne HNE.out
  clear hHh
  go_wp2
  (go_region_held3 (fun w' => w'.cell? ⟨gb, off, none⟩ = some (.string b0)) (first | exact c4 | exact e5 | go_keep) (first
    | (go_at_call 48; refine (HHd.out _ (by exact ⟨rfl, rfl, rfl, Nat.le_refl _, fun _ _ => rfl⟩)).mono ?_; rintro e w5 ⟨rfl, hb5⟩; have HB5 : Hid (Below w.heap.size w w5) := hid (HB4.out.next ⟨hb5.os, hb5.tape, hb5.output, hb5.size, hb5.block⟩); have e5 : w5.cell? ⟨gb, off, none⟩ = some (.string b0) := (HB5.out.cell (p := ⟨gb, off, none⟩) hg).trans c0; clear hb5)))
  all_goals
    go_wp2
    go_ret2
    exact ⟨rfl, HB5.out⟩
end Go.Proofs.YtopebghandojbaaGreat
namespace Go.Proofs.YtopebghandojbaaGreat
open Go.RowKit Go.Maps
theorem Tryz.infoC68 : (Tryz.prog.info? 94).map (fun i => (i.zero, i.size, i.bytes)) = some (some (.agg #[.int .i64 0, .string ⟨#[]⟩]), 2, 24) := by kernel_rfl
/-- a row of the call's own: changes -/
def CRow (base : Nat) (w : World) (v : Value) (l : List Chg) : Prop := w.ownsRow base 94 2 v l.length (cc l)
theorem CRow.nil (base : Nat) (w : World) : CRow base w (.slice none 0 0) [] := ⟨rfl, .inl ⟨rfl, rfl⟩⟩
theorem CRow.below {base : Nat} {w w' : World} {v : Value} {l : List Chg} (h : CRow base w v l) (k : Below w.heap.size w w') : CRow base w' v l := by
  obtain ⟨e1, e2 | ⟨x, cap, cur, e3, e4, e5, e6⟩⟩ := h
  · exact ⟨e1, .inl e2⟩
  · exact ⟨e1, .inr ⟨x, cap, cur, e3, e4, (k.block x (lt_of_block e5)).trans e5, e6⟩⟩
theorem CRow.own {base : Nat} {w : World} {v : Value} {l : List Chg} (h : CRow base w v l) : ∀ x, v.ownBlock = some x → base ≤ x ∧ x < w.heap.size := by
  obtain ⟨e1, ⟨rfl, _⟩ | ⟨x, cap, cur, rfl, e4, e5, e6⟩⟩ := h
  · intro x hx; cases hx
  · intro y hy; cases hy; exact ⟨e4, lt_of_block e5⟩
theorem CRow.len {base : Nat} {w : World} {v : Value} {l : List Chg} (h : CRow base w v l) : ∃ ao cap, v = .slice ao l.length cap ∧ l.length ≤ cap ∧ cap ≤ maxLen := by
  rcases h.2 with ⟨rfl, hz⟩ | ⟨gb, cap, cur, rfl, _, _, r1, r2, _⟩
  · exact ⟨none, 0, by rw [hz], by omega, by decide⟩
  · exact ⟨_, cap, rfl, r1, r2⟩
theorem pushC {ops : Array Oper} {rest : List Oper} {o : Oper} {a : Act} {Q : Exit → Act → World → Prop} {w0 : World} (hgd : o.guard = none) (s x : Operand)
    (ho : o.op = .call { callee := .builtin .append, args := #[s, x], argTypes := #[24, 24] }) (B1 bb : Nat) (v : Value) (T : List Chg) (y : Chg)
    (hs : a.eval s = v) (hx : a.eval x = .slice (some ⟨bb, 0, none⟩) 1 1) (hbb : bb = w0.heap.size) (hA : CRow B1 w0 v T) (hn : T.length ≤ 2000) (hbase : B1 ≤ w0.heap.size)
    (h : ∀ v' w', CRow B1 w' v' (T ++ [y]) → Below B1 w0 w' → (∀ k, k < w0.heap.size → some k ≠ v.ownBlock → w'.heap[k]? = w0.heap[k]?) → wpList Tryz.prog ops Q rest (a.put o.dst v') w') :
    wpList Tryz.prog ops Q (o :: rest) a (w0.alloc (.cells #[.int .i64 y.b, .string y.d] 94)) := by
  subst hbb
  obtain ⟨i0, hi, hz0, hz1, hz2⟩ := info_parts Tryz.infoC68
  have ho2 := hA.own
  refine wpList_append_own _ hgd s x 24 ho B1 94 i0 (.agg #[.int .i64 0, .string ⟨#[]⟩]) 2 24 Tryz.underlying24 hi hz0 hz1 hz2 rfl (by decide) v T.length (cc T) hs (World.ownsRow.alloc hA _) ⟨w0.heap.size, 0, none⟩ 1 1 (encC y) hx rfl (by
      intro j u hu
      match j, hu with
      | 0, hu => simp [encC] at hu; subst hu; simp [Addr.add]
      | 1, hu => simp [encC] at hu; subst hu; simp [Addr.add]
      | j + 2, hu => simp [encC] at hu) (by intro u hu; simp [encC] at hu; rcases hu with rfl | rfl <;> rfl) (by unfold maxLen; omega) (by omega) (by simp; omega) ?_
  intro v' w' hown hg _
  refine h v' w' ?_ ?_ (fun k hk hne => (hg.block k (by simp; omega) hne).trans (Below.heap_alloc _ _ k hk))
  · unfold CRow
    rw [cc_append, cc_one, List.length_append]
    exact hown
  · refine (below_alloc w0 (.cells #[.int .i64 y.b, .string y.d] 94)).mono hbase |>.trans ⟨hg.os, hg.tape, hg.output, hg.size, fun k hk => hg.block k ?_ ?_⟩
    · simp; omega
    · intro e
      have := (ho2 k e.symm).1
      omega
end Go.Proofs.YtopebghandojbaaGreat
namespace Go.Proofs.YtopebghandojbaaGreat
open Go.RowKit Go.Maps
/-- a place of which nothing else is known -/
def zc (p : Int) : Chg := ⟨p, ⟨#[]⟩⟩
theorem getB (t : ByteArray) (i : Nat) (h : i < t.size) {c : UInt8} (hc : t.data.toList[i]? = some c) : t[i] = c := by
  rw [Array.getElem?_toList] at hc
  exact (Array.getElem?_eq_some_iff.1 hc).2
theorem hd_facts {b : ByteArray} {s : Nat} {ps : List Int} {sm : Nat} (h : isHead b s ps sm) : (unV b).2 = 0 ∧ (unV b).1.size = 14 + 2 * ps.length ∧ (∀ h0 : 0 < (unV b).1.size, (unV b).1[0].toNat = 84) ∧ ∀ h9 : 9 < (unV b).1.size, (unV b).1[9].toNat = ps.length := by
  obtain ⟨hu, _, _, hp, _⟩ := h
  have h48 := (placesB_iff.1 hp).2
  rw [hu]
  refine ⟨rfl, by rw [st_size, headL_len], fun h0 => ?_, fun h9 => ?_⟩
  · rw [getB _ 0 h0 (c := 84) (by rw [st_list]; rfl)]; rfl
  · rw [getB _ 9 h9 (c := UInt8.ofNat (ps.length % 256)) (by
      rw [st_list]
      have e : headL s ps sm = ([84] ++ fEnc s 8) ++ (fEnc ps.length 1 ++ (plE ps ++ fEnc sm 4)) := by unfold headL; simp only [List.append_assoc]
      rw [e, List.getElem?_append_right (by simp [fEnc_len]), show (([84] : List UInt8) ++ fEnc s 8).length = 9 by simp [fEnc_len]]
      rfl)]
    rw [UInt8.toNat_ofNat']
    omega
theorem RP.no {b : ByteArray} {bl : List ByteArray} {w' : World} (h : ¬ ∃ s ps sm, isHead b s ps sm) : RP b bl (.returned (.tuple #[.int .i64 0, .slice none 0 0, .int .i64 0, .int .i64 4])) w' := ⟨fun _ => rfl, fun s ps sm hd => absurd ⟨s, ps, sm, hd⟩ h⟩
theorem below_kept {w2 w4 : World} {o : Obj} (k : Kept (w2.alloc o).heap.size w2.heap.size (w2.alloc o) w4) : Below w2.heap.size w2 w4 := by
  obtain ⟨a1, a2, a3, a4, a5⟩ := k
  refine ⟨a1, a2, a3, ?_, fun j hj => (a5 j (by simp; omega) (by omega)).trans (Below.heap_alloc _ _ _ hj)⟩
  simp at a4
  omega
/-- places laid, of which so many have their blocks -/
def Fil2 (g n q : Nat) (w : World) (L : List Chg) : Prop :=
  ∃ cur, w.heap[g]? = some (.cells cur 94 (0, 0)) ∧ n * 2 ≤ cur.size ∧ ∀ i (hi : i < L.length), cur[i * 2]? = some (.int .i64 L[i].b) ∧ (i < q → cur[i * 2 + 1]? = some (.string L[i].d))
theorem Fil2.get {g n q : Nat} {w : World} {L : List Chg} (h : Fil2 g n q w L) (j : Nat) (hj : j < n * 2) : ∃ x, w.cell? ⟨g, j, none⟩ = some x := by
  obtain ⟨cur, h1, h2, _⟩ := h
  exact ⟨cur[j]'(by omega), by simp [World.cell?, h1]⟩
theorem Fil2.free {g n q : Nat} {w : World} {L : List Chg} (h : Fil2 g n q w L) (j : Nat) : w.frozen? ⟨g, j, none⟩ = false := by
  obtain ⟨cur, h1, h2, _⟩ := h
  simp [World.frozen?, h1]
theorem Fil2.set {g n q : Nat} {w : World} {L : List Chg} (h : Fil2 g n q w L) (hL : L.length = n) (hq : q < n) : Fil2 g n (q + 1) (w.setCell ⟨g, q * 2 + 1, none⟩ (.string (L[q]'(by omega)).d)) L := by
  obtain ⟨cur, h1, h2, h3⟩ := h
  refine ⟨_, cells_set h1 _, by simpa using h2, fun i hi => ?_⟩
  obtain ⟨k0, k1⟩ := h3 i hi
  have z1 : ¬ q * 2 + 1 = i * 2 := by omega
  refine ⟨?_, fun hlt => ?_⟩
  · rw [← k0]; simp [z1]
  · by_cases hiq : i = q
    · subst hiq
      have z2 : i * 2 + 1 < cur.size := by omega
      simp [z2]
    · have z3 : ¬ q * 2 + 1 = i * 2 + 1 := by omega
      rw [← k1 (by omega), Array.set!_eq_setIfInBounds, Array.getElem?_setIfInBounds_ne z3]
theorem Fil2.lie {g n cap : Nat} {w : World} {L : List Chg} (h : Fil2 g n n w L) (hL : L.length = n) (h1 : n ≤ cap) (h2 : cap ≤ maxLen) : CLie w (.slice (some ⟨g, 0, none⟩) n cap) L := by
  obtain ⟨cur, k1, k2, k3⟩ := h
  refine ⟨_, _, by rw [hL], by omega, h2, fun i hi => ⟨g, 0, rfl, lt_of_block k1, ?_⟩⟩
  obtain ⟨x0, x1⟩ := k3 i hi
  rw [Nat.zero_add]
  exact ⟨by simp [World.cell?, k1, x0], by simp [World.cell?, k1, x1 (by omega)]⟩
theorem crow_some {B : Nat} {w : World} {v : Value} {ps : List Int} {D : List ByteArray} (h : CRow B w v (ps.map zc)) (hD : D.length = ps.length) (hp : 0 < ps.length) : ∃ g cap, v = .slice (some ⟨g, 0, none⟩) ps.length cap ∧ ps.length ≤ cap ∧ cap ≤ maxLen ∧ B ≤ g ∧ Fil2 g ps.length 0 w (zipC ps D) := by
  have hl : (ps.map zc).length = ps.length := by simp
  rcases h.2 with ⟨rfl, hz⟩ | ⟨gb, cap, cur, rfl, hbase, hgb, r1, r2, r3, r4⟩
  · omega
  · rw [hl] at r1 r4 ⊢
    refine ⟨gb, cap, rfl, r1, r2, hbase, cur, hgb, by omega, fun i hi => ⟨?_, fun h => by omega⟩⟩
    have hi' : i < ps.length := by rw [zipC_len hD] at hi; exact hi
    have hlt : i * 2 < ps.length * 2 := by omega
    have e1 : cur.toList[i * 2]? = (cc (ps.map zc))[i * 2]? := by rw [← r4, List.getElem?_take_of_lt hlt]
    rw [cc_get _ _ (by rw [hl]; exact hlt), show i * 2 / 2 = i by omega, show i * 2 % 2 = 0 by omega, getElem!_pos (ps.map zc) i (by rw [hl]; exact hi'), Array.getElem?_toList] at e1
    rw [e1, zipC_get i hi hi' (by omega), List.getElem_map]
    rfl
theorem refDecode_none (ao : Option Addr) (cap : Nat) (w : World) : Calls Tryz.prog 109 #[.slice ao 0 cap] w fun e w' => e = .returned (.tuple #[.int .i64 0, .slice none 0 0, .int .i64 0, .int .i64 20]) ∧ w' = w := by
  go_enter Tryz.func109, Tryz.ntmps109
  go_wp2
  refine bodyPost_ret (v := .tuple #[.int .i64 0, .slice none 0 0, .int .i64 0, .int .i64 20]) (by simp [results, Tryz.results109, go_sem]) rfl ⟨rfl, rfl⟩
/-- what is answered lies in new memory -/
def Fr (w : World) (e : Ending) (w' : World) : Prop := ∀ n v k g, e = .returned (.tuple #[n, v, k, g]) → (∃ ao cap, v = .slice ao 0 cap) ∨ ∀ x, v.ownBlock = some x → w.heap.size ≤ x ∧ x < w'.heap.size
theorem Fr.no (w w' : World) (n k g : Value) : Fr w (.returned (.tuple #[n, .slice none 0 0, k, g])) w' := by
  intro n' v' k' g' e
  simp at e
  exact .inl ⟨none, 0, e.2.1.symm⟩
set_option maxRecDepth 100000 in
set_option maxHeartbeats 8000000 in
theorem refDecode_any (v : Value) (b : ByteArray) (bl : List ByteArray) (w : World) (h : SLie w v (b :: bl)) (hb : b.size ≤ 150000000000000) : Calls Tryz.prog 109 #[v] w fun e w' => RP b bl e w' ∧ Below w.heap.size w w' ∧ Fr w e w' := by
  have HSL := hid h
  obtain ⟨ao, cap, rfl, hlc, hcm, hcell⟩ := h
  obtain ⟨gb, off, rfl, hg, c0⟩ := hcell 0 (by simp)
  rw [List.getElem_cons_zero, Nat.add_zero] at c0
  rw [List.length_cons] at hlc HSL ⊢
  have HC := hid hcell
  unfold maxLen at hcm
  have HU := hid (fun w => refUnblock b hb w)
  have HF := hid (fun s ps sm h => hd_facts (b := b) (s := s) (ps := ps) (sm := sm) h)
  have HBK := hid (fun h => (un_back b h).2)
  obtain ⟨t, ht⟩ : ∃ t, t = (unV b).1 := ⟨_, rfl⟩
  obtain ⟨e, he⟩ : ∃ e, e = (unV b).2 := ⟨_, rfl⟩
  have HUV : Hid (unV b = (t, e)) := by show _ = _; rw [ht, he]
  rw [← ht, ← he] at HU HF HBK
  clear hcell ht he
  by_cases c1 : e = 0
  · have hts := HBK.out c1
    have HTS := hid hts
    by_cases c2 : t.size < 14
    · have hno : ¬ ∃ s ps sm, isHead b s ps sm := fun ⟨s, ps, sm, hd⟩ => by have := (HF.out s ps sm hd).2.1; omega
      subst c1
      go_enter Tryz.func109, Tryz.ntmps109
      go_wp2_with (first | (go_at_call 107; refine (HU.out _).mono ?_; rintro e w1 ⟨rfl, hb1⟩))
      refine bodyPost_ret (v := .tuple #[.int .i64 0, .slice none 0 0, .int .i64 0, .int .i64 4]) (by simp [results, Tryz.results109, go_sem]) rfl ⟨RP.no hno, hb1, Fr.no _ _ _ _ _⟩
    · have h0 : 0 < t.size := by omega
      have h9 : 9 < t.size := by omega
      have k0 : t[0].toNat < 256 := t[0].toNat_lt
      have k9 : t[9].toNat < 256 := t[9].toNat_lt
      cases c3 : ((t[0].toNat : Int) != 84) with
      | true =>
        have hno : ¬ ∃ s ps sm, isHead b s ps sm := fun ⟨s, ps, sm, hd⟩ => by
          have := (HF.out s ps sm hd).2.2.1 h0
          rw [this] at c3
          exact absurd c3 (by decide)
        subst c1
        go_enter Tryz.func109, Tryz.ntmps109
        go_wp2_with (first | (go_at_call 107; refine (HU.out _).mono ?_; rintro e w1 ⟨rfl, hb1⟩))
        refine bodyPost_ret (v := .tuple #[.int .i64 0, .slice none 0 0, .int .i64 0, .int .i64 4]) (by simp [results, Tryz.results109, go_sem]) rfl ⟨RP.no hno, hb1, Fr.no _ _ _ _ _⟩
      | false =>
        cases c4 : ((t.size : Int) != (14 : Int) + (2 : Int) * (t[9].toNat : Int)) with
        | true =>
          have hno : ¬ ∃ s ps sm, isHead b s ps sm := fun ⟨s, ps, sm, hd⟩ => by
            have h1 := (HF.out s ps sm hd).2.2.2 h9
            have h2 := (HF.out s ps sm hd).2.1
            rw [h1, h2] at c4
            simp at c4 <;> omega
          subst c1
          go_enter Tryz.func109, Tryz.ntmps109
          go_wp2_with (first | (go_at_call 107; refine (HU.out _).mono ?_; rintro e w1 ⟨rfl, hb1⟩))
          refine bodyPost_ret (v := .tuple #[.int .i64 0, .slice none 0 0, .int .i64 0, .int .i64 4]) (by simp [results, Tryz.results109, go_sem]) rfl ⟨RP.no hno, hb1, Fr.no _ _ _ _ _⟩
        | false =>
          obtain ⟨m, hm⟩ : ∃ m, t[9].toNat = m := ⟨_, rfl⟩
          have htm : t.size = 14 + 2 * m := by
            rw [hm] at c4
            simp at c4
            omega
          have hm256 : m < 256 := by omega
          obtain ⟨ps, hpl, hpb, hL, hsm⟩ := parse (L := t.data.toList) (m := m) (by rw [len_list]; exact htm) (by
              have e : t[0] = 84 := by
                have hz : (t[0].toNat : Int) = 84 := by
                  revert c3
                  generalize (t[0].toNat : Int) = z
                  intro c3
                  simpa using c3
                apply UInt8.toNat_inj.1
                show t[0].toNat = 84
                omega
              have h1 : t.data.toList = t[0] :: t.data.toList.drop 1 := by
                have := List.drop_eq_getElem_cons (l := t.data.toList) (i := 0) (by rw [len_list]; exact h0)
                rw [List.drop_zero] at this
                exact this
              rw [h1, e]; rfl) (by
              have h1 := List.drop_eq_getElem_cons (l := t.data.toList) (i := 9) (by rw [len_list]; exact h9)
              rw [h1]
              show [t[9]] = [UInt8.ofNat (m % 256)]
              rw [← hm, Nat.mod_eq_of_lt k9, u8_of])
          have h8l : ((t.data.toList.drop 1).take 8).length = 8 := by rw [List.length_take, List.length_drop, len_list]; omega
          have hs64 := big_lt ((t.data.toList.drop 1).take 8)
          rw [h8l, show (256 : Nat) ^ 8 = 18446744073709551616 by decide] at hs64
          obtain ⟨n, hn⟩ : ∃ n, n = t.extract 1 t.size := ⟨_, rfl⟩
          have hnl : n.data.toList.take 8 = (t.data.toList.drop 1).take 8 := by rw [hn, ext_list, List.take_of_length_le (l := t.data.toList) (by rw [len_list]; exact Nat.le_refl _)]
          have hns : n.size = t.size - 1 := by
            rw [← len_list, hn, ext_list, List.length_drop, List.length_take, len_list]
            omega
          obtain ⟨s, hs⟩ : ∃ s, s = big ((t.data.toList.drop 1).take 8) := ⟨_, rfl⟩
          obtain ⟨sm, hsme⟩ : ∃ sm, sm = big (t.data.toList.drop (10 + 2 * m)) := ⟨_, rfl⟩
          rw [← hs] at hL hs64
          rw [← hsme] at hL hsm
          have hfv : fval (n.data.toList.take 8) = s := by rw [fval_big, hnl, hs]
          have HONLY : Hid (∀ s' ps' sm', isHead b s' ps' sm' → s' = s ∧ ps' = ps ∧ sm' = sm) := fun s' ps' sm' h' =>
            isHead_only (by rw [HUV.out, c1, ← hL, st_toList]) hs64 hpb hsm h'
          have HHEAD : Hid (1 ≤ s → s ≤ 1099511627776 → placesB ps = true → isHead b s ps sm) := fun a1 a2 a3 => ⟨by rw [HUV.out, c1, ← hL, st_toList], a1, a2, a3, hsm⟩
          have HPL := hid (fun i hi h0 h1 => head_place s ps sm i hi hpb t hL h0 h1)
          have HPB := hid hpb
          have HPE := hid hpl
          have HN := hid hn
          have HQ1 := hid (fun hb g w h => q8_ok g n (by omega) (by unfold maxLen; omega) hb w h)
          have HQ2 := hid (fun hb g w h => q8_form g n (by omega) hb w h)
          rw [hfv] at HQ1 HQ2
          have HM9 := hid hm
          have HC3 := hid c3
          have HTM := hid htm
          clear hL hn hs hsme hfv hnl hns hpb hpl c3 c4 hm h8l k0 k9 htm
          subst c1
          go_enter Tryz.func109, Tryz.ntmps109
          have c3 : ((t[0].toNat : Int) != 84) = false := HC3.out
          have c4 : ((t.size : Int) != (14 : Int) + (2 : Int) * (t[9].toNat : Int)) = false := by rw [HM9.out, HTM.out]; simp
          have k0 : t[0].toNat < 256 := t[0].toNat_lt
          have k9 : t[9].toNat < 256 := t[9].toNat_lt
          go_wp2_with (first
            | (go_at_call 107; refine (HU.out _).mono ?_; rintro e w1 ⟨rfl, hb1⟩; have HB1 := hid hb1; clear hb1)
            | (go_at_call 108; fail))
          rw [← HN.out]
          have HQN := hid (QIs.new n w1)
          by_cases hs63 : s < 9223372036854775808
          · refine (HQ1.out hs63 _ _ HQN.out).mono ?_
            rintro e w2 ⟨rfl, hk2⟩
            have HB2 := hid (HB1.out.next (below_kept hk2))
            clear hk2 c3 c4
            by_cases hlo : 1 ≤ s
            · by_cases hhi : s ≤ 1099511627776
              · have hm54 : m ≤ 54 := by have := HTM.out; omega
                go_wp2
                simp only [HM9.out]
                go_loopw [12, 13, 14] (fun ov la i wr => ∃ (q : Nat) (last : Int), i = .int .i64 q ∧ q ≤ m ∧ la = .int .i64 last ∧ CRow w2.heap.size wr ov ((ps.take q).map zc) ∧ risesI (-1) ps = risesI last (ps.drop q) ∧ Below w2.heap.size w2 wr) (fun _ _ i _ => m - (intOf i).toNat)
                case atStart => exact ⟨0, -1, rfl, Nat.zero_le _, rfl, CRow.nil _ _, rfl, Below.refl _ _⟩
                case round =>
                  obtain ⟨q, last, rfl, hq, rfl, hRq, hri, hBq⟩ := hrel
                  have HRq := hid hRq
                  have HBq := hid hBq
                  have HRI := hid hri
                  obtain ⟨oo, ocap, rfl, ho1, ho2⟩ := hRq.len
                  unfold maxLen at ho2
                  have hlT : ((ps.take q).map zc).length = q := by rw [List.length_map, List.length_take, HPE.out]; omega
                  have hzq := hBq.size
                  obtain ⟨T, hT⟩ : ∃ T, T = (ps.take q).map zc := ⟨_, rfl⟩
                  rw [← hT] at HRq ho1 hlT ⊢
                  have HT := hid hT
                  have HLT := hid hlT
                  have hTb : T.length ≤ 54 := by omega
                  clear hRq hri hBq hT hlT
                  by_cases hqk : q < m
                  · have hqp : q < ps.length := by rw [HPE.out]; exact hqk
                    have hi0 : 10 + 2 * q < t.size := by have := HTM.out; omega
                    have hi1 : 11 + 2 * q < t.size := by have := HTM.out; omega
                    have hpp := HPB.out _ (List.getElem_mem hqp)
                    have HPLq := hid (HPL.out q hqp hi0 hi1)
                    have HTK := hid (List.take_succ_eq_append_getElem hqp)
                    have HDR := hid (drop_at ps q hqp)
                    obtain ⟨p, hp⟩ : ∃ p, p = ps[q] := ⟨_, rfl⟩
                    rw [← hp] at hpp HPLq HTK HDR
                    clear hp
                    have j0 : t[10 + 2 * q].toNat < 256 := t[10 + 2 * q].toNat_lt
                    have j1 : t[11 + 2 * q].toNat < 256 := t[11 + 2 * q].toNat_lt
                    have hi0' : (10 : Int) + 2 * (q : Int) < (t.size : Int) := by omega
                    have hi1' : (11 : Int) + 2 * (q : Int) < (t.size : Int) := by omega
                    have hn0 : ((10 : Int) + 2 * (q : Int)).toNat = 10 + 2 * q := by omega
                    have hn1 : ((11 : Int) + 2 * (q : Int)).toNat = 11 + 2 * q := by omega
                    have hz0 : (0 : Int) ≤ 10 + 2 * (q : Int) := by omega
                    have hz1 : (0 : Int) ≤ 11 + 2 * (q : Int) := by omega
                    have hr0 : ∀ w : World, (Instr.index 9 (.string t) (.int .i64 ((10 : Int) + 2 * (q : Int)))).run Tryz.prog w = .ok (.int .u8 ((t[10 + 2 * q].toNat : Nat) : Int)) w := by
                      intro w
                      rw [run_index_string w 9 t .i64 _ Tryz.underlying9, dif_pos ⟨hz0, hi0'⟩]
                      simp only [hn0]
                    have hr1 : ∀ w : World, (Instr.index 9 (.string t) (.int .i64 ((11 : Int) + 2 * (q : Int)))).run Tryz.prog w = .ok (.int .u8 ((t[11 + 2 * q].toNat : Nat) : Int)) w := by
                      intro w
                      rw [run_index_string w 9 t .i64 _ Tryz.underlying9, dif_pos ⟨hz1, hi1'⟩]
                      simp only [hn1]
                    go_wp2
                    go_quiet ((fail))
                    rw [HPLq.out]
                    clear hr0 hr1 hi0' hi1' hn0 hn1 hz0 hz1
                    by_cases hlt : last < p
                    · by_cases h1024 : p < 1024
                      · go_wp2_with (first
                          | (at_builtin; refine pushC (w0 := _) rfl (.tmp 100) (.tmp 103) rfl w2.heap.size _ _ T (zc p) rfl rfl rfl HRq.out (by omega) hzq ?_
                             intro v8 w8 hS8 hb8 hk8))
                        go_roundw
                        case rel =>
                          refine ⟨q + 1, p, by go_num, by omega, rfl, ?_, ?_, HBq.out.trans ⟨hb8.os, hb8.tape, hb8.output, hb8.size, hb8.block⟩⟩
                          · rw [HTK.out, List.map_append, ← HT.out]; exact hS8
                          · rw [HRI.out, HDR.out]
                            simp [risesI, hlt, h1024]
                        case measure => simp [intOf]; omega
                      · have hno : ¬ ∃ s ps sm, isHead b s ps sm := fun ⟨s', ps', sm', hd⟩ => by
                          have h1 := (HONLY.out s' ps' sm' hd).2.1
                          have h2 := (placesB_iff.1 hd.2.2.2.1).1
                          rw [h1, HRI.out, HDR.out] at h2
                          simp [risesI, h1024] at h2
                        go_wp2
                        refine bodyPost_ret (v := .tuple #[.int .i64 0, .slice none 0 0, .int .i64 0, .int .i64 4]) (by simp [results, Tryz.results109, go_sem]) rfl ⟨RP.no hno, ?_, Fr.no _ _ _ _ _⟩
                        have hf := HB2.out.next HBq.out
                        exact ⟨hf.os, hf.tape, hf.output, hf.size, hf.block⟩
                    · have hno : ¬ ∃ s ps sm, isHead b s ps sm := fun ⟨s', ps', sm', hd⟩ => by
                        have h1 := (HONLY.out s' ps' sm' hd).2.1
                        have h2 := (placesB_iff.1 hd.2.2.2.1).1
                        rw [h1, HRI.out, HDR.out] at h2
                        simp [risesI, hlt] at h2
                      go_wp2
                      refine bodyPost_ret (v := .tuple #[.int .i64 0, .slice none 0 0, .int .i64 0, .int .i64 4]) (by simp [results, Tryz.results109, go_sem]) rfl ⟨RP.no hno, ?_, Fr.no _ _ _ _ _⟩
                      have hf := HB2.out.next HBq.out
                      exact ⟨hf.os, hf.tape, hf.output, hf.size, hf.block⟩
                  · have hqe : q = m := by omega
                    subst hqe
                    have hpr : risesI (-1) ps = true := by
                      rw [HRI.out, List.drop_of_length_le (by rw [HPE.out]; exact Nat.le_refl _)]; rfl
                    have HPR := hid hpr
                    clear hpr
                    by_cases h48 : 48 < q
                    · have hno : ¬ ∃ s ps sm, isHead b s ps sm := fun ⟨s', ps', sm', hd⟩ => by
                        have h1 := (HONLY.out s' ps' sm' hd).2.1
                        have h2 := (placesB_iff.1 hd.2.2.2.1).2
                        rw [h1, HPE.out] at h2
                        omega
                      go_wp2
                      refine bodyPost_ret (v := .tuple #[.int .i64 0, .slice none 0 0, .int .i64 0, .int .i64 4]) (by simp [results, Tryz.results109, go_sem]) rfl ⟨RP.no hno, HB2.out.next HBq.out, Fr.no _ _ _ _ _⟩
                    · have HD := hid (HHEAD.out hlo hhi (placesB_iff.2 ⟨HPR.out, by rw [HPE.out]; omega⟩))
                      by_cases hcut : bl.length < q
                      · go_wp2
                        refine bodyPost_ret (v := .tuple #[.int .i64 0, .slice none 0 0, .int .i64 0, .int .i64 20]) (by simp [results, Tryz.results109, go_sem]) rfl ⟨⟨fun hn => absurd ⟨s, ps, sm, HD.out⟩ hn, fun s' ps' sm' hd' => ?_⟩, HB2.out.next HBq.out, Fr.no _ _ _ _ _⟩
                        obtain ⟨rfl, rfl, rfl⟩ := HONLY.out s' ps' sm' hd'
                        exact ⟨fun _ => rfl, fun hx => by have := HPE.out; omega⟩
                      · obtain ⟨D, hDe⟩ : ∃ D, D = bl.take ps.length := ⟨_, rfl⟩
                        have hDl : D.length = ps.length := by rw [hDe, List.length_take, HPE.out]; omega
                        have HDL := hid hDl
                        have HDE := hid hDe
                        have HLL : Hid ((zipC ps D).length = q) := by show _ = _; rw [zipC_len hDl, HPE.out]
                        have HRL : Hid (right (zipC ps D) = blocksB D) := by
                          show _ = _
                          unfold right
                          rw [right_zip hDl HPR.out, HLL.out, decide_eq_true (by omega)]; rfl
                        have HAG := hid (again HD.out hDl)
                        have HGET : Hid (∀ j (hj : j < q), ∃ hd : j < D.length, (zipC ps D)[j]'(by rw [HLL.out]; exact hj) = ⟨ps[j]'(by rw [HPE.out]; exact hj), D[j]⟩ ∧ w.cell? ⟨gb, off + (j + 1), none⟩ = some (.string D[j])) := by
                          intro j hj
                          have h1 : j < D.length := by rw [hDl, HPE.out]; exact hj
                          refine ⟨h1, zipC_get j _ _ h1, ?_⟩
                          obtain ⟨gb', off', e1, _, c⟩ := HC.out (j + 1) (by simp; omega)
                          injection e1 with e1
                          injection e1 with e2 e3 _
                          subst e2 e3
                          rw [List.getElem_cons_succ] at c
                          rw [c]
                          congr 2
                          have : D[j] = (bl.take ps.length)[j]'(by rw [← hDe]; exact h1) := by simp only [hDe]
                          rw [this, List.getElem_take]
                        have HST : Hid (q = 0 ∨ ∃ g, oo = some ⟨g, 0, none⟩ ∧ w2.heap.size ≤ g ∧ Fil2 g q 0 wr (zipC ps D)) := by
                          by_cases hq0 : q = 0
                          · exact .inl hq0
                          · refine .inr ?_
                            have hT2 : T = ps.map zc := by rw [HT.out, List.take_of_length_le (by rw [HPE.out]; exact Nat.le_refl _)]
                            obtain ⟨g, cp, e1, _, _, e4, e5⟩ := crow_some (hT2 ▸ HRq.out) hDl (by rw [HPE.out]; omega)
                            injection e1 with e1 _ _
                            rw [HPE.out] at e5
                            exact ⟨g, e1, e4, e5⟩
                        rw [HLT.out] at ho1 ⊢
                        clear hDl hDe
                        obtain ⟨L, hLz⟩ : ∃ L, L = zipC ps D := ⟨_, rfl⟩
                        have HLZ := hid hLz
                        rw [← hLz] at HLL HRL HAG HST
                        clear hLz
                        go_wp2
                        go_loopw [114] (fun i wx => ∃ j : Nat, i = .int .i64 j ∧ j ≤ q ∧ (q = 0 ∨ ∃ g, oo = some ⟨g, 0, none⟩ ∧ w2.heap.size ≤ g ∧ Fil2 g q j wx L) ∧ Below w2.heap.size w2 wx) (fun i _ => q - (intOf i).toNat)
                        case atStart => exact ⟨0, rfl, Nat.zero_le _, HST.out, HBq.out⟩
                        case round =>
                          rename World => wx
                          obtain ⟨j, rfl, hj, hst, hBx⟩ := hrel
                          have HBx := hid hBx
                          have HBw := hid (HB2.out.next hBx)
                          have HSX := hid hst
                          clear hBx hst
                          by_cases hjk : j < q
                          · obtain ⟨g, e1, hgg, hF⟩ : ∃ g, oo = some ⟨g, 0, none⟩ ∧ w2.heap.size ≤ g ∧ Fil2 g q j wx L := by
                              rcases HSX.out with h | h
                              · omega
                              · exact h
                            subst e1
                            obtain ⟨hdj, ez, dc⟩ := HGET.out j hjk
                            replace dc := (HBw.out.cell (p := ⟨gb, off + (j + 1), none⟩) hg).trans dc
                            have hgr : gb < wx.heap.size := Nat.lt_of_lt_of_le hg HBw.out.size
                            obtain ⟨x1, hx1⟩ := hF.get (j * 2 + 1) (by omega)
                            have hf1 := hF.free (j * 2 + 1)
                            have HS2 := hid (hF.set HLL.out hjk)
                            have eL : (L[j]'(by rw [HLL.out]; exact hjk)).d = D[j] := by
                              have : L[j]'(by rw [HLL.out]; exact hjk) = (zipC ps D)[j]'(by rw [← HLZ.out, HLL.out]; exact hjk) := by simp only [HLZ.out]
                              rw [this, ez]
                            rw [eL] at HS2
                            obtain ⟨d, hd⟩ : ∃ d, d = D[j] := ⟨_, rfl⟩
                            rw [← hd] at dc HS2
                            clear hd ez eL
                            have hwl : g < wx.heap.size := by
                              obtain ⟨cur, k, _⟩ := hF
                              exact lt_of_block k
                            clear hF
                            go_wp2
                            go_roundw
                            case rel => exact ⟨j + 1, by go_num, by omega, .inr ⟨g, rfl, hgg, HS2.out⟩, HBx.out.setCell hgg _⟩
                            case measure => simp [intOf]; omega
                          · have hje : j = q := by omega
                            subst hje
                            have HCL : Hid (CLie wx (.slice oo j ocap) L) := by
                              rcases HSX.out with h | ⟨g, e1, _, hF⟩
                              · have : L = [] := List.eq_nil_of_length_eq_zero (by rw [HLL.out]; exact h)
                                subst this
                                subst h
                                exact ⟨oo, ocap, rfl, Nat.zero_le _, by unfold maxLen; omega, fun i hi => by simp at hi⟩
                              · subst e1
                                exact hF.lie HLL.out ho1 (by unfold maxLen; omega)
                            cases hB : blocksB D with
                            | false =>
                              have HE := hid (fun w h => refEncode_txn (s : Int) (.slice oo j ocap) L (by omega) w h (by rw [HRL.out]; exact hB))
                              go_wp2_with (first | (go_at_call 116; refine (HE.out _ HCL.out).mono ?_; rintro e w5 ⟨rfl, hb5⟩; have HB5 := hid (HBw.out.next hb5); clear hb5))
                              go_quiet ((fail))
                              go_wp2
                              refine bodyPost_ret (v := .tuple #[.int .i64 0, .slice none 0 0, .int .i64 0, .int .i64 4]) (by simp [results, Tryz.results109, go_sem]) rfl ⟨⟨fun hn => absurd ⟨s, ps, sm, HD.out⟩ hn, fun s' ps' sm' hd' => ?_⟩, HB5.out.dN _, Fr.no _ _ _ _ _⟩
                              obtain ⟨rfl, rfl, rfl⟩ := HONLY.out s' ps' sm' hd'
                              refine ⟨fun hx => by have := HPE.out; omega, fun _ => ?_⟩
                              rw [← HDE.out]
                              exact ⟨fun hx => by rw [hB] at hx; exact absurd hx.1 (by decide), fun _ => rfl⟩
                            | true =>
                              have HE := hid (fun w h => refEncode_ok s (.slice oo j ocap) L hlo hhi w h (by rw [HRL.out]; exact hB))
                              have hEl : (encL s L).length = L.length + 1 := encL_len s L
                              have HE0 : Hid ((encL s L)[0]'(by rw [hEl]; omega) = headB s L) := rfl
                              go_wp2_with (first | (go_at_call 116; fail))
                              refine (HE.out _ HCL.out).mono ?_
                              rintro e w5 ⟨av, rfl, hS5, hb5⟩
                              have HB5 := hid (HBw.out.next hb5)
                              have HFR5 : Hid (∀ n k g q, Fr w (.returned (.tuple #[n, .slice oo j ocap, k, g])) (w5.drewN q)) := by
                                intro n k g q n' v' k' g' e
                                simp at e
                                obtain ⟨_, rfl, _, _⟩ := e
                                rcases HSX.out with h | ⟨gg, e1, hgg, hF⟩
                                · subst h; exact .inl ⟨_, _, rfl⟩
                                · refine .inr fun x hx => ?_
                                  subst e1
                                  have hx : gg = x := by simpa [Value.ownBlock] using hx
                                  subst hx
                                  obtain ⟨cur, k, _⟩ := hF
                                  have h1 := lt_of_block k
                                  have h2 := hb5.size
                                  have h3 := HB2.out.size
                                  exact ⟨by omega, by show gg < w5.heap.size; omega⟩
                              have HCL5 := hid (HCL.out.below hb5)
                              obtain ⟨ao5, acap, rfl, ha1, ha2, hac⟩ := hS5
                              obtain ⟨ag, aoff, rfl, hagl, ac⟩ := hac 0 (by rw [hEl]; omega)
                              rw [HE0.out, Nat.add_zero] at ac
                              rw [hEl] at ha1 ⊢
                              unfold maxLen at ha2
                              have c5 := (HB5.out.cell (p := ⟨gb, off, none⟩) hg).trans c0
                              have hg5 : gb < w5.heap.size := Nat.lt_of_lt_of_le hg HB5.out.size
                              obtain ⟨x, hx⟩ : ∃ x, x = headB s L := ⟨_, rfl⟩
                              rw [← hx] at ac HAG
                              clear hx hac hb5 HE0 hEl
                              by_cases hc : crc (allD D) = sm
                              · have hxb : x = b := HAG.out.2 hc
                                subst hxb
                                go_wp2
                                go_quiet ((fail))
                                go_wp2
                                refine bodyPost_ret (v := .tuple #[.int .i64 s, .slice oo j ocap, .int .i64 ((j : Int) + 1), .int .i64 0]) (by simp [results, Tryz.results109, go_sem]) rfl ⟨⟨fun hn => absurd ⟨s, ps, sm, HD.out⟩ hn, fun s' ps' sm' hd' => ?_⟩, HB5.out.dN _, HFR5.out _ _ _ _⟩
                                obtain ⟨rfl, rfl, rfl⟩ := HONLY.out s' ps' sm' hd'
                                refine ⟨fun hx => by have := HPE.out; omega, fun _ => ?_⟩
                                rw [← HDE.out]
                                refine ⟨fun _ => ⟨.slice oo j ocap, by rw [HPE.out, Int.add_comm], ?_⟩, fun hx => absurd ⟨hB, hc⟩ hx⟩
                                rw [← HLZ.out]
                                exact HCL5.out.below ⟨rfl, rfl, rfl, Nat.le_refl _, fun _ _ => rfl⟩
                              · have hxb : (x.toList == b.toList) = false := by
                                  cases hz : (x.toList == b.toList) with
                                  | false => rfl
                                  | true =>
                                    have h1 : x.toList = b.toList := by simpa using hz
                                    rw [Lib.toList_data, Lib.toList_data] at h1
                                    exact absurd (HAG.out.1 (ByteArray.ext (Array.toList_inj.1 h1))) hc
                                go_wp2
                                go_quiet ((fail))
                                go_wp2
                                refine bodyPost_ret (v := .tuple #[.int .i64 0, .slice none 0 0, .int .i64 0, .int .i64 4]) (by simp [results, Tryz.results109, go_sem]) rfl ⟨⟨fun hn => absurd ⟨s, ps, sm, HD.out⟩ hn, fun s' ps' sm' hd' => ?_⟩, HB5.out.dN _, Fr.no _ _ _ _ _⟩
                                obtain ⟨rfl, rfl, rfl⟩ := HONLY.out s' ps' sm' hd'
                                refine ⟨fun hx => by have := HPE.out; omega, fun _ => ?_⟩
                                rw [← HDE.out]
                                exact ⟨fun hx => absurd hx.2 hc, fun _ => rfl⟩
              · have hno : ¬ ∃ s ps sm, isHead b s ps sm := fun ⟨s', ps', sm', hd⟩ => by
                  have h1 := (HONLY.out s' ps' sm' hd).1
                  have h2 := hd.2.2.1
                  omega
                go_wp2
                refine bodyPost_ret (v := .tuple #[.int .i64 0, .slice none 0 0, .int .i64 0, .int .i64 4]) (by simp [results, Tryz.results109, go_sem]) rfl ⟨RP.no hno, HB2.out, Fr.no _ _ _ _ _⟩
            · have hno : ¬ ∃ s ps sm, isHead b s ps sm := fun ⟨s', ps', sm', hd⟩ => by
                have h1 := (HONLY.out s' ps' sm' hd).1
                have h2 := hd.2.1
                omega
              go_wp2
              refine bodyPost_ret (v := .tuple #[.int .i64 0, .slice none 0 0, .int .i64 0, .int .i64 4]) (by simp [results, Tryz.results109, go_sem]) rfl ⟨RP.no hno, HB2.out, Fr.no _ _ _ _ _⟩
          · refine (HQ2.out hs63 _ _ HQN.out).mono ?_
            rintro e w2 ⟨rfl, hk2⟩
            have HB2 := hid (HB1.out.next (below_kept hk2))
            have hno : ¬ ∃ s ps sm, isHead b s ps sm := fun ⟨s', ps', sm', hd⟩ => by
              have h1 := (HONLY.out s' ps' sm' hd).1
              have h2 := hd.2.2.1
              omega
            clear hk2 c3 c4
            go_wp2
            refine bodyPost_ret (v := .tuple #[.int .i64 0, .slice none 0 0, .int .i64 0, .int .i64 4]) (by simp [results, Tryz.results109, go_sem]) rfl ⟨RP.no hno, HB2.out, Fr.no _ _ _ _ _⟩
  · have hno : ¬ ∃ s ps sm, isHead b s ps sm := fun ⟨s, ps, sm, hd⟩ => c1 (HF.out s ps sm hd).1
    have heb : (e != 0) = true := by simp [c1]
    go_enter Tryz.func109, Tryz.ntmps109
    go_wp2_with (first | (go_at_call 107; refine (HU.out _).mono ?_; rintro e w1 ⟨rfl, hb1⟩))
    refine bodyPost_ret (v := .tuple #[.int .i64 0, .slice none 0 0, .int .i64 0, .int .i64 4]) (by simp [results, Tryz.results109, go_sem]) rfl ⟨RP.no hno, hb1, Fr.no _ _ _ _ _⟩
end Go.Proofs.YtopebghandojbaaGreat
namespace Go.Proofs.YtopebghandojbaaGreat
open Go.RowKit Go.Maps
theorem Ov.nil (w : World) (ao : Option Addr) (cap : Nat) (hc : cap ≤ maxLen) : CLie w (.slice ao 0 cap) [] := ⟨ao, cap, rfl, Nat.zero_le _, hc, fun i hi => by simp at hi⟩
/-- a slice of no length, or one whose block -/
def Zs (v : Value) : Prop := ∃ ao cap, v = .slice ao 0 cap
theorem CLie.kept {w w' : World} {v : Value} {l : List Chg} (h : CLie w v l) (hs : w.heap.size ≤ w'.heap.size) (k : Zs v ∨ ∀ x, v.ownBlock = some x → w'.heap[x]? = w.heap[x]?) : CLie w' v l := by
  rcases k with ⟨ao, cap, rfl⟩ | k
  · obtain ⟨ao', cap', e, h1, h2, h3⟩ := h
    injection e with e1 e2 e3
    have : l = [] := List.eq_nil_of_length_eq_zero e2.symm
    subst this e3
    exact Ov.nil w' ao cap h2
  · exact h.same hs k
theorem rdec_yes (v : Value) (R : List ByteArray) (s : Nat) (L : List Chg) (hR : ∀ b ∈ R, b.size ≤ 150000000000000) (h : decOk R s L) (w : World) (hv : SLie w v R) : Calls Tryz.prog 109 #[v] w fun e w' => ∃ v', e = .returned (.tuple #[.int .i64 s, v', .int .i64 (1 + (L.length : Int)), .int .i64 0]) ∧ CLie w' v' L ∧ (Zs v' ∨ ∀ x, v'.ownBlock = some x → w.heap.size ≤ x ∧ x < w'.heap.size) ∧ Below w.heap.size w w' := by
  obtain ⟨b, bl, ps, sm, rfl, h1, h2, h3, h4, rfl⟩ := h
  have hl : (bl.take ps.length).length = ps.length := by rw [List.length_take]; omega
  refine (refDecode_any v b bl w hv (hR b (by simp))).mono fun e w' ⟨hd, hb, hf⟩ => ?_
  obtain ⟨v', he, hc⟩ := ((hd.2 s ps sm h1).2 h2).1 ⟨h3, h4⟩
  rw [zipC_len hl]
  exact ⟨v', he, hc, hf _ _ _ _ he, hb⟩
theorem rdec_no (v : Value) (R : List ByteArray) (hR : ∀ b ∈ R, b.size ≤ 150000000000000) (h : ¬ ∃ s L, decOk R s L) (w : World) (hv : SLie w v R) : Calls Tryz.prog 109 #[v] w fun e w' => ∃ c : Int, e = .returned (.tuple #[.int .i64 0, .slice none 0 0, .int .i64 0, .int .i64 c]) ∧ c ≠ 0 ∧ Below w.heap.size w w' := by
  cases R with
  | nil =>
    obtain ⟨ao, cap, rfl, _⟩ := hv
    exact (refDecode_none ao cap w).mono fun e w' ⟨he, hw⟩ => ⟨20, he, by decide, by rw [hw]; exact Below.refl _ _⟩
  | cons b bl =>
    have hb := hR b (by simp)
    refine (refDecode_any v b bl w hv hb).mono fun e w' ⟨hd, hbw, _⟩ => ?_
    by_cases hh : ∃ s ps sm, isHead b s ps sm
    · obtain ⟨s, ps, sm, hh⟩ := hh
      by_cases hs : bl.length < ps.length
      · exact ⟨20, (hd.2 s ps sm hh).1 hs, by decide, hbw⟩
      · exact ⟨4, ((hd.2 s ps sm hh).2 (by omega)).2 fun hx => h ⟨s, _, b, bl, ps, sm, rfl, hh, by omega, hx.1, hx.2, rfl⟩, by decide, hbw⟩
    · exact ⟨4, hd.1 hh, by decide, hbw⟩
theorem RK.push {g : Nat} {r : Option Nat} {w w7 : World} {P : Int} {T F S : Nat} {us : List Value} {y v7 : Value} {ao : Option Addr} {cap nl : Nat} (hro : (Value.slice ao nl cap).ownBlock = r) (hI : RI g w P T F S (.slice ao nl cap)) (hR : VRow w (.slice ao nl cap) us) (h3 : ∀ v ∈ us, Slc v) (hy : Slc y)
    (hR7 : VRow w7 v7 (us ++ [y])) (hg7 : w.grownBy w7 (Value.slice ao nl cap).ownBlock) (hn7 : v7.ownBlock = (Value.slice ao nl cap).ownBlock ∨ ∃ k, v7.ownBlock = some k ∧ w.heap.size ≤ k) :
    RK g v7.ownBlock (w7.setCell ⟨g, 4, none⟩ v7) P T F S (us ++ [y]) ∧ New w r v7.ownBlock ∧ JFr g r w (w7.setCell ⟨g, 4, none⟩ v7) := by
  have hRK : RK g r w P T F S us := ⟨_, hro, hI, hR, h3⟩
  have hltr := hRK.lt
  have hgr : some g ≠ (Value.slice ao nl cap).ownBlock := by
    intro e
    exact (hltr.2 g (hro.symm.trans e.symm)).2 rfl
  have ne7 : ∀ x, v7.ownBlock = some x → x ≠ g := by
    intro x hx
    rcases hn7 with e | ⟨k, e, hk⟩
    · exact (hltr.2 x (hro.symm.trans (e.symm.trans hx))).2
    · rw [hx] at e
      injection e with e
      have := hltr.1
      omega
  have hI7 : RI g w7 P T F S (.slice ao nl cap) := (hg7.block g hltr.1 hgr).trans hI
  refine ⟨⟨_, rfl, hI7.set4 _, hR7.same fun x hx => Below.heap_setCell _ _ _ _ (ne7 x hx), fun v hv => ?_⟩, ?_, ?_⟩
  · rcases List.mem_append.1 hv with h | h
    · exact h3 v h
    · rw [List.mem_singleton] at h
      subst h
      exact hy
  · rcases hn7 with e | ⟨k, e, hk⟩
    · exact .inl (e.trans hro)
    · exact .inr ⟨k, e, hk⟩
  · have k7 : JFr g r w w7 := ⟨hg7.os, hg7.tape, hg7.output, hg7.size, fun k hk _ h2 => hg7.block k hk (by rw [hro]; exact h2)⟩
    exact k7.set (.inl rfl) _ _
/-- the reference's journal, and the transactions that it has told so far -/
structure ROS (B g : Nat) (r : Option Nat) (w : World) (P : Int) (T F S : Nat) (Ls : List (List Chg)) (us : List Value) : Prop where
  rk : RK g r w P T F S us
  ln : us.length = Ls.length
  cl : ∀ i (hi : i < us.length) (hj : i < Ls.length), CLie w us[i] Ls[i]
  vo : ∀ u ∈ us, Zs u ∨ ∀ x, u.ownBlock = some x → B ≤ x ∧ x < w.heap.size ∧ x ≠ g ∧ some x ≠ r
  b1 : B ≤ g
  b2 : ∀ x, r = some x → B ≤ x
theorem ROS.keep {B g : Nat} {r : Option Nat} {w w' : World} {P : Int} {T F S : Nat} {Ls : List (List Chg)} {us : List Value} (h : ROS B g r w P T F S Ls us) (k : Below w.heap.size w w') : ROS B g r w' P T F S Ls us := by
  have hs := k.size
  refine ⟨h.rk.below k, h.ln, fun i hi hj => (h.cl i hi hj).below k, fun u hu => ?_, h.b1, h.b2⟩
  rcases h.vo u hu with hz | hx
  · exact .inl hz
  · exact .inr fun x e => by have := hx x e; exact ⟨this.1, by omega, this.2.2⟩
theorem ROS.push {B g : Nat} {r r' : Option Nat} {w w' : World} {P : Int} {T F S : Nat} {Ls : List (List Chg)} {us : List Value} {v : Value} {L : List Chg} (h : ROS B g r w P T F S Ls us) (hc : CLie w v L) (hv : Zs v ∨ ∀ x, v.ownBlock = some x → B ≤ x ∧ x < w.heap.size ∧ x ≠ g ∧ some x ≠ r)
    (hk : RK g r' w' P T F S (us ++ [v])) (hn : New w r r') (hf : JFr g r w w') : ROS B g r' w' P T F S (Ls ++ [L]) (us ++ [v]) ∧ Below B w w' := by
  have hB : B ≤ w.heap.size := Nat.le_trans h.b1 (Nat.le_of_lt h.rk.lt.1)
  have hs := hf.size
  have hall : ∀ u ∈ us ++ [v], Zs u ∨ ∀ x, u.ownBlock = some x → B ≤ x ∧ x < w.heap.size ∧ x ≠ g ∧ some x ≠ r := by
    intro u hu
    rcases List.mem_append.1 hu with hu | hu
    · exact h.vo u hu
    · rw [List.mem_singleton] at hu; subst hu; exact hv
  have hsame : ∀ u ∈ us ++ [v], Zs u ∨ ∀ x, u.ownBlock = some x → w'.heap[x]? = w.heap[x]? := by
    intro u hu
    rcases hall u hu with hz | hx
    · exact .inl hz
    · exact .inr fun x e => by obtain ⟨_, a, b, c⟩ := hx x e; exact hf.block x a b c
  refine ⟨⟨hk, by simp [h.ln], fun i hi hj => ?_, fun u hu => ?_, h.b1, fun x hx => ?_⟩, hf.below hB h.b1 h.b2⟩
  · by_cases hiu : i < us.length
    · rw [List.getElem_append_left hiu, List.getElem_append_left (by rw [← h.ln]; exact hiu)]
      exact (h.cl i hiu (by rw [← h.ln]; exact hiu)).kept hs (hsame _ (List.mem_append_left _ (List.getElem_mem hiu)))
    · have hie : i = us.length := by simp at hi; omega
      subst hie
      have e1 : (us ++ [v])[us.length] = v := by simp
      have e2 : (Ls ++ [L])[us.length] = L := by simp [h.ln]
      rw [e1, e2]
      exact hc.kept hs (hsame v (by simp))
  · rcases hall u hu with hz | hx
    · exact .inl hz
    · refine .inr fun x e => ?_
      obtain ⟨a, b, c, d⟩ := hx x e
      refine ⟨a, by omega, c, ?_⟩
      rcases hn with rfl | ⟨k, rfl, hk2⟩
      · exact d
      · intro ee; cases ee; omega
  · rcases hn with rfl | ⟨k, rfl, hk2⟩
    · exact h.b2 x hx
    · cases hx; omega
end Go.Proofs.YtopebghandojbaaGreat
namespace Go.Proofs.YtopebghandojbaaGreat
open Go.RowKit Go.Maps
/-- what the reference's Open answers of a region whose header is right -/
def ROP (B : Nat) (P : Int) (T F S : Nat) (R : List ByteArray) (e : Ending) (w' : World) : Prop :=
  (∀ Ls, Ls.length = S → decs F R Ls → ∃ g r us, e = .returned (.tuple #[.pointer (some ⟨g, 0, none⟩), .int .i64 0]) ∧ ROS B g r w' P T F S Ls us) ∧ ((¬ ∃ Ls, Ls.length = S ∧ decs F R Ls) → RON e)
theorem ROP.no {B : Nat} {P : Int} {T F S : Nat} {R : List ByteArray} {w' : World} {Ls : List (List Chg)} (hd : decs F R Ls) (hl : Ls.length < S) (h : ∀ L, ¬ decOk (R.drop (used Ls)) (F + Ls.length) L) : ROP B P T F S R (.returned (.tuple #[.pointer none, .int .i64 80])) w' :=
  ⟨fun Ks hK hk => by obtain ⟨L, hL⟩ := hd.at hk (by omega); exact absurd hL (h L), fun _ => rfl⟩
set_option maxRecDepth 100000 in
set_option maxHeartbeats 8000000 in
theorem ropen_go (v : Value) (b0 : ByteArray) (ring : List ByteArray) (w : World) (hv : SLie w v (b0 :: ring)) (hz : ∀ b ∈ b0 :: ring, b.size ≤ 150000000000000) (hn : 7 ≤ ring.length ∧ ring.length ≤ 255) (s : ByteArray) (hu : unV b0 = (s, 0)) (hs : s.size = 19) (hf : nF s < 9223372036854775808) (he : nE s < 9223372036854775808)
    (h : nF s ≤ nE s ∧ nE s - nF s ≤ ring.length ∧ nT s < ring.length ∧ 1 ≤ nF s ∧ nF s ≤ 1099511627776) (hx : hdB (nT s) (nF s) (nE s) = b0) :
    Calls Tryz.prog 58 #[v] w fun e w' => ROP w.heap.size ring.length (nT s) (nF s) (nE s - nF s) (ring.drop (nT s) ++ ring.take (nT s)) e w' ∧ Below w.heap.size w w' := by
  have hb := hz b0 (by simp)
  have HU := hid (fun w => refUnblock b0 hb w)
  rw [hu] at HU
  simp only at HU
  obtain ⟨z1, z2, z3, hT6⟩ := n_sizes hs
  have h19 : ((s.size : Int) != 19) = false := by simp; omega
  have H2 := hid (nums2 s hs)
  have H3 := hid (nums8 s hs hf)
  have H4 := hid (nums8e s hs he)
  obtain ⟨F, hF⟩ : ∃ F, F = nF s := ⟨_, rfl⟩
  rw [← hF] at H3 hf h
  obtain ⟨E, hE⟩ : ∃ E, E = nE s := ⟨_, rfl⟩
  rw [← hE] at H4 he h
  obtain ⟨ao, cap, rfl, hlc, hcm, hcell⟩ := hv
  obtain ⟨gb, off, rfl, hg, c0⟩ := hcell 0 (by simp)
  rw [List.getElem_cons_zero, Nat.add_zero] at c0
  rw [List.length_cons] at hlc ⊢
  obtain ⟨t, ht⟩ : ∃ t, t = s.extract 1 s.size := ⟨_, rfl⟩
  obtain ⟨T, hT⟩ : ∃ T, T = nT s := ⟨_, rfl⟩
  rw [← hT, ← hF, ← hE] at hx
  rw [← hT, ← hF, ← hE]
  have HCR := hid hcell
  rw [← ht, ← hT] at H2
  rw [← hT] at hT6 h
  rw [← ht] at z1
  have hts : t.size = 18 := z1
  have hex : s.extract 1 19 = t := by rw [← hs]; exact ht.symm
  have HC0 := hid c0
  have HZ : Hid (∀ b ∈ ring.drop T ++ ring.take T, b.size ≤ 150000000000000) := by
    intro b hb
    refine hz b (List.mem_cons_of_mem _ ?_)
    rcases List.mem_append.1 hb with h | h
    · exact List.mem_of_mem_drop h
    · exact List.mem_of_mem_take h
  have HRL : Hid ((ring.drop T ++ ring.take T).length = ring.length) := by show _ = _; rw [List.length_append, List.length_drop, List.length_take]; omega
  have HRG : Hid (∀ i, i < ring.length → (ring.drop T ++ ring.take T)[i]? = ring[(T + i) % ring.length]?) := fun i hi => rot_get ring (T := T) (by omega) hi
  obtain ⟨R, hR⟩ : ∃ R, R = ring.drop T ++ ring.take T := ⟨_, rfl⟩
  rw [← hR] at HZ HRL HRG ⊢
  clear hcell ht z1 z2 z3 hb hu hT hF hE hz hR
  have hxx := hid hx
  clear hx
  unfold maxLen at hcm
  go_enter Tryz.func58, Tryz.ntmps58
  go_upto_region 12 with (first
    | (go_at_call 107; refine (HU.out _).mono ?_; rintro e w1 ⟨rfl, hb1⟩; have HB1 := hid hb1; clear hb1)
    | (go_at_call 108; have hk := HQ3; clear hk; refine (H4.out _ _ HQ3.out).mono ?_; rintro e w4 ⟨rfl, hq4, hk4⟩; have HK4 : Hid (Below w1.heap.size w1 w4) := hid (HK3.out.trans (hk4.low (Nat.le_of_lt hz3) (Nat.le_refl _))); have hz4 := Nat.lt_of_lt_of_le hz3 hk4.size; clear hq4 hk4)
    | (go_at_call 108; have hk := HQ2; clear hk; refine (H3.out _ _ HQ2.out).mono ?_; rintro e w3 ⟨rfl, hq3, hk3⟩; have HQ3 := hid hq3; have HK3 : Hid (Below w1.heap.size w1 w3) := hid (HK2.out.trans (hk3.low (Nat.le_of_lt hz2) (Nat.le_refl _))); have hz3 := Nat.lt_of_lt_of_le hz2 hk3.size; clear hq3 hk3)
    | (go_at_call 108; refine (H2.out _ _ (by exact QIs.new t w1)).mono ?_; rintro e w2 ⟨rfl, hq2, hk2⟩; have HQ2 := hid hq2; have HK2 : Hid (Below w1.heap.size w1 w2) := hid (below_kept' hk2); have hz2 : w1.heap.size < w2.heap.size := HQ2.out.lt; clear hq2 hk2))
  obtain ⟨h1, h2, h3, h4, h5⟩ := h
  obtain ⟨S, hS⟩ : ∃ S, E = F + S := ⟨E - F, by omega⟩
  have i1 : IntKind.i64.wrap ((E : Int) - (F : Int)) = (E : Int) - (F : Int) := by rw [IntKind.wrap_i64]; omega
  have i2 : IntKind.i64.wrap ((ring.length : Int) + 1 - 1) = (ring.length : Int) := by rw [IntKind.wrap_i64]; omega
  have d1 : decide ((E : Int) < (F : Int)) = false := by simp; omega
  have d2 : decide ((ring.length : Int) < (S : Int)) = false := by simp; omega
  have d3 : decide ((ring.length : Int) ≤ (T : Int)) = false := by simp; omega
  have d4 : decide ((F : Int) < 1) = false := by simp; omega
  have d5 : decide ((1099511627776 : Int) < (F : Int)) = false := by simp; omega
  have n1 : decide (E < F) = false := by simp; omega
  have n2 : decide (ring.length < S) = false := by simp; omega
  have n3 : decide (ring.length ≤ T) = false := by simp; omega
  have n4 : decide (F < 1) = false := by simp; omega
  have n5 : decide (1099511627776 < F) = false := by simp; omega
  have m1 : ((F : Int) ≤ (E : Int)) := by omega
  have m2 : ((S : Int) ≤ (ring.length : Int)) := by omega
  have m3 : ((T : Int) < (ring.length : Int)) := by omega
  have m4 : ((1 : Int) ≤ (F : Int)) := by omega
  have m5 : ((F : Int) ≤ 1099511627776) := by omega
  have i3 : IntKind.i64.wrap (ring.length : Int) = (ring.length : Int) := by rw [IntKind.wrap_i64]; omega
  have d2a : decide ((ring.length : Int) < (E : Int) - (F : Int)) = false := by simp; omega
  have m2a : (E : Int) - (F : Int) ≤ (ring.length : Int) := by omega
  have hSE := hid hS
  clear hS
  have HRK : Hid (RK w4.heap.size none (w4.alloc (.cells #[.int .i64 (ring.length : Int), .int .i64 T, .int .i64 F, .int .i64 ((E : Int) - (F : Int)), .slice none 0 0] 113)) ring.length T F S []) := hid ⟨.slice none 0 0, rfl, by rw [show (E : Int) - (F : Int) = (S : Int) by have := hSE.out; omega]; exact box_at _ _, VRow.nil _, fun v hv => by cases hv⟩
  have HB4 : Hid (Below w.heap.size w (w4.alloc (.cells #[.int .i64 (ring.length : Int), .int .i64 T, .int .i64 F, .int .i64 ((E : Int) - (F : Int)), .slice none 0 0] 113))) := hid (HB1.out.next (HK4.out.next (below_alloc _ _)))
  have c4 := (HB4.out.cell (p := ⟨gb, off, none⟩) hg).trans c0
  have hg4 : gb < (w4.alloc (.cells #[.int .i64 (ring.length : Int), .int .i64 T, .int .i64 F, .int .i64 ((E : Int) - (F : Int)), .slice none 0 0] 113)).heap.size := Nat.lt_of_lt_of_le hg HB4.out.size
  have HHd := hid (fun w' (k : Below (w4.alloc (.cells #[.int .i64 (ring.length : Int), .int .i64 T, .int .i64 F, .int .i64 ((E : Int) - (F : Int)), .slice none 0 0] 113)).heap.size (w4.alloc (.cells #[.int .i64 (ring.length : Int), .int .i64 T, .int .i64 F, .int .i64 ((E : Int) - (F : Int)), .slice none 0 0] 113)) w') => refHeader_j w4.heap.size none ring.length T F S [] hT6 (by omega) w' (HRK.out.below k))
  have HNE : Hid (hdB T F (F + S) = b0) := by
    show _ = _
    rw [← hSE.out]; exact hxx.out
  rw [HNE.out] at HHd
  have HES : Hid (E - F = S) := by show _ = _; have := hSE.out; omega
  go_wp2
  go_region_held3 (fun w' => w'.cell? ⟨gb, off, none⟩ = some (.string b0)) (first | exact c4 | exact e5 | go_keep) (first
    | (go_at_call 48; refine (HHd.out _ (by exact ⟨rfl, rfl, rfl, Nat.le_refl _, fun _ _ => rfl⟩)).mono ?_; rintro e w5 ⟨rfl, hb5⟩; have HB5 : Hid (Below w.heap.size w w5) := hid (HB4.out.next ⟨hb5.os, hb5.tape, hb5.output, hb5.size, hb5.block⟩); have HRK5 : Hid (RK w4.heap.size none w5 ring.length T F S []) := hid (HRK.out.below ⟨hb5.os, hb5.tape, hb5.output, hb5.size, hb5.block⟩); have e5 : w5.cell? ⟨gb, off, none⟩ = some (.string b0) := (HB5.out.cell (p := ⟨gb, off, none⟩) hg).trans c0; clear hb5))
  have HB0 : Hid (w.heap.size ≤ w4.heap.size) := hid (HB1.out.next HK4.out).size
  have HROS : Hid (ROS w.heap.size w4.heap.size none w5 ring.length T F S [] []) := hid ⟨HRK5.out, rfl, fun i hi => by simp at hi, fun u hu => (by cases hu), HB0.out, fun x hx => by cases hx⟩
  obtain ⟨g, hgg⟩ : ∃ g, g = w4.heap.size := ⟨_, rfl⟩
  rw [← hgg] at HROS HB0 ⊢
  clear HRK5 HRK HHd e5 c4 hg4 d1 d2 d3 d4 d5 n1 n2 n3 n4 n5 m1 m2a d2a i1 hgg HK4 HB4
  go_wp2
  go_loopw [15] (fun av wr => ∃ (Ls : List (List Chg)) (us : List Value) (r : Option Nat), av = .int .i64 (used Ls) ∧ ROS w.heap.size g r wr ring.length T F S Ls us ∧ Ls.length ≤ S ∧ decs F R Ls ∧ Below w.heap.size w wr) (fun av _ => ring.length + 1 - (intOf av).toNat)
  case atStart => exact ⟨[], [], none, rfl, HROS.out, Nat.zero_le _, trivial, HB5.out⟩
  case round =>
    clear HROS HB5
    obtain ⟨Ls, us, r, rfl, hros, hLS, hdec, hBw⟩ := hrel
    have HR := hid hros
    have HBw := hid hBw
    have HDC := hid hdec
    have hul : used Ls ≤ ring.length := by have := hdec.used_le; rw [HRL.out] at this; exact this
    have hln := hros.ln
    obtain ⟨Lv, hLo, hRI, hVR, hSl⟩ := hros.rk
    obtain ⟨lo, lcap, rfl, hl1, hl2⟩ := hVR.len
    have HLO := hid hLo
    have HRI := hid hRI
    have HVR := hid hVR
    have HSL := hid hSl
    obtain ⟨q0, q1, q2, q3, q4⟩ := hRI.cells
    have hgl := hRI.lt
    unfold maxLen at hl2
    clear hros hBw hdec hLo hRI hVR hSl
    obtain ⟨k, hk⟩ : ∃ k, k = us.length := ⟨_, rfl⟩
    have HKU := hid hk
    rw [← hk] at hln hl1 q4
    have hk8 : k ≤ 255 := by omega
    have HLN := hid hln
    have hkS : k ≤ S := by omega
    clear hk hln hLS
    obtain ⟨u, hu⟩ : ∃ u, u = used Ls := ⟨_, rfl⟩
    have HU2 := hid hu
    rw [← hu] at hul ⊢
    clear hu
    by_cases hlt : k < S
    · have hdl : decide ((k : Int) < (S : Int)) = true := by simp; omega
      go_wp2
      go_quiet ((fail))
      go_wp2
      have HRW := hid (HR.out.keep (w' := wr.drewN nq) ⟨rfl, rfl, rfl, Nat.le_refl _, fun _ _ => rfl⟩)
      have HRIW : Hid (RI g (wr.drewN nq) ring.length T F S (.slice lo us.length lcap)) := HRI
      have HVRW : Hid (VRow (wr.drewN nq) (.slice lo us.length lcap) us) := HVR
      have HBW2 : Hid (Below w.heap.size w (wr.drewN nq)) := hid (HBw.out.dN _)
      obtain ⟨W, hW⟩ : ∃ W, W = wr.drewN nq := ⟨_, rfl⟩
      rw [← hW] at HRW HRIW HVRW HBW2 ⊢
      clear hW q0 q1 q2 q3 q4 hgl HBw HR HRI HVR hdl
      have hgW := HRIW.out.lt
      have hwW := HBW2.out.size
      go_loopw [16, 17] (fun sv iv wi => ∃ i : Nat, iv = .int .i64 i ∧ u ≤ i ∧ i ≤ ring.length ∧ SRow W.heap.size wi sv ((R.drop u).take (i - u)) ∧ Below W.heap.size W wi) (fun _ iv _ => ring.length - (intOf iv).toNat)
      case atStart => exact ⟨u, rfl, Nat.le_refl _, hul, by rw [Nat.sub_self, List.take_zero]; exact SRow.nil _ _, Below.refl _ _⟩
      case round =>
        rename World => wi
        obtain ⟨i, rfl, hui, hip, hrow, hBi⟩ := hrel
        have HRO := hid hrow
        have HBi := hid hBi
        have hszi := hBi.size
        have HII := hid (HRIW.out.below hBi)
        obtain ⟨so, sc, rfl, hs1, hs2⟩ := hrow.len
        have hrl : ((R.drop u).take (i - u)).length = i - u := by rw [List.length_take, List.length_drop, HRL.out]; omega
        rw [hrl] at HRO hs1 ⊢
        unfold maxLen at hs2
        clear hrow hBi
        obtain ⟨q0, q1, q2, q3, q4⟩ := HII.out.cells
        have hgi := HII.out.lt
        by_cases hlp : i < ring.length
        · have hd2 : decide ((i : Int) < (ring.length : Int)) = true := by simp; omega
          obtain ⟨m, hm⟩ : ∃ m, m = (T + i) % ring.length := ⟨_, rfl⟩
          have hml : m < ring.length := by rw [hm]; exact Nat.mod_lt _ (by omega)
          have hmi : ((T : Int) + (i : Int)) % (ring.length : Int) = (m : Int) := by rw [hm]; norm_cast
          have hmt : ((T : Int) + (i : Int)).tmod (ring.length : Int) = (m : Int) := by rw [Int.tmod_eq_emod_of_nonneg (by omega)]; exact hmi
          have HRI2 : Hid (R[i]? = ring[m]?) := by show _ = _; rw [HRG.out i hlp, ← hm]
          have HST : Hid ((R.drop u).take (i + 1 - u) = (R.drop u).take (i - u) ++ [ring[m]'hml]) := by
            show _ = _
            have e1 : i + 1 - u = (i - u) + 1 := by omega
            have hlen : i - u < (R.drop u).length := by rw [List.length_drop, HRL.out]; omega
            rw [e1, List.take_succ_eq_append_getElem hlen]
            congr 2
            have e2 : (R.drop u)[i - u]? = some (ring[m]'hml) := by
              rw [List.getElem?_drop, show u + (i - u) = i by omega, HRI2.out, List.getElem?_eq_getElem hml]
            rw [List.getElem?_eq_getElem hlen] at e2
            injection e2
          obtain ⟨gb', off', e1, hgl', c1⟩ := HCR.out (m + 1) (by simp; omega)
          rw [List.getElem_cons_succ] at c1
          injection e1 with e1
          injection e1 with e2 e3 _
          subst e2 e3
          replace c1 := ((HBW2.out.next HBi.out).cell (p := ⟨gb, off + (m + 1), none⟩) hgl').trans c1
          have hgi2 : gb < wi.heap.size := Nat.lt_of_lt_of_le hgl' (Nat.le_trans hwW hszi)
          obtain ⟨d, hd⟩ : ∃ d, d = ring[m]'hml := ⟨_, rfl⟩
          rw [← hd] at c1 HST
          clear hd hm HRI2
          have hP' : ((ring.length : Int) == 0) = false := beq_eq_false_iff_ne.2 (by omega)
          have hw1 : IntKind.i64.wrap ((T : Int) + (i : Int)) = (T : Int) + (i : Int) := by rw [IntKind.wrap_i64]; omega
          have hw2 : IntKind.i64.wrap ((m : Int) + 1) = (m : Int) + 1 := by rw [IntKind.wrap_i64]; omega
          go_wp2_with (first
            | (at_builtin; refine pushS (w0 := wi) rfl (.tmp 132) (.tmp 145) rfl W.heap.size wi.heap.size _ ((R.drop u).take (i - u)) d rfl rfl rfl (by exact HRO.out) (by rw [hrl]; omega) hszi ?_; intro v7 w7 hr7 hb7 _; rw [← HST.out] at hr7; have HR7 := hid hr7; have HB7 := hid (HBi.out.trans hb7); clear hr7 hb7))
          go_roundw
          case rel => exact ⟨i + 1, by go_num, by omega, by omega, HR7.out, HB7.out⟩
          case measure => simp [intOf]; omega
        · have hie : i = ring.length := by omega
          subst hie
          have hd2 : decide ((ring.length : Int) < (ring.length : Int)) = false := by simp
          have HSI : Hid (SLie wi (.slice so (ring.length - u) sc) (R.drop u)) := by
            have := HRO.out.lie
            rw [List.take_of_length_le (by rw [List.length_drop, HRL.out]; exact Nat.le_refl _)] at this
            exact this
          have HZ2 : Hid (∀ b ∈ R.drop u, b.size ≤ 150000000000000) := fun b hb => HZ.out b (List.mem_of_mem_drop hb)
          have HRS := hid (HRW.out.keep HBi.out)
          have HBA := hid (HBW2.out.next HBi.out)
          have hwi : w.heap.size ≤ wi.heap.size := HBA.out.size
          have HGR : Hid (some g ≠ (Value.slice lo us.length lcap).ownBlock) := by
            intro e
            exact (HRW.out.rk.lt.2 g (HLO.out.symm.trans e.symm)).2 rfl
          clear HRO
          by_cases hd : ∃ s L, decOk (R.drop u) s L
          · obtain ⟨s', L, hdc⟩ := hd
            have HY := hid (fun v w h => rdec_yes v (R.drop u) s' L HZ2.out hdc w h)
            have hlen := hdc.len
            have HDD := hid hdc
            have hL48 := hlen.2
            have hLR : u + (L.length + 1) ≤ ring.length := by have := hlen.1; rw [List.length_drop, HRL.out] at this; omega
            clear hdc hlen
            have HNx := hid (fun w h => refNext_j g r ring.length T F S us (by rw [← HKU.out]; omega) (by omega) w h)
            rw [← HKU.out] at HNx
            by_cases hsq : s' = F + k
            · have hsb : ((s' : Int) != (F : Int) + (k : Int)) = false := by simp; omega
              go_upto_region 24 with (first
                | (go_at_call 109; refine (HY.out _ _ HSI.out).mono ?_; rintro e w2' ⟨v', rfl, hc', hv', hb'⟩; have HC' := hid hc'; have HV' := hid hv'; have HB' := hid hb'; have HR2 := hid (HRS.out.keep hb'); obtain ⟨ya, yc, ey, _, _, _⟩ := hc'; subst ey; clear hv' hb')
                | (go_at_call 59; refine (HNx.out _ HR2.out.rk).mono ?_; rintro e w3' ⟨rfl, q, hw3⟩; have HW3 := hid hw3; clear hw3))
              have HR3 : Hid (ROS w.heap.size g r w3' ring.length T F S Ls us) := by
                rw [HW3.out]; exact HR2.out.keep ⟨rfl, rfl, rfl, Nat.le_refl _, fun _ _ => rfl⟩
              have HII3 : Hid (RI g w3' ring.length T F S (.slice lo us.length lcap)) := by
                rw [HW3.out]; exact (HII.out.below (HB'.out.dN _))
              have HVR3 : Hid (VRow w3' (.slice lo us.length lcap) us) := by
                rw [HW3.out]
                exact (HVRW.out.same fun x hx => ((HBi.out.next HB'.out).block x (HRW.out.rk.lt.2 x (HLO.out.symm.trans hx)).1))
              clear q0 q1 q2 q3 q4
              obtain ⟨q0, q1, q2, q3, q4⟩ := HII3.out.cells
              have hg3 := HII3.out.lt
              have hf3 := frees HII3.out
              go_wp2_with (first
                | (at_builtin; refine pushV (w0 := w3') rfl (.tmp 166) (.tmp 168) rfl w3'.heap.size _ us (.slice ya L.length yc) rfl rfl rfl rfl (by exact HVR3.out) (by rw [← HKU.out]; omega) ?_; intro v7 w7 hR7 hg7 hn7; have HR7 := hid hR7; have HG7 := hid hg7; have HN7 := hid hn7; obtain ⟨a7, c7, rfl, _, _⟩ := hR7.len; have HI7 : Hid (RI g w7 ring.length T F S (.slice lo us.length lcap)) := hid ((hg7.block g hg3 HGR.out).trans HII3.out); clear hR7 hg7 hn7 q0 q1 q2 q3 q4 hf3; obtain ⟨q0, q1, q2, q3, q4⟩ := HI7.out.cells; have hf7 := frees HI7.out; have hlt7 := HI7.out.lt))
              rw [List.length_append, List.length_singleton] at HR7 HN7
              have hgwi : g < wi.heap.size := HII.out.lt
              obtain ⟨p1, p2, p3⟩ := RK.push HLO.out HII3.out HVR3.out HSL.out ⟨ya, L.length, yc, rfl, hL48⟩ HR7.out HG7.out HN7.out
              have hw3s : w3'.heap.size = w2'.heap.size := by rw [HW3.out]; rfl
              obtain ⟨o1, o2⟩ := HR3.out.push (L := L) (by rw [HW3.out]; exact HC'.out) (by
                rcases HV'.out with hz | hx
                · exact .inl hz
                · refine .inr fun x e => ?_
                  have hx := hx x e
                  refine ⟨by omega, by omega, by omega, fun ee => ?_⟩
                  have := (HRS.out.rk.lt.2 x ee.symm).1
                  omega) p1 p2 p3
              have O1 := hid o1
              have O2 := hid o2
              clear p1 p2 p3 o1 o2
              go_roundw
              case rel =>
                refine ⟨Ls ++ [L], us ++ [.slice ya L.length yc], _, ?_, O1.out, ?_, HDC.out.snoc ?_, ?_⟩
                · rw [used_snoc, ← HU2.out]; congr 1; omega
                · have := HLN.out
                  simp
                  omega
                · rw [← HU2.out, ← HLN.out, ← hsq]; exact HDD.out
                · refine Below.trans (b := w3') ?_ O2.out
                  rw [HW3.out]; exact (HBA.out.next HB'.out).dN _
              case measure => simp [intOf]; omega
            · have hsb : ((s' : Int) != (F : Int) + (k : Int)) = true := by simp; omega
              go_wp2_with (first
                | (go_at_call 109; refine (HY.out _ _ HSI.out).mono ?_; rintro e w2' ⟨v', rfl, hc', hv', hb'⟩; have HB' := hid hb'; have HR2 := hid (HRS.out.keep hb'); clear hc' hv' hb')
                | (go_at_call 59; refine (HNx.out _ HR2.out.rk).mono ?_; rintro e w3' ⟨rfl, q, hw3⟩; have HW3 := hid hw3; clear hw3))
              go_ret2
              refine ⟨ROP.no HDC.out (by have := HLN.out; have := HES.out; omega) fun K hK => ?_, by rw [HW3.out]; exact (HBA.out.next HB'.out).dN _⟩
              rw [← HU2.out, ← HLN.out] at hK
              exact hsq (hK.only HDD.out).1
          · have HY := hid (fun v w h => rdec_no v (R.drop u) HZ2.out hd w h)
            have HNO := hid hd
            clear hd
            go_wp2_with (go_at_call 109; fail)
            refine (HY.out _ _ HSI.out).mono ?_
            rintro e w2' ⟨c, rfl, hc0, hb'⟩
            have HB' := hid hb'
            have hcb : (c != 0) = true := by simpa using hc0
            clear hb'
            go_wp2
            go_ret2
            exact ⟨ROP.no HDC.out (by have := HLN.out; have := HES.out; omega) fun K hK => HNO.out ⟨_, K, by rw [← HU2.out] at hK; exact hK⟩, HBA.out.next HB'.out⟩
    · have hdl : decide ((k : Int) < (S : Int)) = false := by simp; omega
      go_wp2
      go_quiet ((fail))
      go_wp2
      go_ret2
      refine ⟨⟨fun Ks hK hk => ?_, fun hno => absurd ⟨Ls, by have := HLN.out; have := HES.out; omega, HDC.out⟩ hno⟩, HBw.out.dN _⟩
      have e := hk.only HDC.out (by have := HLN.out; have := HES.out; omega)
      subst e
      refine ⟨g, r, us, rfl, ?_⟩
      have := HR.out.keep (w' := wr.drewN nq) ⟨rfl, rfl, rfl, Nat.le_refl _, fun _ _ => rfl⟩
      rw [HES.out]
      exact this
end Go.Proofs.YtopebghandojbaaGreat
