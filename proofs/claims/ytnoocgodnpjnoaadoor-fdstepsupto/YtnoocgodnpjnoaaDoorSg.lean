import Derived.Test.YtnoocgodnpjnoaaDoorSe
import Derived.Test.YtnoocgodnpjnoaaDoorRb
namespace Go.Proofs.YtnoocgodnpjnoaaDoor
open Go.RowKit

theorem Box.free {q : Nat} {w : World} {n : Opr} (h : Box q w n) (i : Nat) : w.frozen? ⟨q, i, none⟩ = false := by
  unfold Box at h
  simp [World.frozen?, h]
theorem Box.drew {q : Nat} {w : World} {x : Opr} (h : Box q w x) : Box q w.drew x := h
theorem Box.setAll {q : Nat} {w : World} {x : Opr} (h : Box q w x) (n1 n2 n3 : Int) (n4 n5 n6 : ByteArray) : Box q ((((((w.setCell ⟨q, 0, none⟩ (.int .i64 n1)).setCell ⟨q, 1, none⟩ (.int .i64 n2)).setCell ⟨q, 2, none⟩ (.int .i64 n3)).setCell ⟨q, 3, none⟩ (.string n4)).setCell ⟨q, 4, none⟩ (.string n5)).setCell ⟨q, 5, none⟩ (.string n6)) ⟨n1, n2, n3, n4, n5, n6⟩ := set_at (set_at (set_at (set_at (set_at (set_at h 0 _) 1 _) 2 _) 3 _) 4 _) 5 _
theorem below_setAll {B q : Nat} {w0 w : World} (h : Below B w0 w) (hq : B ≤ q) (n1 n2 n3 : Int) (n4 n5 n6 : ByteArray) : Below B w0 ((((((w.setCell ⟨q, 0, none⟩ (.int .i64 n1)).setCell ⟨q, 1, none⟩ (.int .i64 n2)).setCell ⟨q, 2, none⟩ (.int .i64 n3)).setCell ⟨q, 3, none⟩ (.string n4)).setCell ⟨q, 4, none⟩ (.string n5)).setCell ⟨q, 5, none⟩ (.string n6)) := (((((h.setCell hq _).setCell hq _).setCell hq _).setCell hq _).setCell hq _).setCell hq _
set_option maxRecDepth 100000 in
set_option maxHeartbeats 1000000 in
theorem op_no {base r : Nat} {w : World} {D : Nat → Dsc} (fd n : Int) (wr : Bool) (s : ByteArray) (h : RI base r w (fl D 16)) (ho : opn D fd = false) : Calls Tryd.prog 24 #[.pointer (some ⟨r, 0, none⟩), .int .i64 fd, .int .i64 n, .bool wr, .string s] w fun e w' => e = .returned (.tuple #[Opr.zero.v, .int .i64 311]) ∧ Below w.heap.size w w' := by
  have HB0 := hid (box_zero w)
  have HF := hid (find_ref fd (h.below (below_alloc w (.cells #[.int .i64 0, .int .i64 0, .int .i64 0, .string ⟨#[]⟩, .string ⟨#[]⟩, .string ⟨#[]⟩] 52))))
  unfold idx at HF
  rw [ho] at HF
  simp only [Bool.false_eq_true, if_false] at HF
  clear h ho
  go_enter Tryd.func24, Tryd.ntmps24
  go_wp2_with (first
    | (go_at_call 10; refine (HF.out).mono ?_; rintro e w2 ⟨rfl, b2⟩; have HB2 := hid (HB0.out.below b2 (by simp)); have HB := hid ((below_alloc w _).next b2); clear b2)
    | ((with_reducible refine at_store52 w.heap.size Opr.zero Opr.zero ?_ ?_ HB2.out ?_); rfl; rfl; intro wr hBr hkr))
  exact retO hBr rfl rfl rfl ⟨rfl, KP.new HB.out hkr (Nat.le_refl _)⟩
set_option maxRecDepth 100000 in
set_option maxHeartbeats 1000000 in
theorem op_next {base top r : Nat} {w : World} {D : Nat → Dsc} (k : Nat) (n : Int) (s : ByteArray) (h : RT base top r w (fl D 16)) (htop : top ≤ w.heap.size) (hk : k < 16) (ho : (D k).o = true) : Calls Tryd.prog 24 #[.pointer (some ⟨r, 0, none⟩), .int .i64 k, .int .i64 n, .bool false, .string s] w fun e w' => e = .returned (.tuple #[(nextO D k n).v, .int .i64 (nextE D k n)]) ∧ Below w.heap.size w w' := by
  have HB0 := hid (box_zero w)
  have h' := h.below (below_alloc w (.cells #[.int .i64 0, .int .i64 0, .int .i64 0, .string ⟨#[]⟩, .string ⟨#[]⟩, .string ⟨#[]⟩] 52))
  have HF := hid (find_ref k h'.ri)
  have HRL := hid h.ri.lt
  have HH := hid h'
  unfold idx at HF
  have HO := hid ho
  unfold nextO nextE
  rw [opn_nat hk, ho] at HF ⊢
  simp only [if_true, Int.toNat_natCast] at HF ⊢
  clear h h' ho
  cases hb : decide (0 ≤ n) && decide (n ≤ 1024) with
  | true =>
    simp at hb
    obtain ⟨h0, h1⟩ := hb
    simp only [if_true]
    go_enter Tryd.func24, Tryd.ntmps24
    go_wp2_with (first
      | (go_at_call 10; refine (HF.out).mono ?_; rintro e w2 ⟨rfl, b2⟩; have HB2 := hid (HB0.out.below b2 (by simp)); have HB := hid ((below_alloc w _).next b2); obtain ⟨x, nn, cap, c0, hnc, hcm, hcn, hbx, hxt, hxl, HR, HR1, c1, c2⟩ := (HH.out.below b2).at hk HO.out; clear b2 HR HR1; unfold maxLen at hcm; obtain ⟨ci, hci⟩ : ∃ c, c = cnt D k := ⟨_, rfl⟩; rw [← hci] at c1 c2 hcn; rw [← hci]; clear hci; obtain ⟨z0, z1, z2, z3, z4, z5⟩ := Box.cells (show Box w.heap.size w2 ⟨0, 0, 0, ByteArray.empty, ByteArray.empty, ByteArray.empty⟩ from HB2.out)))
    have f0 := HB2.out.free 0
    have f1 := HB2.out.free 1
    have f2 := HB2.out.free 2
    have f3 := HB2.out.free 3
    have f4 := HB2.out.free 4
    have f5 := HB2.out.free 5
    have hxw : x ≠ w.heap.size := by omega
    have hrw : r ≠ w.heap.size := by have := HRL.out; omega
    obtain ⟨pl, hpl⟩ : ∃ x, x = (D k).n := ⟨_, rfl⟩
    obtain ⟨pa, hpa⟩ : ∃ x, x = (D k).p := ⟨_, rfl⟩
    have HPL := hid hpl
    have HPA := hid hpa
    rw [← hpl] at c1
    rw [← hpa] at c2
    clear hpl hpa
    go_region
    go_wp2
    have hb := (HB2.out.setAll 5 pl n pa ByteArray.empty ByteArray.empty)
    have hl := below_setAll HB.out (Nat.le_refl _) 5 pl n pa ByteArray.empty ByteArray.empty
    refine retO (m := ⟨5, pl, n, pa, ByteArray.empty, ByteArray.empty⟩) hb.drew rfl rfl rfl ⟨by rw [HPL.out, HPA.out], hl.next (drewN_below _ 1)⟩
  | false =>
    simp only [Bool.false_eq_true, if_false, show ¬ (309 : Int) = 0 by decide]
    obtain ⟨ci, hci⟩ : ∃ c, c = cnt D k := ⟨_, rfl⟩
    rw [← hci] at HF
    clear hci
    by_cases h0 : n < 0
    · clear hb
      go_enter Tryd.func24, Tryd.ntmps24
      go_wp2_with (first
        | (go_at_call 10; refine (HF.out).mono ?_; rintro e w2 ⟨rfl, b2⟩; have HB2 := hid (HB0.out.below b2 (by simp)); have HB := hid ((below_alloc w _).next b2); clear b2)
        | ((with_reducible refine at_store52 w.heap.size Opr.zero Opr.zero ?_ ?_ HB2.out ?_); rfl; rfl; intro wr hBr hkr))
      exact retO hBr rfl rfl rfl ⟨rfl, KP.new HB.out hkr (Nat.le_refl _)⟩
    · have h1 : 1024 < n := by
        rw [decide_eq_true (by omega)] at hb
        simp at hb
        omega
      clear hb
      go_enter Tryd.func24, Tryd.ntmps24
      go_wp2_with (first
        | (go_at_call 10; refine (HF.out).mono ?_; rintro e w2 ⟨rfl, b2⟩; have HB2 := hid (HB0.out.below b2 (by simp)); have HB := hid ((below_alloc w _).next b2); clear b2)
        | ((with_reducible refine at_store52 w.heap.size Opr.zero Opr.zero ?_ ?_ HB2.out ?_); rfl; rfl; intro wr hBr hkr))
      exact retO hBr rfl rfl rfl ⟨rfl, KP.new HB.out hkr (Nat.le_refl _)⟩
set_option maxRecDepth 100000 in
set_option maxHeartbeats 1000000 in
theorem op_write {base top r : Nat} {w : World} {D : Nat → Dsc} (k : Nat) (s : ByteArray) (h : RT base top r w (fl D 16)) (htop : top ≤ w.heap.size) (hk : k < 16) (ho : (D k).o = true) : Calls Tryd.prog 24 #[.pointer (some ⟨r, 0, none⟩), .int .i64 k, .int .i64 0, .bool true, .string s] w fun e w' => e = .returned (.tuple #[(writO D k s).v, .int .i64 (writE D k s)]) ∧ Below w.heap.size w w' := by
  have HB0 := hid (box_zero w)
  have h' := h.below (below_alloc w (.cells #[.int .i64 0, .int .i64 0, .int .i64 0, .string ⟨#[]⟩, .string ⟨#[]⟩, .string ⟨#[]⟩] 52))
  have HF := hid (find_ref k h'.ri)
  have HRL := hid h.ri.lt
  have HH := hid h'
  unfold idx at HF
  have HO := hid ho
  unfold writO writE
  rw [opn_nat hk, ho] at HF ⊢
  simp only [if_true, Int.toNat_natCast] at HF ⊢
  clear h h' ho
  by_cases hb : s.size ≤ 1024
  · simp only [if_pos hb, if_true]
    go_enter Tryd.func24, Tryd.ntmps24
    go_wp2_with (first
      | (go_at_call 10; refine (HF.out).mono ?_; rintro e w2 ⟨rfl, b2⟩; have HB2 := hid (HB0.out.below b2 (by simp)); have HB := hid ((below_alloc w _).next b2); obtain ⟨x, nn, cap, c0, hnc, hcm, hcn, hbx, hxt, hxl, HR, HR1, c1, c2⟩ := (HH.out.below b2).at hk HO.out; clear b2 HR HR1; unfold maxLen at hcm; obtain ⟨ci, hci⟩ : ∃ c, c = cnt D k := ⟨_, rfl⟩; rw [← hci] at c1 c2 hcn; rw [← hci]; clear hci; obtain ⟨z0, z1, z2, z3, z4, z5⟩ := Box.cells (show Box w.heap.size w2 ⟨0, 0, 0, ByteArray.empty, ByteArray.empty, ByteArray.empty⟩ from HB2.out)))
    have f0 := HB2.out.free 0
    have f1 := HB2.out.free 1
    have f2 := HB2.out.free 2
    have f3 := HB2.out.free 3
    have f4 := HB2.out.free 4
    have f5 := HB2.out.free 5
    have hxw : x ≠ w.heap.size := by omega
    have hrw : r ≠ w.heap.size := by have := HRL.out; omega
    obtain ⟨pl, hpl⟩ : ∃ x, x = (D k).n := ⟨_, rfl⟩
    obtain ⟨pa, hpa⟩ : ∃ x, x = (D k).p := ⟨_, rfl⟩
    have HPL := hid hpl
    have HPA := hid hpa
    rw [← hpl] at c1
    rw [← hpa] at c2
    clear hpl hpa
    go_region
    go_wp2
    have hb := (HB2.out.setAll 3 pl 0 pa ByteArray.empty s)
    have hl := below_setAll HB.out (Nat.le_refl _) 3 pl 0 pa ByteArray.empty s
    refine retO (m := ⟨3, pl, 0, pa, ByteArray.empty, s⟩) hb.drew rfl rfl rfl ⟨by rw [HPL.out, HPA.out], hl.next (drewN_below _ 1)⟩
  · simp only [if_neg hb, show ¬ (309 : Int) = 0 by decide, if_false]
    obtain ⟨ci, hci⟩ : ∃ c, c = cnt D k := ⟨_, rfl⟩
    rw [← hci] at HF
    clear hci
    go_enter Tryd.func24, Tryd.ntmps24
    go_wp2_with (first
      | (go_at_call 10; refine (HF.out).mono ?_; rintro e w2 ⟨rfl, b2⟩; have HB2 := hid (HB0.out.below b2 (by simp)); have HB := hid ((below_alloc w _).next b2); clear b2)
      | ((with_reducible refine at_store52 w.heap.size Opr.zero Opr.zero ?_ ?_ HB2.out ?_); rfl; rfl; intro wr hBr hkr))
    exact retO hBr rfl rfl rfl ⟨rfl, KP.new HB.out hkr (Nat.le_refl _)⟩
end Go.Proofs.YtnoocgodnpjnoaaDoor
