import Derived.Test.YtnoocgodnpjnoaaDoorQd
import Derived.Test.YtnoocgodnpjnoaaDoorPc
namespace Go.Proofs.YtnoocgodnpjnoaaDoor
open Go.RowKit

theorem open_err {p : Value} (s : ByteArray) (w : World) (hs : s.size ≤ 1048576) (he : splE s.data.toList ≠ 0) : Calls Tryd.prog 14 #[p, .string s] w fun e w' => e = .returned (.tuple #[.int .i64 0, .int .i64 (splE s.data.toList)]) ∧ Below w.heap.size w w' := by
  have HS := hid (split_any s w hs)
  clear hs
  obtain ⟨x, hx⟩ : ∃ x, x = splE s.data.toList := ⟨_, rfl⟩
  rw [← hx] at HS he ⊢
  have hne : (x == 0) = false := by rw [beq_eq_false_iff_ne]; exact he
  clear hx
  go_enter Tryd.func14, Tryd.ntmps14
  go_wp2_with (first | (go_at_call 27; refine (HS.out).mono ?_; rintro e w1 ⟨v, rfl, hl, b1⟩; clear hl))
  go_ret2
  exact ⟨rfl, b1⟩
theorem open_full {g : Nat} {w : World} {D : Nat → Dsc} (s : ByteArray) (h : TI g w D) (hs : s.size ≤ 1048576) (he : splE s.data.toList = 0) (hf : lf D 16 = none) : Calls Tryd.prog 14 #[.pointer (some ⟨g, 0, none⟩), .string s] w fun e w' => e = .returned (.tuple #[.int .i64 0, .int .i64 5]) ∧ Below w.heap.size w w' := by
  have HS := hid (split_any s w hs)
  rw [he] at HS
  have HL := hid (fun w' (k : Below w.heap.size w w') => least_go (h.below k) 0 false (.inl ⟨hf, rfl, rfl⟩))
  clear hs he h hf
  go_enter Tryd.func14, Tryd.ntmps14
  go_wp2_with (first
    | (go_at_call 27; refine (HS.out).mono ?_; rintro e w1 ⟨v, rfl, hl, b1⟩; clear hl; have HB1 := hid b1; clear b1)
    | (go_at_call 28; refine (HL.out _ HB1.out).mono ?_; rintro e w2 ⟨rfl, hw2⟩; subst hw2))
  go_ret2
  exact ⟨rfl, HB1.out⟩
theorem open_ok {g : Nat} {w : World} {D : Nat → Dsc} (s : ByteArray) (k : Nat) (h : TI g w D) (hs : s.size ≤ 1048576) (he : splE s.data.toList = 0) (hf : lf D 16 = some k) : Calls Tryd.prog 14 #[.pointer (some ⟨g, 0, none⟩), .string s] w fun e w' => e = .returned (.tuple #[.int .i64 k, .int .i64 0]) ∧ TI g w' (upd D k ⟨true, s, 0⟩) ∧ KP g w w' := by
  have HS := hid (split_any s w hs)
  rw [he] at HS
  have hk : k < 16 := (lf_some hf).1
  have HL := hid (fun w' (b : Below w.heap.size w w') => least_go (h.below b) (k : Int) true (.inr ⟨k, hf, rfl, rfl⟩))
  have HH := hid h
  clear hs he h hf
  go_enter Tryd.func14, Tryd.ntmps14
  go_wp2_with (first
    | (go_at_call 27; refine (HS.out).mono ?_; rintro e w1 ⟨v, rfl, hl, b1⟩; clear hl; have HB1 := hid b1; clear b1; obtain ⟨c0, c1, c2⟩ := (HH.out.below HB1.out).cells k hk; have f0 := (HH.out.below HB1.out).free (k * 3); have f1 := (HH.out.below HB1.out).free (k * 3 + 1); have f2 := (HH.out.below HB1.out).free (k * 3 + 2))
    | (go_at_call 28; refine (HL.out _ HB1.out).mono ?_; rintro e w2 ⟨rfl, hw2⟩; subst hw2))
  go_ret2
  exact ⟨rfl, (HH.out.below HB1.out).put k hk ⟨true, s, 0⟩, (KP.of_below HB1.out).trans ((((KP.refl g _).set _ _).set _ _).set _ _)⟩
end Go.Proofs.YtnoocgodnpjnoaaDoor
