import Derived.Test.YtnoocgodnpjnoaaDoorQb
import Derived.Test.YtnoocgodnpjnoaaDoorPc
namespace Go.Proofs.YtnoocgodnpjnoaaDoor
open Go.RowKit

/-- what a nil table answers -/
def nilE (e : Int) : Int := if e = 0 then 5 else e
theorem open_nil (p : ByteArray) (w : World) (hs : p.size ≤ 1048576) : Calls Tryd.prog 14 #[.pointer none, .string p] w fun e w' => e = .returned (.tuple #[.int .i64 0, .int .i64 (nilE (splE p.data.toList))]) ∧ Below w.heap.size w w' := by
  have HS := hid (split_any p w hs)
  clear hs
  obtain ⟨x, hx⟩ : ∃ x, x = splE p.data.toList := ⟨_, rfl⟩
  rw [← hx] at HS ⊢
  unfold nilE
  by_cases h0 : x = 0
  · rw [if_pos h0]
    subst h0
    clear hx
    go_enter Tryd.func14, Tryd.ntmps14
    go_wp2_with (first | (go_at_call 27; refine (HS.out).mono ?_; rintro e w1 ⟨v, rfl, hl, b1⟩; clear hl) | (go_at_call 28; refine (least_nil _).mono ?_; rintro e w2 ⟨rfl, hw2⟩; subst hw2))
    go_ret2
    exact ⟨rfl, b1⟩
  · rw [if_neg h0]
    have hne : (x == 0) = false := by rw [beq_eq_false_iff_ne]; exact h0
    clear hx
    go_enter Tryd.func14, Tryd.ntmps14
    go_wp2_with (first | (go_at_call 27; refine (HS.out).mono ?_; rintro e w1 ⟨v, rfl, hl, b1⟩; clear hl))
    go_ret2
    exact ⟨rfl, b1⟩
theorem close_nil (fd : Int) (w : World) : Calls Tryd.prog 16 #[.pointer none, .int .i64 fd] w fun e w' => e = .returned (.int .i64 311) ∧ w' = w := by
  go_enter Tryd.func16, Tryd.ntmps16
  go_wp2_with (first | (go_at_call 26; refine (find_nil _ _).mono ?_; rintro e w2 ⟨rfl, hw2⟩; subst hw2))
  go_ret
  exact ⟨rfl, rfl⟩
theorem seek_nil (fd n m : Int) (w : World) : Calls Tryd.prog 17 #[.pointer none, .int .i64 fd, .int .i64 n, .int .i64 m] w fun e w' => e = .returned (.tuple #[.int .i64 0, .int .i64 311]) ∧ w' = w := by
  go_enter Tryd.func17, Tryd.ntmps17
  go_wp2_with (first | (go_at_call 26; refine (find_nil _ _).mono ?_; rintro e w2 ⟨rfl, hw2⟩; subst hw2))
  go_ret2
  exact ⟨rfl, rfl⟩
theorem moved_nil (fd n : Int) (w : World) : Calls Tryd.prog 20 #[.pointer none, .int .i64 fd, .int .i64 n] w fun e w' => e = .returned (.int .i64 311) ∧ w' = w := by
  go_enter Tryd.func20, Tryd.ntmps20
  go_wp2_with (first | (go_at_call 26; refine (find_nil _ _).mono ?_; rintro e w2 ⟨rfl, hw2⟩; subst hw2))
  go_ret
  exact ⟨rfl, rfl⟩
theorem at_nil (fd : Int) (w : World) : Calls Tryd.prog 9 #[.pointer none, .int .i64 fd] w fun e w' => e = .returned (.tuple #[.string ⟨#[]⟩, .int .i64 0, .int .i64 311]) ∧ w' = w := by
  go_enter Tryd.func9, Tryd.ntmps9
  go_wp2_with (first | (go_at_call 26; refine (find_nil _ _).mono ?_; rintro e w2 ⟨rfl, hw2⟩; subst hw2))
  go_ret3
  exact ⟨rfl, rfl⟩
end Go.Proofs.YtnoocgodnpjnoaaDoor
