import Derived.Test.YtnoocgodnpjnoaaDoorQi
import Derived.Test.YtnoocgodnpjnoaaDoorQg
import Derived.Test.YtnoocgodnpjnoaaDoorQc
namespace Go.Proofs.YtnoocgodnpjnoaaDoor
open Go.RowKit

theorem next_nil (fd n : Int) (w : World) : Calls Tryd.prog 18 #[.pointer none, .int .i64 fd, .int .i64 n] w fun e w' => e = .returned (.tuple #[.agg #[.int .i64 0, .int .i64 0, .int .i64 0, .string ⟨#[]⟩, .string ⟨#[]⟩, .string ⟨#[]⟩], .int .i64 311]) ∧ Below w.heap.size w w' :=
  next_no fd n w (hid fun w' _ => find_nil fd w')
theorem write_nil (fd : Int) (d : ByteArray) (w : World) : Calls Tryd.prog 19 #[.pointer none, .int .i64 fd, .string d] w fun e w' => e = .returned (.tuple #[.agg #[.int .i64 0, .int .i64 0, .int .i64 0, .string ⟨#[]⟩, .string ⟨#[]⟩, .string ⟨#[]⟩], .int .i64 311]) ∧ Below w.heap.size w w' :=
  write_no fd d w (hid fun w' _ => find_nil fd w')
set_option maxRecDepth 100000 in
set_option maxHeartbeats 2000000 in
theorem nil_walk (p : ByteArray) (n : Int) (w : World) (hs : p.size ≤ 1048576) : Calls Tryd.prog 6 #[.string p, .int .i64 n] w fun e w' => e = .returned (.bool true) ∧ Below w.heap.size w w' := by
  have HO := hid (open_nil p w hs)
  have HR := hid (fun w' => rsplit_any p w' hs)
  clear hs
  obtain ⟨x, hx⟩ : ∃ x, x = splE p.data.toList := ⟨_, rfl⟩
  rw [← hx] at HO HR
  clear hx
  unfold nilE at HO
  by_cases h0 : x = 0
  · rw [if_pos h0] at HO
    subst h0
    go_enter Tryd.func6, Tryd.ntmps6
    go_wp2_with (first
      | (go_at_call 14; refine (HO.out).mono ?_; rintro e w1 ⟨rfl, b1⟩; have HB1 := hid b1; clear b1)
      | (go_at_call 15; refine (HR.out _).mono ?_; rintro e w2 ⟨v, rfl, hl, b2⟩; have HB2 := hid (HB1.out.next b2); clear b2 hl)
      | (go_at_call 17; refine (seek_nil _ _ _ _).mono ?_; rintro e w3 ⟨rfl, hw⟩; subst hw)
      | (go_at_call 18; refine (next_nil _ _ _).mono ?_; rintro e w4 ⟨rfl, b4⟩; have HB4 := hid ((HB2.out.next b4).next (below_alloc w4 (.cells #[.int .i64 0, .int .i64 0, .int .i64 0, .string ⟨#[]⟩, .string ⟨#[]⟩, .string ⟨#[]⟩] 52))); clear b4)
      | (go_at_call 19; refine (write_nil _ _ _).mono ?_; rintro e w5 ⟨rfl, b5⟩; have HB5 := hid ((HB4.out.next b5).next (below_alloc w5 (.cells #[.int .i64 0, .int .i64 0, .int .i64 0, .string ⟨#[]⟩, .string ⟨#[]⟩, .string ⟨#[]⟩] 52))); clear b5)
      | (go_at_call 9; refine (at_nil _ _).mono ?_; rintro e w6 ⟨rfl, hw⟩; subst hw)
      | (go_at_call 16; refine (close_nil _ _).mono ?_; rintro e w7 ⟨rfl, hw⟩; subst hw)
      | (go_at_call 20; refine (moved_nil _ _ _).mono ?_; rintro e w8 ⟨rfl, hw⟩; subst hw)
      | (go_at_call 12; refine (list_nil _).mono ?_; rintro e w9 ⟨lx, lc, rfl, b9⟩; have HB9 := hid (HB5.out.next b9); clear b9)
      | (go_at_call 13; refine (speaks_any _).mono ?_; rintro e w10 ⟨rfl, b10⟩))
    go_ret
    exact ⟨rfl, HB9.out.next b10⟩
  · rw [if_neg h0] at HO
    have hne : (x == 0) = false := by rw [beq_eq_false_iff_ne]; exact h0
    go_enter Tryd.func6, Tryd.ntmps6
    go_wp2_with (first
      | (go_at_call 14; refine (HO.out).mono ?_; rintro e w1 ⟨rfl, b1⟩; have HB1 := hid b1; clear b1)
      | (go_at_call 15; refine (HR.out _).mono ?_; rintro e w2 ⟨v, rfl, hl, b2⟩; have HB2 := hid (HB1.out.next b2); clear b2 hl)
      | (go_at_call 17; refine (seek_nil _ _ _ _).mono ?_; rintro e w3 ⟨rfl, hw⟩; subst hw)
      | (go_at_call 18; refine (next_nil _ _ _).mono ?_; rintro e w4 ⟨rfl, b4⟩; have HB4 := hid ((HB2.out.next b4).next (below_alloc w4 (.cells #[.int .i64 0, .int .i64 0, .int .i64 0, .string ⟨#[]⟩, .string ⟨#[]⟩, .string ⟨#[]⟩] 52))); clear b4)
      | (go_at_call 19; refine (write_nil _ _ _).mono ?_; rintro e w5 ⟨rfl, b5⟩; have HB5 := hid ((HB4.out.next b5).next (below_alloc w5 (.cells #[.int .i64 0, .int .i64 0, .int .i64 0, .string ⟨#[]⟩, .string ⟨#[]⟩, .string ⟨#[]⟩] 52))); clear b5)
      | (go_at_call 9; refine (at_nil _ _).mono ?_; rintro e w6 ⟨rfl, hw⟩; subst hw)
      | (go_at_call 16; refine (close_nil _ _).mono ?_; rintro e w7 ⟨rfl, hw⟩; subst hw)
      | (go_at_call 20; refine (moved_nil _ _ _).mono ?_; rintro e w8 ⟨rfl, hw⟩; subst hw)
      | (go_at_call 12; refine (list_nil _).mono ?_; rintro e w9 ⟨lx, lc, rfl, b9⟩; have HB9 := hid (HB5.out.next b9); clear b9)
      | (go_at_call 13; refine (speaks_any _).mono ?_; rintro e w10 ⟨rfl, b10⟩))
    go_ret
    exact ⟨rfl, HB9.out.next b10⟩
end Go.Proofs.YtnoocgodnpjnoaaDoor
