import Derived.Test.YtnoocgodnpjnoaaDoorQh
namespace Go.Proofs.YtnoocgodnpjnoaaDoor
open Go.RowKit

def sA : ByteArray := ⟨#[47, 97]⟩
def dA (n : Int) : Dsc := ⟨true, sA, n⟩
theorem sp_open {g : Nat} {w : World} (h : TI g w D0) : Calls Tryd.prog 14 #[.pointer (some ⟨g, 0, none⟩), .string ⟨#[47, 97]⟩] w fun e w' => e = .returned (.tuple #[.int .i64 0, .int .i64 0]) ∧ TI g w' (upd D0 0 (dA 0)) ∧ KP g w w' := open_ok ⟨#[47, 97]⟩ 0 h (by decide) splE_a rfl
theorem upd_upd (D : Nat → Dsc) (i : Nat) (x y : Dsc) : upd (upd D i x) i y = upd D i y := by
  funext j
  unfold upd
  split <;> rfl
theorem sp_moved {g : Nat} {w : World} (h : TI g w (upd D0 0 (dA 0))) : Calls Tryd.prog 20 #[.pointer (some ⟨g, 0, none⟩), .int .i64 0, .int .i64 5] w fun e w' => e = .returned (.int .i64 0) ∧ TI g w' (upd D0 0 (dA 5)) ∧ KP g w w' := by
  have := moved_yes 0 5 h (by decide) rfl ⟨by decide, by decide⟩ ⟨by decide, by decide⟩
  rw [upd_upd] at this
  exact this
theorem sp_next {g : Nat} {w : World} (h : TI g w (upd D0 0 (dA 5))) : Calls Tryd.prog 18 #[.pointer (some ⟨g, 0, none⟩), .int .i64 0, .int .i64 3] w fun e w' => e = .returned (.tuple #[.agg #[.int .i64 5, .int .i64 5, .int .i64 3, .string ⟨#[47, 97]⟩, .string ⟨#[]⟩, .string ⟨#[]⟩], .int .i64 0]) ∧ Below w.heap.size w w' := next_yes 0 3 h (by decide) rfl (by decide) (by decide)
theorem sp_seek {g : Nat} {w : World} (h : TI g w (upd D0 0 (dA 5))) : Calls Tryd.prog 17 #[.pointer (some ⟨g, 0, none⟩), .int .i64 0, .int .i64 2, .int .i64 (-1)] w fun e w' => e = .returned (.tuple #[.int .i64 1, .int .i64 0]) ∧ TI g w' (upd D0 0 (dA 1)) ∧ KP g w w' := by
  have := seek_yes 0 2 (-1) h (by decide) rfl ⟨by decide, by decide⟩ ⟨by decide, by decide⟩
  rw [upd_upd] at this
  exact this
theorem sp_close {g : Nat} {w : World} (h : TI g w (upd D0 0 (dA 1))) : Calls Tryd.prog 16 #[.pointer (some ⟨g, 0, none⟩), .int .i64 0] w fun e w' => e = .returned (.int .i64 0) ∧ TI g w' (upd D0 0 Dsc.zero) ∧ KP g w w' := by
  have := close_yes 0 h (by decide) rfl
  rw [upd_upd] at this
  exact this
theorem sp_none {g : Nat} {w : World} (h : TI g w (upd D0 0 Dsc.zero)) : Calls Tryd.prog 18 #[.pointer (some ⟨g, 0, none⟩), .int .i64 0, .int .i64 3] w fun e w' => e = .returned (.tuple #[.agg #[.int .i64 0, .int .i64 0, .int .i64 0, .string ⟨#[]⟩, .string ⟨#[]⟩, .string ⟨#[]⟩], .int .i64 311]) ∧ Below w.heap.size w w' :=
  next_no 0 3 w (hid fun _ k => find_no 0 (h.below k) rfl)
theorem KP.to {w a b : World} {g : Nat} (h : Below w.heap.size w a) (k : KP g a b) (hg : w.heap.size ≤ g) : Below w.heap.size w b := KP.new h k hg
set_option maxRecDepth 100000 in
set_option maxHeartbeats 2000000 in
theorem speaks_any (w : World) : Calls Tryd.prog 13 #[] w fun e w' => e = .returned (.bool true) ∧ Below w.heap.size w w' := by
  have hq : ∀ w, (Op.equalIn 10000 52 (.agg #[.int .i64 5, .int .i64 5, .int .i64 3, .string ⟨#[47, 97]⟩, .string ⟨#[]⟩, .string ⟨#[]⟩]) (.agg #[.int .i64 5, .int .i64 5, .int .i64 3, .string ⟨#[47, 97]⟩, .string ⟨#[]⟩, .string ⟨#[]⟩])).run Tryd.prog w = .ok true w := fun w => (eqO ⟨5, 5, 3, ⟨#[47, 97]⟩, ⟨#[]⟩, ⟨#[]⟩⟩ ⟨5, 5, 3, ⟨#[47, 97]⟩, ⟨#[]⟩, ⟨#[]⟩⟩ w).trans (by rw [decide_eq_true rfl])
  go_enter Tryd.func13, Tryd.ntmps13
  go_wp2_with (first
    | (go_at_call 7; refine (fnew_any _).mono ?_; rintro e w1 ⟨rfl, t1, b1⟩; have HT1 := hid t1; have HB1 := hid b1; clear t1 b1)
    | (go_at_call 14; refine (sp_open HT1.out).mono ?_; rintro e w2 ⟨rfl, t2, k2⟩; have HT2 := hid t2; have HB2 := hid (KP.new HB1.out k2 (Nat.le_refl _)); clear t2 k2)
    | (go_at_call 20; refine (sp_moved HT2.out).mono ?_; rintro e w3 ⟨rfl, t3, k3⟩; have HT3 := hid t3; have HB3 := hid (KP.new HB2.out k3 (Nat.le_refl _)); clear t3 k3)
    | (go_at_call 18; refine (sp_next HT3.out).mono ?_; rintro e w4 ⟨rfl, b4⟩; have HT4 := hid ((HT3.out.below b4).below (below_alloc w4 (.cells #[.int .i64 5, .int .i64 5, .int .i64 3, .string ⟨#[47, 97]⟩, .string ⟨#[]⟩, .string ⟨#[]⟩] 52))); have HB4 := hid ((HB3.out.next b4).next (below_alloc w4 (.cells #[.int .i64 5, .int .i64 5, .int .i64 3, .string ⟨#[47, 97]⟩, .string ⟨#[]⟩, .string ⟨#[]⟩] 52))); have HX4 : Hid (Box w4.heap.size (w4.alloc (.cells #[.int .i64 5, .int .i64 5, .int .i64 3, .string ⟨#[47, 97]⟩, .string ⟨#[]⟩, .string ⟨#[]⟩] 52)) ⟨5, 5, 3, ⟨#[47, 97]⟩, ⟨#[]⟩, ⟨#[]⟩⟩) := hid (box_at _ _); have HG : Hid (w.heap.size < w4.heap.size) := hid (HT3.out.below b4).lt; clear b4)
    | (go_at_call 17; refine (sp_seek HT4.out).mono ?_; rintro e w5 ⟨rfl, t5, k5⟩; have HT5 := hid t5; have HB5 := hid (KP.new HB4.out k5 (Nat.le_refl _)); have HX5 := hid (HX4.out.kept k5 (Nat.ne_of_gt HG.out)); clear t5 k5)
    | (go_at_call 16; refine (sp_close HT5.out).mono ?_; rintro e w6 ⟨rfl, t6, k6⟩; have HT6 := hid t6; have HB6 := hid (KP.new HB5.out k6 (Nat.le_refl _)); have HX6 := hid (HX5.out.kept k6 (Nat.ne_of_gt HG.out)); clear t6 k6)
    | (go_at_call 18; refine (sp_none HT6.out).mono ?_; rintro e w7 ⟨rfl, b7⟩; have HB7 := hid (HB6.out.next b7); have HX7 := hid (HX6.out.below b7 HX6.out.lt); clear b7; obtain ⟨x0, x1, x2, x3, x4, x5⟩ := HX7.out.cells; have hlt7 := HX7.out.lt))
  go_ret
  exact ⟨rfl, HB7.out.next (below_alloc _ _)⟩
end Go.Proofs.YtnoocgodnpjnoaaDoor
