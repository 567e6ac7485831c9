import Derived.Test.YtfjoajcfpldniaaCr
namespace Go.Proofs.Ytfjoajcfpldniaa
open Go.RowKit Go.Maps

theorem look_nil (k : Int) (w : World) : Calls Try.prog 19 #[.pointer none, .int .i64 k] w fun e w' => e = .returned (.tuple #[.string ⟨#[]⟩, .bool false]) ∧ w' = w := by
  go_enter Try.func19, Try.ntmps19
  go_wp2_with (first | (go_at_call 37; refine (find_nil _ _).mono ?_; rintro e w1 ⟨rfl, hw⟩; have hw := hw.symm; subst hw))
  go_ret2
  exact ⟨rfl, rfl⟩
theorem store_nil {k : Int} {d : ByteArray} (hb : isB k d = true) (w : World) : Calls Try.prog 20 #[.pointer none, .int .i64 k, .string d] w fun e w' => e = .returned (.int .i64 6) ∧ w' = w := by
  have HB := hid (isBlock_any k d w)
  rw [hb] at HB
  go_enter Try.func20, Try.ntmps20
  go_wp2_with (first
    | (go_at_call 36; refine (HB.out).mono ?_; rintro e w1 ⟨rfl, hw⟩; have hw := hw.symm; subst hw)
    | (go_at_call 37; refine (find_nil _ _).mono ?_; rintro e w1 ⟨rfl, hw⟩; have hw := hw.symm; subst hw))
  go_ret
  exact ⟨rfl, rfl⟩
theorem pin_nil (k : Int) (w : World) : Calls Try.prog 21 #[.pointer none, .int .i64 k] w fun e w' => e = .returned (.int .i64 6) ∧ w' = w := by
  go_enter Try.func21, Try.ntmps21
  go_wp2_with (first | (go_at_call 37; refine (find_nil _ _).mono ?_; rintro e w1 ⟨rfl, hw⟩; have hw := hw.symm; subst hw))
  go_ret
  exact ⟨rfl, rfl⟩
theorem unpin_nil (k : Int) (w : World) : Calls Try.prog 22 #[.pointer none, .int .i64 k] w fun e w' => e = .returned (.int .i64 6) ∧ w' = w := by
  go_enter Try.func22, Try.ntmps22
  go_wp2_with (first | (go_at_call 37; refine (find_nil _ _).mono ?_; rintro e w1 ⟨rfl, hw⟩; have hw := hw.symm; subst hw))
  go_ret
  exact ⟨rfl, rfl⟩
set_option maxRecDepth 100000 in
set_option maxHeartbeats 4000000 in
theorem nil_walk (k : Int) (d : ByteArray) (w : World) : Calls Try.prog 6 #[.int .i64 k, .string d] w fun e w' => e = .returned (.bool true) ∧ Below w.heap.size w w' := by
  have HSp := hid (fun w => speaks_any w)
  have HHe := hid (fun w => held_nil w)
  have HDi := hid (fun w => Dirty_nil w)
  have HTa := hid (fun w => Take_nil w)
  by_cases h : 0 ≤ k ∧ k < 1024 ∧ d.size = 128
  · have hb : isB k d = true := decide_eq_true h
    obtain ⟨h0, h1, h2⟩ := h
    have HL := hid (fun w => load_nil hb w)
    have HS := hid (fun w => store_nil hb w)
    have h3 : ((d.size : Int) != 128) = false := by rw [h2]; rfl
    have H2 := hid h2
    clear hb h2
    go_enter Try.func6, Try.ntmps6
    go_wp2_with (first
      | (go_at_call 18; refine (HL.out _).mono ?_; rintro e w1 ⟨rfl, hw⟩; have hw := hw.symm; subst hw)
      | (go_at_call 19; refine (look_nil _ _).mono ?_; rintro e w1 ⟨rfl, hw⟩; have hw := hw.symm; subst hw)
      | (go_at_call 20; refine (HS.out _).mono ?_; rintro e w1 ⟨rfl, hw⟩; have hw := hw.symm; subst hw)
      | (go_at_call 21; refine (pin_nil _ _).mono ?_; rintro e w1 ⟨rfl, hw⟩; have hw := hw.symm; subst hw)
      | (go_at_call 22; refine (unpin_nil _ _).mono ?_; rintro e w1 ⟨rfl, hw⟩; have hw := hw.symm; subst hw)
      | (go_at_call 13; refine (HHe.out _).mono ?_; rintro e w2 ⟨rfl, hb2⟩)
      | (go_at_call 16; refine (HDi.out _).mono ?_; rintro e w3 ⟨rfl, hb3⟩)
      | (go_at_call 23; refine (HTa.out _).mono ?_; rintro e w4 ⟨rfl, hb4⟩)
      | (go_at_call 10; refine (HSp.out _).mono ?_; rintro e w5 ⟨rfl, hb5⟩))
    go_ret
    exact ⟨rfl, ((hb2.next hb3).next hb4).next hb5⟩
  · have hb : isB k d = false := decide_eq_false h
    have HL := hid (fun w => load_arg hb (.pointer none) w)
    have HS := hid (fun w => store_arg hb (.pointer none) w)
    have hcs : k < 0 ∨ (0 ≤ k ∧ 1023 < k) ∨ (0 ≤ k ∧ k ≤ 1023 ∧ ((d.size : Int) != 128) = true) := by
      by_cases h1 : k < 0
      · exact .inl h1
      · by_cases h2 : 1023 < k
        · exact .inr (.inl ⟨by omega, h2⟩)
        · refine .inr (.inr ⟨by omega, by omega, ?_⟩)
          simp
          intro e
          exact h ⟨by omega, by omega, by omega⟩
    clear hb h
    rcases hcs with h1 | ⟨h1, h2⟩ | ⟨h1, h2, h3⟩
    all_goals
      go_enter Try.func6, Try.ntmps6
      go_wp2_with (first
        | (go_at_call 18; refine (HL.out _).mono ?_; rintro e w1 ⟨rfl, hw⟩; have hw := hw.symm; subst hw)
        | (go_at_call 19; refine (look_nil _ _).mono ?_; rintro e w1 ⟨rfl, hw⟩; have hw := hw.symm; subst hw)
        | (go_at_call 20; refine (HS.out _).mono ?_; rintro e w1 ⟨rfl, hw⟩; have hw := hw.symm; subst hw)
        | (go_at_call 21; refine (pin_nil _ _).mono ?_; rintro e w1 ⟨rfl, hw⟩; have hw := hw.symm; subst hw)
        | (go_at_call 22; refine (unpin_nil _ _).mono ?_; rintro e w1 ⟨rfl, hw⟩; have hw := hw.symm; subst hw)
        | (go_at_call 13; refine (HHe.out _).mono ?_; rintro e w2 ⟨rfl, hb2⟩)
        | (go_at_call 16; refine (HDi.out _).mono ?_; rintro e w3 ⟨rfl, hb3⟩)
        | (go_at_call 23; refine (HTa.out _).mono ?_; rintro e w4 ⟨rfl, hb4⟩)
        | (go_at_call 10; refine (HSp.out _).mono ?_; rintro e w5 ⟨rfl, hb5⟩))
      go_ret
      exact ⟨rfl, ((hb2.next hb3).next hb4).next hb5⟩
end Go.Proofs.Ytfjoajcfpldniaa
