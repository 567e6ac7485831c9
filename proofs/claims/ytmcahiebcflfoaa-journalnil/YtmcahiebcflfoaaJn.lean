import Derived.Test.YtmcahiebcflfoaaJs
import Derived.Test.YtmcahiebcflfoaaTb
namespace Go.Proofs.Ytmcahiebcflfoaa
open Go.RowKit Go.Maps
set_option maxRecDepth 100000 in
theorem nil_walk (v : Value) (l : List Chg) (k : Int) (w : World) (h : CLie w v l) : Calls Try.prog 7 #[v, .int .i64 k] w fun e w' => e = .returned (.bool true) ∧ Below w.heap.size w w' := by
  have HA := hid (append_nil v l w h)
  have HR := hid (fun w h => right_any v l w h)
  have HL := hid h
  have HD := hid (fun w => done_nil k w)
  have HS := hid (fun w => seal_nil w)
  have HSp := hid (fun w => speaks_any w)
  clear h
  obtain ⟨z, hz⟩ : ∃ z : Int, z = if k = 0 then 0 else 1 := ⟨_, rfl⟩
  rw [← hz] at HD
  have hzk : (z == 0) = (k == 0) := by
    rw [hz]
    by_cases h0 : k = 0
    · simp [h0]
    · simp [h0]
  clear hz
  obtain ⟨b, hb⟩ : ∃ b, b = right l := ⟨_, rfl⟩
  rw [← hb] at HA HR
  clear hb
  cases b
  all_goals
    simp only [Bool.false_eq_true, if_true, if_false] at HA
    go_enter Try.func7, Try.ntmps7
    go_wp2_with (first
      | (go_at_call 12; refine (HA.out).mono ?_; rintro e w1 ⟨⟨v1, rfl⟩, hb1⟩; have HB1 := hid hb1; clear hb1)
      | (go_at_call 15; refine (HD.out _).mono ?_; rintro e w2 ⟨rfl, hb2⟩; have HB2 := hid ((HB1.out.next hb2).next (below_alloc w2 (.cells #[.int .i64 0, .string ⟨#[]⟩] 42))); have hV2 := box_at w2 (.cells #[.int .i64 0, .string ⟨#[]⟩] 42); have HV2 := hid hV2; clear hb2 hV2)
      | (go_at_call 19; refine (count_nil _).mono ?_; rintro e wq ⟨rfl, hw⟩; have hw := hw.symm; subst hw)
      | (go_at_call 30; refine (HR.out _ (by exact HL.out.below HB2.out)).mono ?_; rintro e w3 ⟨rfl, hb3⟩; have HB3 := hid (HB2.out.next hb3); have HV3 := hid ((hb3.block _ (lt_of_block HV2.out)).trans HV2.out); obtain ⟨c0, c1⟩ := two_cells HV3.out; have hl3 := lt_of_block HV3.out; clear hb3)
      | (go_at_call 20; refine (header_nil _).mono ?_; rintro e wq ⟨rfl, hw⟩; have hw := hw.symm; subst hw)
      | (go_at_call 22; refine (free_nil _).mono ?_; rintro e wq ⟨rfl, hw⟩; have hw := hw.symm; subst hw)
      | (go_at_call 24; refine (next_nil _).mono ?_; rintro e wq ⟨rfl, hw⟩; have hw := hw.symm; subst hw)
      | (go_at_call 17; refine (HS.out _).mono ?_; rintro e w4 ⟨rfl, hb4⟩; have HB4 := hid (HB3.out.next hb4); clear hb4)
      | (go_at_call 11; refine (HSp.out _).mono ?_; rintro e w5 ⟨rfl, hb5⟩; have HB5 := hid (HB4.out.next hb5); clear hb5))
    go_ret
    exact ⟨rfl, HB5.out⟩
end Go.Proofs.Ytmcahiebcflfoaa
