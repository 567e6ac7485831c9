import Derived.Test.YtecfibabeimjoaaBy
namespace Go.Proofs.Ytecfibabeimjoaa
open Go.RowKit Go.Maps Go.Sort Go.Shelf

set_option maxRecDepth 100000 in
theorem at_nil (i : Int) (w : World) : Calls Try.prog 25 #[.pointer none, .int .i64 i] w fun e w' => e = .returned (.tuple #[.agg #[.int .i64 0, .int .i64 0, .string ByteArray.empty], .int .i64 6]) ∧ Below w.heap.size w w' := by
  by_cases h0 : i < 0
  · go_enter Try.func25, Try.ntmps25
    go_wp2_with (first | (go_at_call 20; refine (list_nil _).mono ?_; rintro e w1 ⟨rfl, hw⟩; have hw := hw.symm; subst hw))
    refine bodyPost_ret (v := .tuple #[.agg #[.int .i64 0, .int .i64 0, .string ByteArray.empty], .int .i64 6]) (by simp [results, Try.results25, go_sem]; rfl) rfl ⟨rfl, below_alloc _ _⟩
  · have h1 : 0 ≤ i := by omega
    go_enter Try.func25, Try.ntmps25
    go_wp2_with (first | (go_at_call 20; refine (list_nil _).mono ?_; rintro e w1 ⟨rfl, hw⟩; have hw := hw.symm; subst hw))
    refine bodyPost_ret (v := .tuple #[.agg #[.int .i64 0, .int .i64 0, .string ByteArray.empty], .int .i64 6]) (by simp [results, Try.results25, go_sem]; rfl) rfl ⟨rfl, below_alloc _ _⟩
set_option maxRecDepth 100000 in
theorem deliver_nil (i : Int) (w : World) : Calls Try.prog 11 #[.pointer none, .int .i64 i] w fun e w' => e = .returned (.tuple #[.agg #[.int .i64 0, .int .i64 0, .string ByteArray.empty], .int .i64 6]) ∧ Below w.heap.size w w' := by
  go_enter Try.func11, Try.ntmps11
  go_wp2_with (first
    | (go_at_call 25; refine (at_nil i _).mono ?_; rintro e w1 ⟨rfl, hb1⟩; have HV := hid (var_a hb1); have HB := hid ((below_alloc _ _).next hb1); obtain ⟨q0, q1, q2⟩ := three_cells HV.out; have hfr := frees HV.out; have hl := lt_of_block HV.out; clear hb1))
  refine bodyPost_ret (v := .tuple #[.agg #[.int .i64 0, .int .i64 0, .string ByteArray.empty], .int .i64 6]) (by simp [results, Try.results11, go_sem, q0, q1, q2, hl]; rfl) rfl ⟨rfl, ?_⟩
  exact (HB.out.trans ((set3 (fp := [w.heap.size]) (by simp) _ _ _).below (HB.out.size) (by simp))).next (below_alloc _ _)
theorem drop_nil (i : Int) (w : World) : Calls Try.prog 14 #[.pointer none, .int .i64 i] w fun e w' => e = .returned (.int .i64 6) ∧ Below w.heap.size w w' :=
  (drop_any _ _ 6 0 0 ByteArray.empty (fun w' => Below w.heap.size w w') w (deliver_nil i w)).mono fun _ _ ⟨w1, he, hb, hw⟩ => ⟨he, by rw [hw]; exact hb.next (below_alloc _ _)⟩
theorem twice_nil (i : Int) (w : World) : Calls Try.prog 15 #[.pointer none, .int .i64 i] w fun e w' => e = .returned (.int .i64 6) ∧ Below w.heap.size w w' := by
  go_enter Try.func15, Try.ntmps15
  go_wp2_with (first
    | (go_at_call 25; refine (at_nil i _).mono ?_; rintro e w1 ⟨rfl, hb1⟩))
  go_ret
  exact ⟨rfl, hb1.next (below_alloc _ _)⟩
theorem put_nil (m : Msg) (w : World) : Calls Try.prog 17 #[.pointer none, valM m] w fun e w' => e = .returned (.int .i64 1) ∧ Below w.heap.size w w' := by
  unfold valM
  go_enter Try.func17, Try.ntmps17
  go_wp2_with (first
    | (go_at_call 29; refine (has_nil _ _).mono ?_; rintro e w1 ⟨rfl, hw⟩; have hw := hw.symm; subst hw))
  go_ret
  exact ⟨rfl, below_alloc _ _⟩
set_option maxRecDepth 100000 in
set_option maxHeartbeats 1000000 in
theorem nil_walk (m : Msg) (i : Int) (w : World) : Calls Try.prog 6 #[valM m, .int .i64 i] w fun e w' => e = .returned (.bool true) ∧ Below w.heap.size w w' := by
  have HP := hid (put_nil m)
  have HC := hid (count_nil m)
  unfold valM at HP HC ⊢
  go_enter Try.func6, Try.ntmps6
  go_wp2_with (first
    | (go_at_call 11; refine (deliver_nil i _).mono ?_; rintro e w1 ⟨rfl, hb1⟩; have HV1 := hid (var_a hb1); have HB1 := hid ((below_alloc _ _).next hb1); obtain ⟨q0, q1, q2⟩ := three_cells HV1.out; have hl1 := lt_of_block HV1.out; clear hb1)
    | (go_at_call 17; refine (HP.out _).mono ?_; rintro e w2 ⟨rfl, hb2⟩; have HV2 := hid (past hb2 HV1.out); have HB2 := hid (HB1.out.next ((below_alloc _ _).next hb2)); clear hb2 q0 q1 q2 hl1)
    | (go_at_call 14; refine (drop_nil i _).mono ?_; rintro e w3 ⟨rfl, hb3⟩; have HV3 := hid ((hb3.block _ (lt_of_block HV2.out)).trans HV2.out); have HB3 := hid (HB2.out.next hb3); clear hb3)
    | (go_at_call 15; refine (twice_nil i _).mono ?_; rintro e w4 ⟨rfl, hb4⟩; have HV4 := hid ((hb4.block _ (lt_of_block HV3.out)).trans HV3.out); have HB4 := hid (HB3.out.next hb4); clear hb4; obtain ⟨q0, q1, q2⟩ := three_cells HV4.out)
    | (go_at_call 20; refine (list_nil _).mono ?_; rintro e w5 ⟨rfl, hw⟩; have hw := hw.symm; subst hw)
    | (go_at_call 22; refine (HC.out _).mono ?_; rintro e w6 ⟨rfl, hb6⟩; have HB6 := hid (HB4.out.next hb6); clear hb6)
    | (go_at_call 24; refine (len_nil _).mono ?_; rintro e w7 ⟨rfl, hw⟩; have hw := hw.symm; subst hw)
    | (go_at_call 10; refine (speaks_any _).mono ?_; rintro e w8 ⟨rfl, hb8⟩))
  go_ret
  exact ⟨rfl, HB6.out.next hb8⟩
end Go.Proofs.Ytecfibabeimjoaa
