import Derived.Test.YtbcnnolidhggnaaSp
import Derived.Test.YtbcnnolidhggnaaSh
namespace Go.Proofs.Ytbcnnolidhggnaa
open Go.RowKit

theorem on {w w2 : World} {o : Obj} {v : Nat} (h : Below w.heap.size w w2) (hv : w.heap[v]? = some o) : w2.heap[v]? = some o := (h.block _ (lt_of_block hv)).trans hv
set_option maxRecDepth 100000 in
set_option maxHeartbeats 1000000 in
theorem tells_bad (B J I : Int) (h : ¬ okS B J I) (w : World) : Calls Try.prog 3 #[.agg #[.int .i64 B, .int .i64 J, .int .i64 I]] w fun e w' => e = .returned (.bool true) ∧ Below w.heap.size w w' := by
  have HO := hid (fun w => of_bad B J I h w)
  have HR := hid (fun w => right_bad B J I h w)
  have HC := hid (fun w => check_bad B J I h w)
  clear h
  go_enter Try.func3, Try.ntmps3
  go_wp2_with (first
    | (go_at_call 6; refine (HO.out _).mono ?_; rintro e w1 ⟨rfl, hb1⟩; have HV1 := hid (var_a hb1); have HB1 := hid ((below_alloc _ _).next hb1); obtain ⟨q0, q1, q2⟩ := three_cells HV1.out; have hl1 := lt_of_block HV1.out; clear hb1)
    | (go_at_call 7; refine (HR.out _).mono ?_; rintro e w2 ⟨rfl, hb2⟩; have HV2 := hid (past hb2 HV1.out); have HG2 := hid (var_a hb2); have HB2 := hid (HB1.out.next ((below_alloc _ _).next hb2)); clear hb2 q0 q1 q2 hl1; obtain ⟨q0, q1, q2⟩ := three_cells HV2.out; obtain ⟨r0, r1, r2, r3, r4⟩ := five_cells HG2.out)
    | (go_at_call 8; refine (HC.out _).mono ?_; rintro e w3 ⟨rfl, hb3⟩; have HB3 := hid (HB2.out.next hb3); clear hb3)
    | (go_at_call 9; refine (speaks_any _).mono ?_; rintro e w4 ⟨rfl, hb4⟩))
  go_ret
  exact ⟨rfl, HB3.out.next hb4⟩
set_option maxRecDepth 100000 in
set_option maxHeartbeats 1000000 in
theorem tells_ok (B J I : Int) (h : okS B J I) (w : World) : Calls Try.prog 3 #[.agg #[.int .i64 B, .int .i64 J, .int .i64 I]] w fun e w' => e = .returned (.bool true) ∧ Below w.heap.size w w' := by
  have HO := hid (fun w => of_ok B J I h w)
  have HR := hid (fun w => right_ok B J I h w)
  have HC := hid (fun w => check_ok B J I h w)
  have HD := hid (fun w => data_ok B J I h w)
  unfold regS at HO
  obtain ⟨⟨⟨h1, h2⟩, ⟨h3, h4⟩, h5, h6⟩, h7⟩ := h
  obtain ⟨D, hD⟩ : ∃ D, D = 2 + J + (I + 3) / 4 := ⟨_, rfl⟩
  rw [← hD] at HO HD h7
  have hD0 : 0 ≤ D := by omega
  have hD1 : D ≤ 1024 := by omega
  clear hD h5 h6 h7
  go_enter Try.func3, Try.ntmps3
  go_wp2_with (first
    | (go_at_call 6; refine (HO.out _).mono ?_; rintro e w1 ⟨rfl, hb1⟩; have HV1 := hid (var_a hb1); have HB1 := hid ((below_alloc _ _).next hb1); obtain ⟨q0, q1, q2⟩ := three_cells HV1.out; have hl1 := lt_of_block HV1.out; clear hb1)
    | (go_at_call 7; refine (HR.out _).mono ?_; rintro e w2 ⟨rfl, hb2⟩; have HV2 := hid (past hb2 HV1.out); have HG2 := hid (var_a hb2); have HB2 := hid (HB1.out.next ((below_alloc _ _).next hb2)); clear hb2 q0 q1 q2 hl1; obtain ⟨q0, q1, q2⟩ := three_cells HV2.out; obtain ⟨r0, r1, r2, r3, r4⟩ := five_cells HG2.out)
    | (go_at_call 10; refine (HD.out _).mono ?_; rintro e w3 ⟨rfl, hb3⟩; have HV3 := hid (on hb3 HV2.out); have HG3 := hid (on hb3 HG2.out); have HB3 := hid (HB2.out.next hb3); clear hb3 q0 q1 q2 r0 r1 r2 r3 r4; obtain ⟨q0, q1, q2⟩ := three_cells HV3.out; obtain ⟨r0, r1, r2, r3, r4⟩ := five_cells HG3.out)
    | (go_at_call 8; refine (HC.out _).mono ?_; rintro e w4 ⟨rfl, hb4⟩; have HV4 := hid (on hb4 HV3.out); have HG4 := hid (on hb4 HG3.out); have HB4 := hid (HB3.out.next hb4); clear hb4 q0 q1 q2 r0 r1 r2 r3 r4; obtain ⟨q0, q1, q2⟩ := three_cells HV4.out; obtain ⟨r0, r1, r2, r3, r4⟩ := five_cells HG4.out)
    | (go_at_call 9; refine (speaks_any _).mono ?_; rintro e w5 ⟨rfl, hb5⟩))
  go_ret
  exact ⟨rfl, HB4.out.next hb5⟩
theorem tells_walk (B J I : Int) (w : World) : Calls Try.prog 3 #[.agg #[.int .i64 B, .int .i64 J, .int .i64 I]] w fun e w' => e = .returned (.bool true) ∧ Below w.heap.size w w' := by
  by_cases h : okS B J I
  · exact tells_ok B J I h w
  · exact tells_bad B J I h w
/-- a shape that is one has its numbers not below nought -/
theorem okS_nat {B J I : Int} (h : okS B J I) : ∃ b j i : Nat, B = b ∧ J = j ∧ I = i ∧ okS (b : Int) j i := by
  obtain ⟨⟨⟨h1, h2⟩, ⟨h3, h4⟩, h5, h6⟩, h7⟩ := id h
  obtain ⟨b, rfl⟩ := Int.eq_ofNat_of_zero_le (show 0 ≤ B by omega)
  obtain ⟨j, rfl⟩ := Int.eq_ofNat_of_zero_le (show 0 ≤ J by omega)
  obtain ⟨i, rfl⟩ := Int.eq_ofNat_of_zero_le (show 0 ≤ I by omega)
  exact ⟨b, j, i, rfl, rfl, rfl, h⟩
/-- what a block says: both readers -/
theorem both_read (b : ByteArray) (hb : b.size ≤ 150000000000000) : ∃ (x y z e : Int), (0 ≤ e ∧ e ≤ 60) ∧ (∀ w, Calls Try.prog 13 #[.string b] w fun r w' => r = .returned (.tuple #[.agg #[.int .i64 x, .int .i64 y, .int .i64 z], .int .i64 e]) ∧ Below w.heap.size w w') ∧
    (∀ w, Calls Try.prog 14 #[.string b] w fun r w' => r = .returned (.tuple #[.agg #[.int .i64 x, .int .i64 y, .int .i64 z], .int .i64 e]) ∧ Below w.heap.size w w') := by
  by_cases h : ∃ x y z, okR b x y z
  · obtain ⟨x, y, z, h⟩ := h
    exact ⟨x, y, z, 0, by decide, fun w => read_ok b x y z hb h w, fun w => refRead_ok b x y z hb h w⟩
  · exact ⟨0, 0, 0, 60, by decide, fun w => read_bad b hb h w, fun w => refRead_bad b hb h w⟩
theorem both_super (B J I : Int) : ∃ (s : ByteArray) (e : Int), (0 ≤ e ∧ e ≤ 60) ∧ (∀ w, Calls Try.prog 11 #[.agg #[.int .i64 B, .int .i64 J, .int .i64 I]] w fun r w' => r = .returned (.tuple #[.string s, .int .i64 e]) ∧ Below w.heap.size w w') ∧
    (∀ w, Calls Try.prog 12 #[.agg #[.int .i64 B, .int .i64 J, .int .i64 I]] w fun r w' => r = .returned (.tuple #[.string s, .int .i64 e]) ∧ Below w.heap.size w w') := by
  by_cases h : okS B J I
  · obtain ⟨b, j, i, rfl, rfl, rfl, h⟩ := okS_nat h
    exact ⟨_, 0, by decide, fun w => super_ok b j i h w, fun w => refSuper_ok b j i h w⟩
  · exact ⟨_, 60, by decide, fun w => super_bad B J I h w, fun w => refSuper_bad B J I h w⟩
set_option maxRecDepth 100000 in
set_option maxHeartbeats 1000000 in
theorem blocks_walk (B J I : Int) (b : ByteArray) (hb : b.size ≤ 150000000000000) (w : World) : Calls Try.prog 4 #[.agg #[.int .i64 B, .int .i64 J, .int .i64 I], .string b] w fun e w' => e = .returned (.bool true) ∧ Below w.heap.size w w' := by
  obtain ⟨s, e1, he1, k1, k2⟩ := both_super B J I
  obtain ⟨x, y, z, e2, he2, k3, k4⟩ := both_read b hb
  have H1 := hid k1
  have H2 := hid k2
  have H3 := hid k3
  have H4 := hid k4
  clear k1 k2 k3 k4 hb
  go_enter Try.func4, Try.ntmps4
  go_wp2_with (first
    | (go_at_call 11; refine (H1.out _).mono ?_; rintro e w1 ⟨rfl, hb1⟩; have HV1 := hid (var_a hb1); have HB1 := hid ((below_alloc _ _).next hb1); obtain ⟨q0, q1, q2⟩ := three_cells HV1.out; clear hb1)
    | (go_at_call 12; refine (H2.out _).mono ?_; rintro e w2 ⟨rfl, hb2⟩; have HB2 := hid (HB1.out.next hb2); clear hb2 q0 q1 q2)
    | (go_at_call 13; refine (H3.out _).mono ?_; rintro e w3 ⟨rfl, hb3⟩; have HB3 := hid (HB2.out.next hb3); clear hb3)
    | (go_at_call 14; refine (H4.out _).mono ?_; rintro e w4 ⟨rfl, hb4⟩; have HG4 := hid (var_a hb4); have HB4 := hid (HB3.out.next ((below_alloc _ _).next hb4)); obtain ⟨q0, q1, q2⟩ := three_cells HG4.out; have hl4 := lt_of_block HG4.out; clear hb4)
    | (go_at_call 9; refine (speaks_any _).mono ?_; rintro e w5 ⟨rfl, hb5⟩))
  go_ret
  exact ⟨rfl, HB4.out.next ((below_alloc _ _).next hb5)⟩
set_option maxRecDepth 100000 in
set_option maxHeartbeats 1000000 in
theorem back_bad (B J I : Int) (h : ¬ okS B J I) (w : World) : Calls Try.prog 5 #[.agg #[.int .i64 B, .int .i64 J, .int .i64 I]] w fun e w' => e = .returned (.bool true) ∧ Below w.heap.size w w' := by
  have HS := hid (fun w => super_bad B J I h w)
  clear h
  go_enter Try.func5, Try.ntmps5
  go_wp2_with (first
    | (go_at_call 11; refine (HS.out _).mono ?_; rintro e w1 ⟨rfl, hb1⟩)
    | (go_at_call 9; refine (speaks_any _).mono ?_; rintro e w5 ⟨rfl, hb5⟩))
  go_ret
  exact ⟨rfl, ((below_alloc _ _).next hb1).next hb5⟩
set_option maxRecDepth 100000 in
set_option maxHeartbeats 2000000 in
theorem back_ok (b j i : Nat) (h : okS b j i) (w : World) : Calls Try.prog 5 #[.agg #[.int .i64 b, .int .i64 j, .int .i64 i]] w fun e w' => e = .returned (.bool true) ∧ Below w.heap.size w w' := by
  have HS := hid (fun w => super_ok b j i h w)
  have HR := hid (fun w => read_ok (superS b j i) b j i (by rw [superS_size]; decide) (okR_super _ _ _ h) w)
  have HO := hid (fun w => of_ok b j i h w)
  unfold regS at HO
  obtain ⟨s, hs⟩ : ∃ s, s = superS b j i := ⟨_, rfl⟩
  rw [← hs] at HS HR
  clear hs
  obtain ⟨⟨⟨h1, h2⟩, ⟨h3, h4⟩, h5, h6⟩, h7⟩ := h
  obtain ⟨D, hD⟩ : ∃ D : Int, D = 2 + j + (i + 3) / 4 := ⟨_, rfl⟩
  rw [← hD] at HO h7
  have hD0 : 2 + (j : Int) < D := by omega
  have hD1 : D ≤ 1024 := by omega
  have hD2 : (i : Int) ≤ 4 * (D - (2 + j)) := by omega
  have hD3 : 4 * (D - (2 + (j : Int)) - 1) < i := by omega
  clear hD
  go_enter Try.func5, Try.ntmps5
  go_wp2_with (first
    | (go_at_call 11; refine (HS.out _).mono ?_; rintro e w1 ⟨rfl, hb1⟩; have HV1 := hid (var_a hb1); have HB1 := hid ((below_alloc _ _).next hb1); obtain ⟨q0, q1, q2⟩ := three_cells HV1.out; have hl1 := lt_of_block HV1.out; clear hb1)
    | (go_at_call 13; refine (HR.out _).mono ?_; rintro e w2 ⟨rfl, hb2⟩; have HV2 := hid (on hb2 HV1.out); have HB2 := hid (HB1.out.next hb2); clear hb2 q0 q1 q2 hl1; obtain ⟨q0, q1, q2⟩ := three_cells HV2.out; have hl2 := lt_of_block HV2.out)
    | (go_at_call 6; refine (HO.out _).mono ?_; rintro e w3 ⟨rfl, hb3⟩; have HV3 := hid (past hb3 HV2.out); have HG3 := hid (var_a hb3); have HB3 := hid (HB2.out.next ((below_alloc _ _).next hb3)); clear hb3 q0 q1 q2 hl2; obtain ⟨q0, q1, q2⟩ := three_cells HV3.out; obtain ⟨r0, r1, r2⟩ := three_cells HG3.out; have hl3 := lt_of_block HV3.out; have hl4 := lt_of_block HG3.out)
    | (go_at_call 9; refine (speaks_any _).mono ?_; rintro e w5 ⟨rfl, hb5⟩))
  · exfalso
    rename_i hh
    rcases hh with hh | hh
    · omega
    · rw [show D + ((b : Int) - D) = b by omega] at hh
      simp at hh
  · go_ret
    exact ⟨rfl, HB3.out.next ((below_alloc _ _).next hb5)⟩
theorem back_walk (B J I : Int) (w : World) : Calls Try.prog 5 #[.agg #[.int .i64 B, .int .i64 J, .int .i64 I]] w fun e w' => e = .returned (.bool true) ∧ Below w.heap.size w w' := by
  by_cases h : okS B J I
  · obtain ⟨b, j, i, rfl, rfl, rfl, h⟩ := okS_nat h
    exact back_ok b j i h w
  · exact back_bad B J I h w
end Go.Proofs.Ytbcnnolidhggnaa
