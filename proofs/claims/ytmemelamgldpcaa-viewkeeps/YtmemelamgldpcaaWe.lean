import Derived.Test.YtmemelamgldpcaaVf
import Derived.Test.YtmemelamgldpcaaWd
import Derived.Laws.StructEq
namespace Go.Proofs.Ytmemelamgldpcaa
open Go.RowKit

theorem enc_both (x y : Int) : ∃ A f, (∀ W, Calls Try.prog 19 #[.agg #[.int .i64 x, .int .i64 y]] W fun e w' => e = .returned (.tuple #[.string A, .int .i64 f]) ∧ Below W.heap.size W w') ∧ (∀ W, Calls Try.prog 20 #[.int .i64 x, .int .i64 y] W fun e w' => e = .returned (.tuple #[.string A, .int .i64 f]) ∧ Below W.heap.size W w') ∧
    ((f = 1) ∨ (f = 0 ∧ ∀ W, Calls Try.prog 21 #[.string A] W fun e w' => e = .returned (.tuple #[.agg #[.int .i64 x, .int .i64 y], .int .i64 0]) ∧ Below W.heap.size W w')) := by
  cases h : Cd.rgt x y with
  | false => exact ⟨_, _, Cd.encode_no h, Cd.rencode_no h, .inl rfl⟩
  | true =>
    have hx := (Cd.rgt_iff x y).1 h
    obtain ⟨a, rfl⟩ := Int.eq_ofNat_of_zero_le hx.1.1
    obtain ⟨b, rfl⟩ := Int.eq_ofNat_of_zero_le hx.2.1
    refine ⟨_, _, Cd.encode_ok h, Cd.rencode_ok h, .inr ⟨rfl, fun W => Cd.decode_ok _ a b ?_ ⟨Cd.un_block _ (by rw [Cd.vL_len]; decide), h⟩ W⟩⟩
    rw [Cd.st_size, Cd.sealL_len, Cd.bodyL_len _ (by rw [Cd.vL_len]; decide)]
    decide
theorem dec_both (b : ByteArray) (hb : b.size ≤ 150000000000000) : ∃ X Y g, (∀ W, Calls Try.prog 21 #[.string b] W fun e w' => e = .returned (.tuple #[.agg #[.int .i64 X, .int .i64 Y], .int .i64 g]) ∧ Below W.heap.size W w') ∧ (∀ W, Calls Try.prog 22 #[.string b] W fun e w' => e = .returned (.tuple #[.int .i64 X, .int .i64 Y, .int .i64 g]) ∧ Below W.heap.size W w') := by
  by_cases h : ∃ x y, Cd.okV b x y
  · obtain ⟨x, y, h⟩ := h
    exact ⟨_, _, _, Cd.decode_ok b x y hb h, Cd.rdecode_ok b x y hb h⟩
  · exact ⟨_, _, _, Cd.decode_bad b hb h, Cd.rdecode_bad b hb h⟩
set_option maxRecDepth 100000 in
set_option maxHeartbeats 2000000 in
theorem keeps_walk (x y : Int) (b : ByteArray) (hb : b.size ≤ 150000000000000) (w : World) : Calls Try.prog 5 #[.agg #[.int .i64 x, .int .i64 y], .string b] w fun e w' => e = .returned (.bool true) ∧ Below w.heap.size w w' := by
  obtain ⟨A, f, H1, H2, H3⟩ := enc_both x y
  obtain ⟨X, Y, g, D1, D2⟩ := dec_both b hb
  replace H1 := hid H1
  replace H2 := hid H2
  replace D1 := hid D1
  replace D2 := hid D2
  rcases H3 with rfl | ⟨rfl, H3⟩
  · go_enter Try.func5, Try.ntmps5
    go_wp2_with (first
      | (go_at_call 19; refine (H1.out _).mono ?_; rintro e w1 ⟨rfl, hb1⟩; have HV := hid (Cd.var_a hb1); have HB := hid (Cd.nxt (Cd.below_alloc _ _) hb1); obtain ⟨q0, q1⟩ := Cd.two_cells HV.out; clear hb1)
      | (go_at_call 20; refine (H2.out _).mono ?_; rintro e w2 ⟨rfl, hb2⟩; have HB2 := hid (Cd.nxt HB.out hb2); clear hb2 q0 q1)
      | (go_at_call 21; refine (D1.out _).mono ?_; rintro e w3 ⟨rfl, hb3⟩; have HB3 := hid (Cd.nxt (Cd.nxt HB2.out hb3) (Cd.below_alloc w3 (.cells #[.int .i64 X, .int .i64 Y] 44))); clear hb3)
      | (go_at_call 22; refine (D2.out _).mono ?_; rintro e w4 ⟨rfl, hb4⟩; have HV4 := hid (Cd.var_a hb4); obtain ⟨r0, r1⟩ := Cd.two_cells HV4.out; have HB4 := hid (Cd.nxt HB3.out hb4); clear hb4)
      | (go_at_call 14; refine (speaks_any _).mono ?_; rintro e w6 ⟨rfl, hb6⟩))
    go_ret
    exact ⟨rfl, Cd.nxt HB4.out hb6⟩
  · replace H3 := hid H3
    go_enter Try.func5, Try.ntmps5
    go_wp2_with (first
      | (go_at_call 19; refine (H1.out _).mono ?_; rintro e w1 ⟨rfl, hb1⟩; have HV := hid (Cd.var_a hb1); have HB := hid (Cd.nxt (Cd.below_alloc _ _) hb1); obtain ⟨q0, q1⟩ := Cd.two_cells HV.out; clear hb1)
      | (go_at_call 20; refine (H2.out _).mono ?_; rintro e w2 ⟨rfl, hb2⟩; have HB2 := hid (Cd.nxt HB.out hb2); have HV2 := hid ((hb2.block _ (lt_of_block HV.out)).trans HV.out); clear hb2 q0 q1)
      | (go_at_call 21; have hk := HB4; clear hk; refine (H3.out _).mono ?_; rintro e w5 ⟨rfl, hb5⟩; have HV5 := hid ((hb5.block _ (lt_of_block HV4b.out)).trans HV4b.out); have HB5 := hid (Cd.nxt (Cd.nxt HB4.out hb5) (Cd.below_alloc w5 (.cells #[.int .i64 x, .int .i64 y] 44))); have HV6 := hid ((Below.heap_alloc w5 (.cells #[.int .i64 x, .int .i64 y] 44) _ (lt_of_block HV5.out)).trans HV5.out); obtain ⟨q0, q1⟩ := Cd.two_cells HV5.out; have hl5 := lt_of_block HV5.out; clear hb5)
      | (go_at_call 21; refine (D1.out _).mono ?_; rintro e w3 ⟨rfl, hb3⟩; have HB3 := hid (Cd.nxt (Cd.nxt HB2.out hb3) (Cd.below_alloc w3 (.cells #[.int .i64 X, .int .i64 Y] 44))); have HV3 := hid ((hb3.block _ (lt_of_block HV2.out)).trans HV2.out); clear hb3)
      | (go_at_call 22; refine (D2.out _).mono ?_; rintro e w4 ⟨rfl, hb4⟩; have HV4 := hid (Cd.var_a hb4); have HV4b := hid ((hb4.block _ (by show _ < (w3.heap.push _).size; have := lt_of_block HV3.out; simp; omega)).trans ((Below.heap_alloc w3 _ _ (lt_of_block HV3.out)).trans HV3.out)); obtain ⟨r0, r1⟩ := Cd.two_cells HV4.out; have HB4 := hid (Cd.nxt HB3.out hb4); clear hb4)
      | (go_at_call 14; refine (speaks_any _).mono ?_; rintro e w6 ⟨rfl, hb6⟩))
    go_ret
    exact ⟨rfl, Cd.nxt HB5.out hb6⟩
end Go.Proofs.Ytmemelamgldpcaa
