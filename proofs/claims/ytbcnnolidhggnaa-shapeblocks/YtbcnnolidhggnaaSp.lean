import Derived.Test.YtbcnnolidhggnaaSf
namespace Go.Proofs.Ytbcnnolidhggnaa
open Go.RowKit

theorem past {w w2 : World} {o x : Obj} {v : Nat} (h : Below (w.alloc x).heap.size (w.alloc x) w2) (hv : w.heap[v]? = some o) : w2.heap[v]? = some o :=
  ((h.block _ (by show _ < (w.heap.push x).size; have := lt_of_block hv; simp; omega))).trans ((Below.heap_alloc w x _ (lt_of_block hv)).trans hv)
theorem okR_super (x y z : Nat) (h : okS x y z) : okR (superS x y z) x y z := ⟨by rw [superS, un_block _ (by rw [superL_len]; decide)], h⟩
theorem superS_size (x y z : Nat) : (superS x y z).size = 128 := by rw [superS, st_size, sealL_len, bodyL_len _ (by rw [superL_len]; decide)]
theorem ok_speaks : okS 64 16 10 := by unfold okS inS; decide
theorem bad_zero : ¬ okS 0 0 0 := by unfold okS inS; decide
set_option maxRecDepth 100000 in
set_option maxHeartbeats 1000000 in
theorem speaks_any (w : World) : Calls Try.prog 9 #[] w fun e w' => e = .returned (.bool true) ∧ Below w.heap.size w w' := by
  have HO := hid (fun w => of_ok 64 16 10 ok_speaks w)
  have HS := hid (fun w => super_ok 64 16 10 ok_speaks w)
  have HR := hid (fun w => read_ok (superS 64 16 10) 64 16 10 (by rw [superS_size]; decide) (okR_super _ _ _ ok_speaks) w)
  have HC := hid (fun w => check_bad 0 0 0 bad_zero w)
  unfold regS at HO
  obtain ⟨s, hs⟩ : ∃ s, s = superS 64 16 10 := ⟨_, rfl⟩
  rw [← hs] at HS HR
  clear hs
  go_enter Try.func9, Try.ntmps9
  go_wp2_with (first
    | (go_at_call 6; refine (HO.out _).mono ?_; rintro e w1 ⟨rfl, hb1⟩; have HV1 := hid (var_a hb1); have HB1 := hid ((below_alloc _ _).next hb1); obtain ⟨q0, q1, q2⟩ := three_cells (var_a hb1); have hl1 := lt_of_block HV1.out; clear hb1)
    | (go_at_call 11; refine (HS.out _).mono ?_; rintro e w2 ⟨rfl, hb2⟩; have HV2 := hid (past hb2 HV1.out); have HG2 := hid (var_a hb2); have HB2 := hid (HB1.out.next ((below_alloc _ _).next hb2)); clear hb2 q0 q1 q2 hl1)
    | (go_at_call 13; refine (HR.out _).mono ?_; rintro e w3 ⟨rfl, hb3⟩; have HV3 := hid ((hb3.block _ (lt_of_block HV2.out)).trans HV2.out); have HG3 := hid ((hb3.block _ (lt_of_block HG2.out)).trans HG2.out); have HB3 := hid (HB2.out.next hb3); obtain ⟨q0, q1, q2⟩ := three_cells HV3.out; obtain ⟨r0, r1, r2, r3, r4⟩ := five_cells HG3.out; have hl1 := lt_of_block HV3.out; have hl2 := lt_of_block HG3.out; clear hb3)
    | (go_at_call 8; refine (HC.out _).mono ?_; rintro e w4 ⟨rfl, hb4⟩))
  go_ret
  exact ⟨rfl, HB3.out.next ((below_alloc _ _).next hb4)⟩
end Go.Proofs.Ytbcnnolidhggnaa
