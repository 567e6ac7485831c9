import Derived.Test.YtonejnbflkkapabFx
import Derived.Test.YtonejnbflkkapabOneW
namespace Go.Proofs.Ytonejnbflkkapab
open Go.RowKit

/-- what is wrong with an item -/
def itE (K N Z : Int) (s : ByteArray) : Int :=
  if K = 0 then (if N < 0 then 1 else 0) else if K = 1 then 0 else if K = 2 then (if fitsB N Z = true then 0 else 1) else if 65535 < s.size then 2 else 0
/-- an item's bytes -/
def itB (K N Z : Int) (s : ByteArray) : List UInt8 :=
  if K = 0 then (if N < 0 then [] else uEnc N.toNat) else if K = 1 then uEnc (zig N) else if K = 2 then (if fitsB N Z = true then fEnc N.toNat Z.toNat else []) else if 65535 < s.size then [] else uEnc s.size ++ s.data.toList
theorem ret_si {a b : ByteArray} {k : IntKind} {c d : Int} (h : a = b) (h' : c = d) : Ending.returned (.tuple #[.string a, .int k c]) = .returned (.tuple #[.string b, .int k d]) := by rw [h, h']
theorem it_kind (K : Int) : K = 0 ∨ K = 1 ∨ K = 2 ∨ ((K == 0) = false ∧ (K == 1) = false ∧ (K == 2) = false ∧ K ≠ 0 ∧ K ≠ 1 ∧ K ≠ 2) := by
  by_cases h0 : K = 0
  · exact .inl h0
  · by_cases h1 : K = 1
    · exact .inr (.inl h1)
    · by_cases h2 : K = 2
      · exact .inr (.inr (.inl h2))
      · exact .inr (.inr (.inr ⟨by simp [h0], by simp [h1], by simp [h2], h0, h1, h2⟩))
set_option maxRecDepth 100000 in
set_option maxHeartbeats 2000000 in
theorem wants_any (K N Z : Int) (s : ByteArray) (hN : -9223372036854775808 ≤ N ∧ N ≤ 9223372036854775807) (w : World) :
    Calls Try.prog 10 #[.agg #[.int .i64 K, .int .i64 N, .int .i64 Z, .string s]] w fun e w' => e = .returned (.tuple #[.string (st (itB K N Z s)), .int .i64 (itE K N Z s)]) ∧ Below w.heap.size w w' := by
  rcases it_kind K with rfl | rfl | rfl | ⟨k0, k1, k2, n0, n1, n2⟩
  · by_cases hN0 : N < 0
    · have e1 : itB 0 N Z s = [] := by simp [itB, hN0]
      have e2 : itE 0 N Z s = 1 := by simp [itE, hN0]
      rw [e1, e2]; clear e1 e2
      go_enter Try.func10, Try.ntmps10
      go_wp2
      go_ret2
      exact ⟨rfl, below_alloc w _⟩
    · have e1 : itB 0 N Z s = uEnc N.toNat := by simp [itB]; omega
      have e2 : itE 0 N Z s = 0 := by simp [itE]; omega
      obtain ⟨m, rfl⟩ := Int.eq_ofNat_of_zero_le (show 0 ≤ N by omega)
      rw [e1, e2, Int.toNat_natCast]; clear e1 e2
      go_enter Try.func10, Try.ntmps10
      go_wp2_with ((go_at_call 26; refine (refUint m (by omega) _).mono ?_; rintro e w1 ⟨rfl, b1⟩))
      go_ret2
      exact ⟨rfl, (below_alloc w _).trans (b1.mono (by simp))⟩
  · have e1 : itB 1 N Z s = uEnc (zig N) := by simp [itB]
    have e2 : itE 1 N Z s = 0 := by simp [itE]
    rw [e1, e2]; clear e1 e2
    go_enter Try.func10, Try.ntmps10
    go_wp2_with ((go_at_call 27; refine (refInt N hN _).mono ?_; rintro e w1 ⟨rfl, b1⟩))
    go_ret2
    exact ⟨rfl, (below_alloc w _).trans (b1.mono (by simp))⟩
  · cases hf : fitsB N Z with
    | false =>
      have e1 : itB 2 N Z s = [] := by simp [itB, hf]
      have e2 : itE 2 N Z s = 1 := by simp [itE, hf]
      rw [e1, e2]; clear e1 e2
      go_enter Try.func10, Try.ntmps10
      go_wp2_with (go_at_call 30; refine (refFits _ _ _).mono ?_; rintro e wq ⟨rfl, hwq⟩; subst hwq; rw [hf])
      go_ret2
      exact ⟨rfl, below_alloc w _⟩
    | true =>
      have e1 : itB 2 N Z s = fEnc N.toNat Z.toNat := by simp [itB, hf]
      have e2 : itE 2 N Z s = 0 := by simp [itE, hf]
      have ⟨f0, f1, f2⟩ := fits_of hf
      obtain ⟨m, rfl⟩ := Int.eq_ofNat_of_zero_le f0
      obtain ⟨z, rfl⟩ := Int.eq_ofNat_of_zero_le (show 0 ≤ Z by omega)
      have hz8 : z ≤ 8 := by omega
      rw [e1, e2, Int.toNat_natCast, Int.toNat_natCast]; clear e1 e2 f1 f2
      go_enter Try.func10, Try.ntmps10
      go_wp2_with (first | (go_at_call 30; refine (refFits _ _ _).mono ?_; rintro e wq ⟨rfl, hwq⟩; subst hwq; rw [hf]) | (go_at_call 31; refine (refFixed m z (by omega) hz8 _).mono ?_; rintro e w1 ⟨rfl, b1⟩))
      go_ret2
      exact ⟨rfl, (below_alloc _ _).trans (b1.mono (by simp))⟩
  · by_cases hl : 65535 < s.size
    · have e1 : itB K N Z s = [] := by simp [itB, n0, n1, n2, hl]
      have e2 : itE K N Z s = 2 := by simp [itE, n0, n1, n2, hl]
      rw [e1, e2]; clear e1 e2 n0 n1 n2
      go_enter Try.func10, Try.ntmps10
      go_wp2
      go_ret2
      exact ⟨rfl, below_alloc w _⟩
    · have e1 : itB K N Z s = uEnc s.size ++ s.data.toList := by simp only [itB, n0, n1, n2, hl, if_false]
      have e2 : itE K N Z s = 0 := by simp only [itE, n0, n1, n2, hl, if_false]
      rw [e1, e2]; clear e1 e2 n0 n1 n2
      go_enter Try.func10, Try.ntmps10
      go_wp2_with ((go_at_call 32; refine (refText s (by omega) _).mono ?_; rintro e w1 ⟨rfl, b1⟩))
      go_ret2
      exact ⟨rfl, (below_alloc w _).trans (b1.mono (by simp))⟩
set_option maxRecDepth 100000 in
set_option maxHeartbeats 2000000 in
theorem writes_nil (K N Z : Int) (s : ByteArray) (hN : -9223372036854775808 ≤ N ∧ N ≤ 9223372036854775807) (w : World) :
    Calls Try.prog 11 #[.pointer none, .agg #[.int .i64 K, .int .i64 N, .int .i64 Z, .string s]] w fun e w' => e = .returned (.int .i64 (if itE K N Z s = 0 then 7 else itE K N Z s)) ∧ Below w.heap.size w w' := by
  rcases it_kind K with rfl | rfl | rfl | ⟨k0, k1, k2, n0, n1, n2⟩
  · by_cases hN0 : N < 0
    · skip
      have e2 : itE 0 N Z s = 1 := by simp [itE, hN0]
      rw [e2]; clear e2
      go_enter Try.func11, Try.ntmps11
      go_wp2_with (first | (go_at_call 29; refine (uint_neg _ _ hN0 _).mono ?_; rintro e wq ⟨rfl, hwq⟩; subst hwq))
      go_ret
      exact ⟨rfl, below_alloc _ _⟩
    · have hp : 0 ≤ N := by omega
      have e2 : itE 0 N Z s = 0 := by simp [itE]; omega
      rw [e2]; clear e2
      go_enter Try.func11, Try.ntmps11
      go_wp2_with (first | (go_at_call 29; refine (uint_nil _ hp _).mono ?_; rintro e wq ⟨rfl, hwq⟩; subst hwq))
      go_ret
      exact ⟨rfl, below_alloc _ _⟩
  · skip
    have e2 : itE 1 N Z s = 0 := by simp [itE]
    rw [e2]; clear e2
    go_enter Try.func11, Try.ntmps11
    go_wp2_with (first | (go_at_call 33; refine (int_nil _ hN _).mono ?_; rintro e wq ⟨rfl, hwq⟩; subst hwq))
    go_ret
    exact ⟨rfl, below_alloc _ _⟩
  · cases hf : fitsB N Z with
    | false =>
      have e2 : itE 2 N Z s = 1 := by simp [itE, hf]
      rw [e2]; clear e2
      go_enter Try.func11, Try.ntmps11
      go_wp2_with (first | (go_at_call 34; refine (fixedw_arg _ _ _ hN hf _).mono ?_; rintro e wq ⟨rfl, hwq⟩; subst hwq))
      go_ret
      exact ⟨rfl, below_alloc _ _⟩
    | true =>
      have e2 : itE 2 N Z s = 0 := by simp [itE, hf]
      rw [e2]; clear e2
      go_enter Try.func11, Try.ntmps11
      go_wp2_with (first | (go_at_call 34; refine (fixedw_nil _ _ hN hf _).mono ?_; rintro e wq ⟨rfl, hwq⟩; subst hwq))
      go_ret
      exact ⟨rfl, below_alloc _ _⟩
  · by_cases hl : 65535 < s.size
    · have e2 : itE K N Z s = 2 := by simp [itE, n0, n1, n2, hl]
      rw [e2]; clear e2 n0 n1 n2
      go_enter Try.func11, Try.ntmps11
      go_wp2_with (first | (go_at_call 35; refine (text_long _ _ hl _).mono ?_; rintro e wq ⟨rfl, hwq⟩; subst hwq))
      go_ret
      exact ⟨rfl, below_alloc _ _⟩
    · have e2 : itE K N Z s = 0 := by simp only [itE, n0, n1, n2, hl, if_false]
      have hl' : s.size ≤ 65535 := by omega
      rw [e2]; clear e2 n0 n1 n2
      go_enter Try.func11, Try.ntmps11
      go_wp2_with (first | (go_at_call 35; refine (text_nil _ hl' _).mono ?_; rintro e wq ⟨rfl, hwq⟩; subst hwq))
      go_ret
      exact ⟨rfl, below_alloc _ _⟩
end Go.Proofs.Ytonejnbflkkapab
