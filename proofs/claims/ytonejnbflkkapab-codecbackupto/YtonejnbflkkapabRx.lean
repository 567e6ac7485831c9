import Derived.Test.YtonejnbflkkapabFx
import Derived.Laws.BitsAllLaws
namespace Go.Proofs.Ytonejnbflkkapab
open Go.RowKit

/-- the number that bytes are, 8 bits each -/
def fval : List UInt8 → Nat
  | [] => 0
  | c :: t => c.toNat + 256 * fval t
theorem fval_snoc (l : List UInt8) (c : UInt8) : fval (l ++ [c]) = fval l + c.toNat * 256 ^ l.length := by
  induction l with
  | nil => simp [fval]
  | cons a t ih => simp only [List.cons_append, fval, ih, List.length_cons, Nat.pow_succ, Nat.mul_add]; rw [Nat.add_assoc]; congr 2; rw [Nat.mul_left_comm, Nat.mul_comm 256]
theorem fval_lt (l : List UInt8) : fval l < 256 ^ l.length := by
  induction l with
  | nil => simp [fval]
  | cons a t ih =>
    simp only [fval, List.length_cons, Nat.pow_succ]
    have := a.toNat_lt
    omega
theorem toNat_ofInt64 (y : Nat) (z : Int) (hz : z % 18446744073709551616 = (y : Int)) : (BitVec.ofInt 64 z).toNat = y := by
  rw [BitVec.toNat_ofInt]
  have hc : ((2 ^ 64 : Nat) : Int) = 18446744073709551616 := by decide
  rw [hc, hz]; simp
theorem step_fix (x j c : Nat) (hx : x < 256 ^ j) (hj : j ≤ 7) (hc : c < 256) : bits .or .i64 (x : Int) (wrap64 ((c : Int) * 2 ^ (8 * j))) = wrap64 ((x + c * 256 ^ j : Nat) : Int) := by
  have e2 : (2 : Int) ^ (8 * j) = ((256 ^ j : Nat) : Int) := by rw [Int.pow_mul]; simp
  have h1 : 256 ^ j ≤ 256 ^ 7 := Nat.pow_le_pow_right (by decide) hj
  have hy : c * 256 ^ j < 18446744073709551616 := by
    have : c * 256 ^ j ≤ 255 * 256 ^ 7 := Nat.mul_le_mul (by omega) h1
    omega
  rw [e2, ← Int.natCast_mul]
  show IntKind.i64.wrap (((BitVec.ofInt 64 (x : Int) ||| BitVec.ofInt 64 (wrap64 ((c * 256 ^ j : Nat) : Int))).toNat : Nat) : Int) = _
  rw [BitVec.toNat_or, toNat_ofInt64 x _ (by omega), toNat_ofInt64 (c * 256 ^ j) _ (by unfold wrap64; omega), IntKind.wrap_i64]
  have hj2 : x ||| c * 256 ^ j = x + c * 256 ^ j := by
    rw [Nat.or_comm, nat_join (8 * j) _ _ (by rw [Nat.pow_mul]; exact Nat.mul_mod_left _ _) (by rw [Nat.pow_mul]; exact hx), Nat.add_comm]
  rw [hj2]
  unfold wrap64
  omega
theorem start0 (s : ByteArray) : wrap64 ((fval (List.take 0 s.data.toList) : Nat) : Int) = 0 := by show wrap64 0 = 0; unfold wrap64; rfl
theorem ftake (s : ByteArray) (j x : Nat) (h : j < s.size) (hx : x = fval (s.data.toList.take j)) : x < 256 ^ j ∧ fval (s.data.toList.take (j + 1)) = x + s[j].toNat * 256 ^ j := by
  have hl : (s.data.toList.take j).length = j := by rw [List.length_take, Array.length_toList]; exact Nat.min_eq_left (Nat.le_of_lt h)
  refine ⟨by rw [hx]; have := fval_lt (s.data.toList.take j); rwa [hl] at this, ?_⟩
  rw [take_snoc s j h, fval_snoc, hl, ← hx]

theorem fixedr_err (g : Nat) (s : ByteArray) (e z : Int) (hz : sized z = true) (w : World) (h : RIs g w s e) (he : e ≠ 0) : Calls Try.prog 19 #[.pointer (some ⟨g, 0, none⟩), .int .i64 z] w fun x w' => x = .returned (.tuple #[.int .i64 0, .int .i64 e]) ∧ w' = w := by
  have he' : (e != 0) = true := by simp [he]
  clear he
  go_enter Try.func19, Try.ntmps19
  go_wp2_with (first | (go_at_call 41; refine (isSize_is _ _).mono ?_; rintro x w' ⟨rfl, hw⟩; have hw := hw.symm; subst hw; rw [hz]) | (go_at_call 36; refine (fault_r g s e _ h).mono ?_; rintro x w' ⟨rfl, rfl⟩))
  go_ret2
  exact ⟨rfl, rfl⟩
theorem fixedr_cut (g : Nat) (s : ByteArray) (k : Nat) (hz : sized k = true) (hk : s.size < k) (_hk8 : k ≤ 8) (w : World) (h : RIs g w s 0) : Calls Try.prog 19 #[.pointer (some ⟨g, 0, none⟩), .int .i64 k] w fun x w' => x = .returned (.tuple #[.int .i64 0, .int .i64 20]) ∧ RIs g w' s 20 ∧ Kept w.heap.size g w w' := by
  have h0 := h.c0
  have HR : Hid (RIs g w s 0) := h
  go_enter Try.func19, Try.ntmps19
  go_wp2_with (first | (go_at_call 41; refine (isSize_is _ _).mono ?_; rintro x w' ⟨rfl, hw⟩; have hw := hw.symm; subst hw; rw [hz]) | (go_at_call 36; refine (fault_r g s 0 _ h).mono ?_; rintro x w' ⟨rfl, hw⟩; have hw := hw.symm; subst hw) | (go_at_call 38; refine (take_bad g s 0 _ _ _ HR.out (by decide)).mono ?_; rintro x w' ⟨rfl, hr', hk'⟩))
  go_ret2
  exact ⟨rfl, hr', hk'⟩
set_option maxRecDepth 100000 in
set_option maxHeartbeats 2000000 in
theorem fixedr_ok (g : Nat) (s : ByteArray) (k : Nat) (hz : sized k = true) (hks : k ≤ s.size) (hk8 : k ≤ 8) (hs : s.size ≤ maxLen) (hb : fval (s.data.toList.take k) < 9223372036854775808) (w : World) (h : RIs g w s 0) :
    Calls Try.prog 19 #[.pointer (some ⟨g, 0, none⟩), .int .i64 k] w fun x w' => x = .returned (.tuple #[.int .i64 (fval (s.data.toList.take k)), .int .i64 0]) ∧ RIs g w' (s.extract k s.size) 0 ∧ Kept w.heap.size g w w' := by
  have h0 := h.c0
  have HR : Hid (RIs g w s 0) := h
  have HM : Hid (s.size ≤ maxLen) := hs
  have HB : Hid (fval (s.data.toList.take k) < 9223372036854775808) := hb
  clear hb
  unfold maxLen at hs
  go_enter Try.func19, Try.ntmps19
  go_wp2_with (first | (go_at_call 41; refine (isSize_is _ _).mono ?_; rintro x w' ⟨rfl, hw⟩; have hw := hw.symm; subst hw; rw [hz]) | (go_at_call 36; refine (fault_r g s 0 _ h).mono ?_; rintro x w' ⟨rfl, hw⟩; have hw := hw.symm; subst hw))
  go_loop [7, 27] (fun u i => ∃ j : Nat, i = .int .i64 j ∧ j ≤ k ∧ u = .int .i64 (wrap64 (fval (s.data.toList.take j)))) (fun _ i => k - (intOf i).toNat)
  case atStart => exact ⟨0, rfl, Nat.zero_le _, by rw [start0]⟩
  case round =>
    obtain ⟨j, rfl, hj, rfl⟩ := hrel
    by_cases hlt : j < k
    · have hjs : j < s.size := by omega
      have ⟨f1, f2⟩ := ftake s j _ hjs rfl
      have hc := s[j].toNat_lt
      have hsm : 256 ^ j ≤ 256 ^ 7 := Nat.pow_le_pow_right (by decide) (by omega)
      obtain ⟨x, hx⟩ : ∃ x, x = fval (s.data.toList.take j) := ⟨_, rfl⟩
      rw [← hx] at f1 f2 ⊢
      have hw : wrap64 (x : Int) = (x : Int) := by unfold wrap64; omega
      have HS : Hid (bits .or .i64 (x : Int) (wrap64 ((s[j].toNat : Int) * 2 ^ (8 * j))) = wrap64 (fval (s.data.toList.take (j + 1)))) := by
        show _ = _
        rw [step_fix x j _ f1 (by omega) hc, f2]
      rw [hw]
      clear hx f1 f2 hsm hw
      go_wp2
      go_round
      case rel => exact ⟨j + 1, by go_num, by omega, by rw [← HS.out]⟩
      case measure => simp [intOf]; omega
    · have hjk : j = k := by omega
      subst hjk
      have hl : (s.data.toList.take j).length = j := by rw [List.length_take, Array.length_toList]; exact Nat.min_eq_left hks
      have hfl := fval_lt (s.data.toList.take j)
      rw [hl] at hfl
      have hsm : 256 ^ j ≤ 256 ^ 8 := Nat.pow_le_pow_right (by decide) (by omega)
      obtain ⟨x, hx⟩ : ∃ x, x = fval (s.data.toList.take j) := ⟨_, rfl⟩
      rw [← hx] at hfl ⊢
      have hb : x < 9223372036854775808 := by rw [hx]; exact HB.out
      have hw : wrap64 (x : Int) = (x : Int) := by unfold wrap64; omega
      rw [hw]
      have HX : Hid (fval (s.data.toList.take j) = x) := hx.symm
      clear hx hfl hsm hw hl
      go_wp2_with (first | (go_at_call 38; refine (take_ok g s j hks HM.out _ HR.out).mono ?_; rintro x w' ⟨rfl, hr', hk'⟩))
      go_ret2
      exact ⟨by rw [HX.out]; rfl, hr', hk'⟩
set_option maxRecDepth 100000 in
set_option maxHeartbeats 2000000 in
theorem fixedr_form (g : Nat) (s : ByteArray) (k : Nat) (hz : sized k = true) (hks : k ≤ s.size) (hk8 : k ≤ 8) (hs : s.size ≤ maxLen) (hb : ¬ fval (s.data.toList.take k) < 9223372036854775808) (w : World) (h : RIs g w s 0) :
    Calls Try.prog 19 #[.pointer (some ⟨g, 0, none⟩), .int .i64 k] w fun x w' => x = .returned (.tuple #[.int .i64 0, .int .i64 4]) ∧ RIs g w' s 4 ∧ Kept w.heap.size g w w' := by
  have h0 := h.c0
  have HR : Hid (RIs g w s 0) := h
  have HB : Hid (¬ fval (s.data.toList.take k) < 9223372036854775808) := hb
  clear hb
  unfold maxLen at hs
  go_enter Try.func19, Try.ntmps19
  go_wp2_with (first | (go_at_call 41; refine (isSize_is _ _).mono ?_; rintro x w' ⟨rfl, hw⟩; have hw := hw.symm; subst hw; rw [hz]) | (go_at_call 36; refine (fault_r g s 0 _ h).mono ?_; rintro x w' ⟨rfl, hw⟩; have hw := hw.symm; subst hw))
  go_loop [7, 27] (fun u i => ∃ j : Nat, i = .int .i64 j ∧ j ≤ k ∧ u = .int .i64 (wrap64 (fval (s.data.toList.take j)))) (fun _ i => k - (intOf i).toNat)
  case atStart => exact ⟨0, rfl, Nat.zero_le _, by rw [start0]⟩
  case round =>
    obtain ⟨j, rfl, hj, rfl⟩ := hrel
    by_cases hlt : j < k
    · have hjs : j < s.size := by omega
      have ⟨f1, f2⟩ := ftake s j _ hjs rfl
      have hc := s[j].toNat_lt
      have hsm : 256 ^ j ≤ 256 ^ 7 := Nat.pow_le_pow_right (by decide) (by omega)
      obtain ⟨x, hx⟩ : ∃ x, x = fval (s.data.toList.take j) := ⟨_, rfl⟩
      rw [← hx] at f1 f2 ⊢
      have hw : wrap64 (x : Int) = (x : Int) := by unfold wrap64; omega
      have HS : Hid (bits .or .i64 (x : Int) (wrap64 ((s[j].toNat : Int) * 2 ^ (8 * j))) = wrap64 (fval (s.data.toList.take (j + 1)))) := by
        show _ = _
        rw [step_fix x j _ f1 (by omega) hc, f2]
      rw [hw]
      clear hx f1 f2 hsm hw
      go_wp2
      go_round
      case rel => exact ⟨j + 1, by go_num, by omega, by rw [← HS.out]⟩
      case measure => simp [intOf]; omega
    · have hjk : j = k := by omega
      subst hjk
      have hl : (s.data.toList.take j).length = j := by rw [List.length_take, Array.length_toList]; exact Nat.min_eq_left hks
      have hfl := fval_lt (s.data.toList.take j)
      rw [hl] at hfl
      have hsm : 256 ^ j ≤ 256 ^ 8 := Nat.pow_le_pow_right (by decide) (by omega)
      obtain ⟨x, hx⟩ : ∃ x, x = fval (s.data.toList.take j) := ⟨_, rfl⟩
      rw [← hx] at hfl ⊢
      have hb : ¬ x < 9223372036854775808 := by rw [hx]; exact HB.out
      have hw : wrap64 (x : Int) < 0 := by unfold wrap64; omega
      obtain ⟨y, hy⟩ : ∃ y, y = wrap64 (x : Int) := ⟨_, rfl⟩
      rw [← hy] at hw ⊢
      clear hx hfl hsm hl hb hy
      go_wp2_with (first | (go_at_call 38; refine (take_bad g s 0 _ _ _ HR.out (by decide)).mono ?_; rintro x w' ⟨rfl, hr', hk'⟩))
      go_ret2
      exact ⟨rfl, hr', hk'⟩
end Go.Proofs.Ytonejnbflkkapab
