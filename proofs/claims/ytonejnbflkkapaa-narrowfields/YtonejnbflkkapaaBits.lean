import Derived.RowKit
import Derived.OpenShut
import Derived.Laws.Bits64
namespace Go.Proofs.Ytonejnbflkkapaa
open Go.RowKit

/-- bit i of a number, as 64 bits have it -/
def bt (n : Int) (i : Nat) : Bool := (BitVec.ofInt 64 n).getLsbD i

theorem bt_of_mod {a b : Int} (h : a % 18446744073709551616 = b % 18446744073709551616) (i : Nat) : bt a i = bt b i := by
  unfold bt
  have : BitVec.ofInt 64 a = BitVec.ofInt 64 b := by
    apply BitVec.eq_of_toInt_eq
    rw [BitVec.toInt_ofInt, BitVec.toInt_ofInt]
    unfold Int.bmod
    simp only [Nat.reducePow, Int.cast_ofNat_Int] at *
    rw [h]
  rw [this]

theorem bt_big (n : Int) (i : Nat) (h : 64 ≤ i) : bt n i = false := by
  unfold bt; exact BitVec.getLsbD_of_ge _ _ h

theorem bt_ext {a b : Int} (ha : -9223372036854775808 ≤ a ∧ a ≤ 9223372036854775807) (hb : -9223372036854775808 ≤ b ∧ b ≤ 9223372036854775807) (h : ∀ i, i < 64 → bt a i = bt b i) : a = b := by
  have e : BitVec.ofInt 64 a = BitVec.ofInt 64 b := BitVec.eq_of_getLsbD_eq h
  have e2 := congrArg BitVec.toInt e
  rw [BitVec.toInt_ofInt, BitVec.toInt_ofInt] at e2
  unfold Int.bmod at e2
  simp only [Nat.reducePow, Int.cast_ofNat_Int] at e2
  split at e2 <;> split at e2 <;> omega

theorem bt_ext_u {a b : Int} (ha : 0 ≤ a ∧ a ≤ 18446744073709551615) (hb : 0 ≤ b ∧ b ≤ 18446744073709551615) (h : ∀ i, i < 64 → bt a i = bt b i) : a = b := by
  have e : BitVec.ofInt 64 a = BitVec.ofInt 64 b := BitVec.eq_of_getLsbD_eq h
  have e2 := congrArg BitVec.toInt e
  rw [BitVec.toInt_ofInt, BitVec.toInt_ofInt] at e2
  unfold Int.bmod at e2
  simp only [Nat.reducePow, Int.cast_ofNat_Int] at e2
  split at e2 <;> split at e2 <;> omega

theorem bt_wrap64 (n : Int) (i : Nat) : bt (wrap64 n) i = bt n i := bt_of_mod (by unfold wrap64; omega) i
theorem bt_wrapu (n : Int) (i : Nat) : bt (IntKind.u64.wrap n) i = bt n i := bt_of_mod (by rw [IntKind.wrap_u64]; omega) i
theorem bt_and (a b : Int) (i : Nat) : bt (bits .and .u64 a b) i = (bt a i && bt b i) := by
  show bt (IntKind.u64.wrap (((BitVec.ofInt 64 a &&& BitVec.ofInt 64 b).toNat : Nat) : Int)) i = _
  rw [bt_wrapu]; unfold bt; rw [BitVec.ofInt_natCast, BitVec.ofNat_toNat, BitVec.setWidth_eq, BitVec.getLsbD_and]
theorem bt_or (a b : Int) (i : Nat) : bt (bits .or .u64 a b) i = (bt a i || bt b i) := by
  show bt (IntKind.u64.wrap (((BitVec.ofInt 64 a ||| BitVec.ofInt 64 b).toNat : Nat) : Int)) i = _
  rw [bt_wrapu]; unfold bt; rw [BitVec.ofInt_natCast, BitVec.ofNat_toNat, BitVec.setWidth_eq, BitVec.getLsbD_or]
theorem bt_andNot (a b : Int) (i : Nat) (h : i < 64) : bt (bits .andNot .u64 a b) i = (bt a i && !bt b i) := by
  show bt (IntKind.u64.wrap (((BitVec.ofInt 64 a &&& ~~~BitVec.ofInt 64 b).toNat : Nat) : Int)) i = _
  rw [bt_wrapu]; unfold bt; rw [BitVec.ofInt_natCast, BitVec.ofNat_toNat, BitVec.setWidth_eq, BitVec.getLsbD_and, BitVec.getLsbD_not]; simp [h]

theorem pow_pos' (i : Nat) : (0 : Int) < 2 ^ i := Int.pow_pos (by decide)
theorem pow_ne' (i : Nat) : (2 : Int) ^ i ≠ 0 := by have := pow_pos' i; omega

/-- the low bits of a rest are the number's own -/
theorem low_bit (n : Int) (w i : Nat) (h : i < w) : (n % 2 ^ w) / 2 ^ i % 2 = n / 2 ^ i % 2 := by
  obtain ⟨d, rfl⟩ : ∃ d, w = i + 1 + d := ⟨w - (i + 1), by omega⟩
  have e : n = n % 2 ^ (i + 1 + d) + (2 * 2 ^ d * (n / 2 ^ (i + 1 + d))) * 2 ^ i := by
    have := Int.emod_add_mul_ediv n (2 ^ (i + 1 + d))
    rw [Int.pow_add, Int.pow_succ] at *
    rw [show 2 * 2 ^ d * (n / (2 ^ i * 2 * 2 ^ d)) * 2 ^ i = 2 ^ i * 2 * 2 ^ d * (n / (2 ^ i * 2 * 2 ^ d)) by ac_rfl]
    omega
  conv => rhs; rw [e, Int.add_mul_ediv_right _ _ (pow_ne' i)]
  rw [show 2 * 2 ^ d * (n / 2 ^ (i + 1 + d)) = 2 * (2 ^ d * (n / 2 ^ (i + 1 + d))) by ac_rfl]
  omega

theorem bt_div (n : Int) (i : Nat) (h : i < 64) : bt n i = decide (n / 2 ^ i % 2 = 1) := by
  unfold bt
  rw [← BitVec.testBit_toNat, BitVec.toNat_ofInt, Nat.testBit_eq_decide_div_mod_eq, decide_eq_decide]
  have hl := low_bit n 64 i h
  have h0 : (0 : Int) ≤ n % 2 ^ 64 := Int.emod_nonneg _ (pow_ne' 64)
  have hc : ((2 ^ 64 : Nat) : Int) = (2 : Int) ^ 64 := by decide
  rw [hc]
  obtain ⟨m, hm⟩ := Int.eq_ofNat_of_zero_le h0
  rw [← hl, hm]
  have e : ((m / 2 ^ i % 2 : Nat) : Int) = (m : Int) / 2 ^ i % 2 := by simp
  rw [Int.toNat_natCast, ← e]
  omega

theorem bt_dec {a b : Int} {i j : Nat} (hi : i < 64) (hj : j < 64) (h : a / 2 ^ i % 2 = b / 2 ^ j % 2) : bt a i = bt b j := by
  rw [bt_div a i hi, bt_div b j hj, h]

theorem bt_mod (n : Int) (w i : Nat) (hi : i < 64) : bt (n % 2 ^ w) i = (decide (i < w) && bt n i) := by
  by_cases h : i < w
  · simp only [h, decide_true, Bool.true_and]; exact bt_dec hi hi (low_bit n w i h)
  · simp only [h, decide_false, Bool.false_and]
    rw [bt_div _ _ hi, decide_eq_false_iff_not]
    have h1 : n % 2 ^ w < 2 ^ w := Int.emod_lt_of_pos _ (pow_pos' w)
    have h0 : (0 : Int) ≤ n % 2 ^ w := Int.emod_nonneg _ (pow_ne' w)
    have h2 : (2 : Int) ^ w ≤ 2 ^ i := by exact_mod_cast Nat.pow_le_pow_right (by decide) (by omega)
    rw [Int.ediv_eq_zero_of_lt h0 (by omega)]; decide

theorem bt_low (n : Int) (w i : Nat) (hi : i < 64) (hw : i < w) : bt (n % 2 ^ w) i = bt n i := by
  rw [bt_mod n w i hi]; simp [hw]

/-- below 0: the bits behind the width are all 1 -/
theorem bt_neg (n : Int) (w i : Nat) (hi : i < 64) : bt (n % 2 ^ w - 2 ^ w) i = (decide (w ≤ i) || bt n i) := by
  have h1 : n % 2 ^ w < 2 ^ w := Int.emod_lt_of_pos _ (pow_pos' w)
  have h0 : (0 : Int) ≤ n % 2 ^ w := Int.emod_nonneg _ (pow_ne' w)
  by_cases h : i < w
  · rw [show decide (w ≤ i) = false by simp; omega, Bool.false_or, ← bt_low n w i hi h]
    refine bt_dec hi hi ?_
    obtain ⟨d, rfl⟩ : ∃ d, w = i + 1 + d := ⟨w - (i + 1), by omega⟩
    rw [show n % 2 ^ (i + 1 + d) - 2 ^ (i + 1 + d) = n % 2 ^ (i + 1 + d) + (-(2 * 2 ^ d)) * 2 ^ i by
      rw [Int.neg_mul, Int.pow_add, Int.pow_succ, show (2 : Int) * 2 ^ d * 2 ^ i = 2 ^ i * 2 * 2 ^ d by ac_rfl]; omega]
    rw [Int.add_mul_ediv_right _ _ (pow_ne' i)]; omega
  · rw [show decide (w ≤ i) = true by simp; omega, Bool.true_or, bt_div _ _ hi, decide_eq_true_eq]
    have h2 : (2 : Int) ^ w ≤ 2 ^ i := by exact_mod_cast Nat.pow_le_pow_right (by decide) (by omega)
    have e : (n % 2 ^ w - 2 ^ w) / 2 ^ i = -1 := by
      have := pow_pos' i
      rw [show n % 2 ^ w - 2 ^ w = (n % 2 ^ w - 2 ^ w + 2 ^ i) + (-1) * 2 ^ i by omega, Int.add_mul_ediv_right _ _ (pow_ne' i), Int.ediv_eq_zero_of_lt (by omega) (by omega)]; rfl
    rw [e]; decide

theorem bt_shl (n : Int) (s i : Nat) (hi : i < 64) : bt (n * 2 ^ s) i = (decide (s ≤ i) && bt n (i - s)) := by
  by_cases h : s ≤ i
  · simp only [h, decide_true, Bool.true_and]
    refine bt_dec hi (by omega) ?_
    obtain ⟨d, rfl⟩ : ∃ d, i = s + d := ⟨i - s, by omega⟩
    rw [Int.pow_add, ← Int.ediv_ediv_of_nonneg (by have := pow_pos' s; omega), Int.mul_ediv_cancel _ (pow_ne' s)]
    simp
  · simp only [h, decide_false, Bool.false_and]
    rw [bt_div _ _ hi, decide_eq_false_iff_not]
    obtain ⟨d, rfl⟩ : ∃ d, s = i + 1 + d := ⟨s - (i + 1), by omega⟩
    rw [show n * 2 ^ (i + 1 + d) = (2 * (n * 2 ^ d)) * 2 ^ i by rw [Int.pow_add, Int.pow_succ]; ac_rfl, Int.mul_ediv_cancel _ (pow_ne' i)]
    omega

theorem div_div_pow (n : Int) (s i : Nat) : n / 2 ^ s / 2 ^ i = n / 2 ^ (s + i) := by
  rw [Int.ediv_ediv_of_nonneg (by have := pow_pos' s; omega), Int.pow_add]

theorem bt_shr (n : Int) (s i : Nat) (hi : i < 64) (hs : s + i < 64) : bt (n / 2 ^ s) i = bt n (s + i) :=
  bt_dec hi hs (by rw [div_div_pow])

theorem bt_shr_u (n : Int) (hn : 0 ≤ n ∧ n ≤ 18446744073709551615) (s i : Nat) (hi : i < 64) : bt (n / 2 ^ s) i = bt n (s + i) := by
  by_cases h : s + i < 64
  · exact bt_shr n s i hi h
  · rw [bt_big n _ (by omega), bt_div _ _ hi, decide_eq_false_iff_not, div_div_pow]
    have h2 : (2 : Int) ^ 64 ≤ 2 ^ (s + i) := by exact_mod_cast Nat.pow_le_pow_right (by decide) (by omega)
    rw [Int.ediv_eq_zero_of_lt hn.1 (by omega)]; decide

theorem div_sign (n : Int) (hn : -9223372036854775808 ≤ n ∧ n ≤ 9223372036854775807) (s : Nat) (h : 63 ≤ s) : n / 2 ^ s = if n < 0 then -1 else 0 := by
  have h2 : (2 : Int) ^ 63 ≤ 2 ^ s := by exact_mod_cast Nat.pow_le_pow_right (by decide) (by omega)
  split
  · rw [show n = (n + 2 ^ s) + (-1) * 2 ^ s by omega, Int.add_mul_ediv_right _ _ (pow_ne' s), Int.ediv_eq_zero_of_lt (by omega) (by omega)]; rfl
  · exact Int.ediv_eq_zero_of_lt (by omega) (by omega)

theorem bt_shr_s (n : Int) (hn : -9223372036854775808 ≤ n ∧ n ≤ 9223372036854775807) (s i : Nat) (hi : i < 64) :
    bt (n / 2 ^ s) i = if s + i < 64 then bt n (s + i) else bt n 63 := by
  split
  · exact bt_shr n s i hi ‹_›
  · refine bt_dec hi (by omega) ?_
    rw [div_div_pow, div_sign n hn _ (by omega), div_sign n hn 63 (by omega)]

/-- one bit more at the lowest place -/
theorem bt_dbl (n : Int) (c : Bool) (i : Nat) (hi : i < 64) : bt (n * 2 + (if c then 1 else 0)) i = if i = 0 then c else bt n (i - 1) := by
  by_cases h : i = 0
  · subst h; rw [if_pos rfl, bt_div _ _ hi]; cases c <;> simp <;> omega
  · rw [if_neg h]
    refine bt_dec hi (by omega) ?_
    obtain ⟨d, rfl⟩ : ∃ d, i = 1 + d := ⟨i - 1, by omega⟩
    rw [← div_div_pow, show 1 + d - 1 = d by omega]
    congr 2
    cases c <;> simp <;> omega

theorem bt_zero (i : Nat) : bt 0 i = false := by unfold bt; simp
theorem bt_nonneg_small (n : Int) (h0 : 0 ≤ n) (w i : Nat) (h : n < 2 ^ w) (hw : w ≤ i) : bt n i = false := by
  by_cases hi : i < 64
  · rw [← Int.emod_eq_of_lt h0 h, bt_mod n w i hi]; simp; omega
  · exact bt_big n i (by omega)
theorem small_of_bt (n : Int) (hn : 0 ≤ n ∧ n ≤ 9223372036854775807) (w : Nat) (h : ∀ i, w ≤ i → i < 64 → bt n i = false) : n < 2 ^ w := by
  have e : n % 2 ^ w ≤ n := by
    have := Int.emod_add_mul_ediv n (2 ^ w)
    have h2 : 0 ≤ 2 ^ w * (n / 2 ^ w) := Int.mul_nonneg (by have := pow_pos' w; omega) (Int.ediv_nonneg hn.1 (by have := pow_pos' w; omega))
    omega
  have g0 : 0 ≤ n % 2 ^ w := Int.emod_nonneg _ (pow_ne' w)
  have : n = n % 2 ^ w := bt_ext_u ⟨by omega, by omega⟩ ⟨by omega, by omega⟩ fun i hi => by
    rw [bt_mod n w i hi]
    by_cases hw : i < w
    · simp [hw]
    · rw [h i (by omega) hi]; simp
  have h1 : n % 2 ^ w < 2 ^ w := Int.emod_lt_of_pos _ (pow_pos' w)
  omega
end Go.Proofs.Ytonejnbflkkapaa
