import Derived.Test.YtonejnbflkkapaaFld
namespace Go.Proofs.Ytonejnbflkkapaa
open Go.RowKit

/-- bits as a kind has them, as 64 bits -/
def wideB (k : Int) (f : Nat → Bool) (i : Nat) : Bool := if i < wd k then f i else (decide (k ≤ 4) && f (wd k - 1))

theorem kinds {k : Int} (h1 : 1 ≤ k) (h8 : k ≤ 8) : k = 1 ∨ k = 2 ∨ k = 3 ∨ k = 4 ∨ k = 5 ∨ k = 6 ∨ k = 7 ∨ k = 8 := by omega
theorem wd1 : wd 1 = 8 := by decide
theorem wd2 : wd 2 = 16 := by decide
theorem wd3 : wd 3 = 32 := by decide
theorem wd4 : wd 4 = 64 := by decide
theorem wd5 : wd 5 = 8 := by decide
theorem wd6 : wd 6 = 16 := by decide
theorem wd7 : wd 7 = 32 := by decide
theorem wd8 : wd 8 = 64 := by decide

theorem top_bit (n : Int) (w : Nat) (hw : 0 < w) (h64 : w ≤ 64) (c : Bool) (h : c = decide (2 ^ (w - 1) ≤ n % 2 ^ w)) : bt n (w - 1) = c := by
  rw [h, ← bt_low n w (w - 1) (by omega) (by omega), bt_div _ _ (by omega), decide_eq_decide]
  obtain ⟨v, rfl⟩ : ∃ v, w = v + 1 := ⟨w - 1, by omega⟩
  rw [show v + 1 - 1 = v by omega]
  have h0 : (0 : Int) ≤ n % 2 ^ (v + 1) := Int.emod_nonneg _ (pow_ne' _)
  have h1 : n % 2 ^ (v + 1) < 2 ^ (v + 1) := Int.emod_lt_of_pos _ (pow_pos' _)
  have hv := pow_pos' v
  rw [Int.pow_succ] at *
  generalize n % (2 ^ v * 2) = m at *
  by_cases hm : 2 ^ v ≤ m
  · rw [show m = (m - 2 ^ v) + 1 * 2 ^ v by omega, Int.add_mul_ediv_right _ _ (pow_ne' v), Int.ediv_eq_zero_of_lt (by omega) (by omega)]
    constructor
    · intro _; omega
    · intro _; decide
  · rw [Int.ediv_eq_zero_of_lt h0 (by omega)]; constructor
    · intro h; omega
    · intro h; omega

theorem bt_signed (n : Int) (w : Nat) (hw : 0 < w) (h64 : w ≤ 64) (i : Nat) (hi : i < 64) :
    bt (if 2 ^ (w - 1) ≤ n % 2 ^ w then n % 2 ^ w - 2 ^ w else n % 2 ^ w) i = if i < w then bt n i else bt n (w - 1) := by
  by_cases h : (2 : Int) ^ (w - 1) ≤ n % 2 ^ w
  · rw [if_pos h, bt_neg n w i hi]
    split
    · rw [show decide (w ≤ i) = false by simp; omega]; rfl
    · rw [top_bit n w hw h64 true (by simp [h]), show decide (w ≤ i) = true by simp; omega]; rfl
  · rw [if_neg h, bt_mod n w i hi]
    split
    · simp [*]
    · rw [top_bit n w hw h64 false (by simp; omega), show decide (i < w) = false by simp; omega]; rfl

theorem bt_asK (k n : Int) (h1 : 1 ≤ k) (h8 : k ≤ 8) (i : Nat) (hi : i < 64) : bt (asK k n) i = wideB k (bt n) i := by
  unfold wideB
  rcases kinds h1 h8 with rfl | rfl | rfl | rfl | rfl | rfl | rfl | rfl
  · rw [asK_1, wd1]; exact bt_signed n 8 (by decide) (by decide) i hi
  · rw [asK_2, wd2]; exact bt_signed n 16 (by decide) (by decide) i hi
  · rw [asK_3, wd3]; exact bt_signed n 32 (by decide) (by decide) i hi
  · rw [asK_4, wd4, if_pos hi]
  · rw [asK_5, wd5]; rw [show n % 256 = n % 2 ^ 8 from rfl, bt_mod n 8 i hi]; split <;> simp [*]
  · rw [asK_6, wd6]; rw [show n % 65536 = n % 2 ^ 16 from rfl, bt_mod n 16 i hi]; split <;> simp [*]
  · rw [asK_7, wd7]; rw [show n % 4294967296 = n % 2 ^ 32 from rfl, bt_mod n 32 i hi]; split <;> simp [*]
  · rw [asK_8, wd8, if_pos hi]

theorem asK_range (k n : Int) (h1 : 1 ≤ k) (h8 : k ≤ 8) (hn : -9223372036854775808 ≤ n ∧ n ≤ 9223372036854775807) : -9223372036854775808 ≤ asK k n ∧ asK k n ≤ 9223372036854775807 := by
  rcases kinds h1 h8 with rfl | rfl | rfl | rfl | rfl | rfl | rfl | rfl
  · rw [asK_1]; split <;> omega
  · rw [asK_2]; split <;> omega
  · rw [asK_3]; split <;> omega
  · rw [asK_4]; exact hn
  · rw [asK_5]; omega
  · rw [asK_6]; omega
  · rw [asK_7]; omega
  · rw [asK_8]; exact hn
theorem wrap64_range (n : Int) : -9223372036854775808 ≤ wrap64 n ∧ wrap64 n ≤ 9223372036854775807 := by unfold wrap64; omega
theorem wrapu_range (n : Int) : 0 ≤ IntKind.u64.wrap n ∧ IntKind.u64.wrap n ≤ 18446744073709551615 := by rw [IntKind.wrap_u64]; omega
theorem or_range (a b : Int) : 0 ≤ bits .or .u64 a b ∧ bits .or .u64 a b ≤ 18446744073709551615 := wrapu_range _
theorem and_range (a b : Int) : 0 ≤ bits .and .u64 a b ∧ bits .and .u64 a b ≤ 18446744073709551615 := wrapu_range _

theorem wideB_congr {k : Int} (h1 : 1 ≤ k) (h8 : k ≤ 8) {f g : Nat → Bool} (h : ∀ i, i < wd k → f i = g i) (i : Nat) : wideB k f i = wideB k g i := by
  have := wd_in k h1 h8
  unfold wideB; split
  · exact h i ‹_›
  · rw [h (wd k - 1) (by omega)]
theorem wideB_lt {k : Int} {f : Nat → Bool} {i : Nat} (h : i < wd k) : wideB k f i = f i := by unfold wideB; rw [if_pos h]

/-- Left's answer -/
def leftV (k n b : Int) : Int := asK k (wrap64 (asK k n * 2 ^ min b.toNat 64))
theorem bt_left (k n b : Int) (h1 : 1 ≤ k) (h8 : k ≤ 8) (i : Nat) (hi : i < 64) : bt (leftV k n b) i = wideB k (fun j => decide (b.toNat ≤ j) && bt n (j - b.toNat)) i := by
  have hw := wd_in k h1 h8
  unfold leftV
  rw [bt_asK k _ h1 h8 i hi]
  refine wideB_congr h1 h8 (fun j hj => ?_) i
  rw [bt_wrap64, bt_shl _ _ j (by omega)]
  by_cases hb : b.toNat ≤ j
  · rw [show min b.toNat 64 = b.toNat by omega, bt_asK k n h1 h8 _ (by omega), wideB_lt (by omega)]
  · rw [show decide (min b.toNat 64 ≤ j) = false by simp; omega, show decide (b.toNat ≤ j) = false by simp; omega]; rfl

def refRight (k : Int) (b : Nat) (f : Nat → Bool) (i : Nat) : Bool := if i + b < 64 then f (i + b) else (decide (k ≤ 4) && f 63)
theorem bt_right (k n b : Int) (h1 : 1 ≤ k) (h8 : k ≤ 8) (hn : -9223372036854775808 ≤ n ∧ n ≤ 9223372036854775807) (i : Nat) (hi : i < 64) :
    bt (rightV k n b) i = wideB k (refRight k b.toNat (wideB k (bt n))) i := by
  have hw := wd_in k h1 h8
  have hr := asK_range k n h1 h8 hn
  by_cases hk : k = 8
  · subst hk
    rw [wideB_lt (by rw [wd8]; exact hi)]
    unfold refRight rightV
    rw [if_pos rfl, bt_wrap64, bt_shr_u _ (wrapu_range n) _ i hi, bt_wrapu]
    by_cases h : i + b.toNat < 64
    · rw [if_pos h, wideB_lt (by rw [wd8]; exact h), show min b.toNat 64 + i = i + b.toNat by omega]
    · rw [if_neg h, bt_big _ _ (by omega)]; rfl
  · rw [show rightV k n b = asK k n / 2 ^ min b.toNat 64 from (rightV_ne k n b hk).symm, bt_shr_s _ hr _ i hi]
    have e63 : bt (asK k n) 63 = wideB k (bt n) 63 := bt_asK k n h1 h8 63 (by decide)
    have top : ∀ j, wd k ≤ j → wideB k (bt n) j = (decide (k ≤ 4) && bt n (wd k - 1)) := fun j hj => by unfold wideB; rw [if_neg (by omega)]
    have ex : (if min b.toNat 64 + i < 64 then bt (asK k n) (min b.toNat 64 + i) else bt (asK k n) 63) = (if i + b.toNat < 64 then wideB k (bt n) (i + b.toNat) else wideB k (bt n) 63) := by
      by_cases h : i + b.toNat < 64
      · rw [if_pos h, if_pos (by omega), bt_asK k n h1 h8 _ (by omega), show min b.toNat 64 + i = i + b.toNat by omega]
      · rw [if_neg h, if_neg (by omega), e63]
    rw [ex]
    have e63' : (decide (k ≤ 4) && wideB k (bt n) 63) = wideB k (bt n) 63 := by
      by_cases h4 : k ≤ 4
      · simp [h4]
      · have : wd k ≤ 63 := by rcases kinds h1 h8 with rfl | rfl | rfl | rfl | rfl | rfl | rfl | rfl <;> simp_all [wd5, wd6, wd7]
        rw [top 63 this]; simp [h4]
    by_cases hiw : i < wd k
    · rw [wideB_lt hiw]; unfold refRight; rw [e63']
    · have hs : wideB k (refRight k b.toNat (wideB k (bt n))) i = (decide (k ≤ 4) && refRight k b.toNat (wideB k (bt n)) (wd k - 1)) := by
        unfold wideB; rw [if_neg hiw]
      rw [hs]
      have hsame : ∀ j, wd k ≤ j + 1 → (decide (k ≤ 4) && wideB k (bt n) j) = (decide (k ≤ 4) && bt n (wd k - 1)) := by
        intro j hj
        by_cases hj2 : j < wd k
        · rw [wideB_lt hj2, show j = wd k - 1 by omega]
        · rw [top j (by omega)]; cases decide (k ≤ 4) <;> rfl
      have L : (if i + b.toNat < 64 then wideB k (bt n) (i + b.toNat) else wideB k (bt n) 63) = (decide (k ≤ 4) && bt n (wd k - 1)) := by
        split
        · exact top _ (by omega)
        · exact top _ (by omega)
      rw [L]
      unfold refRight
      split
      · exact (hsame _ (by omega)).symm
      · rw [e63', ← hsame 63 (by omega), e63']

/-! ### the bytes the other way round -/
theorem mask1 : ∀ i : Fin 64, bt 71777214294589695 i.val = decide (i.val / 8 % 2 = 0) := by decide +kernel
theorem mask2 : ∀ i : Fin 64, bt 281470681808895 i.val = decide (i.val / 16 % 2 = 0) := by decide +kernel
def j1 (i : Nat) : Nat := if i / 8 % 2 = 0 then 8 + i else i - 8
def j2 (i : Nat) : Nat := if i / 16 % 2 = 0 then 16 + i else i - 16
def j3 (i : Nat) : Nat := if i / 32 % 2 = 0 then 32 + i else i - 32
theorem jj : ∀ i : Fin 64, j3 i.val < 64 ∧ j2 (j3 i.val) < 64 ∧ j1 (j2 (j3 i.val)) = 56 - i.val / 8 * 8 + i.val % 8 := by decide
theorem bt_r1 (n : Int) (hn : 0 ≤ n ∧ n ≤ 18446744073709551615) (i : Nat) (hi : i < 64) : bt (r1 n) i = bt n (j1 i) := by
  unfold r1 j1
  rw [bt_or, bt_and, bt_wrapu, show n / 256 = n / 2 ^ 8 from rfl, bt_shr_u n hn 8 i hi, mask1 ⟨i, hi⟩,
    show bits .and .u64 n 71777214294589695 * 256 = bits .and .u64 n 71777214294589695 * 2 ^ 8 from rfl, bt_shl _ _ i hi, bt_and]
  by_cases h : i / 8 % 2 = 0
  · by_cases h8 : 8 ≤ i
    · rw [mask1 ⟨i - 8, by omega⟩]; simp [h, h8]; omega
    · simp [h, h8]
  · have h8 : 8 ≤ i := by omega
    rw [mask1 ⟨i - 8, by omega⟩]; simp [h, h8]; omega
theorem bt_r2 (n : Int) (hn : 0 ≤ n ∧ n ≤ 18446744073709551615) (i : Nat) (hi : i < 64) : bt (r2 n) i = bt n (j2 i) := by
  unfold r2 j2
  rw [bt_or, bt_and, bt_wrapu, show n / 65536 = n / 2 ^ 16 from rfl, bt_shr_u n hn 16 i hi, mask2 ⟨i, hi⟩,
    show bits .and .u64 n 281470681808895 * 65536 = bits .and .u64 n 281470681808895 * 2 ^ 16 from rfl, bt_shl _ _ i hi, bt_and]
  by_cases h : i / 16 % 2 = 0
  · by_cases h8 : 16 ≤ i
    · rw [mask2 ⟨i - 16, by omega⟩]; simp [h, h8]; omega
    · simp [h, h8]
  · have h8 : 16 ≤ i := by omega
    rw [mask2 ⟨i - 16, by omega⟩]; simp [h, h8]; omega
theorem bt_r3 (n : Int) (hn : 0 ≤ n ∧ n ≤ 18446744073709551615) (i : Nat) (hi : i < 64) : bt (r3 n) i = bt n (j3 i) := by
  unfold r3 j3
  rw [bt_or, bt_wrapu, show n / 4294967296 = n / 2 ^ 32 from rfl, bt_shr_u n hn 32 i hi,
    show n * 4294967296 = n * 2 ^ 32 from rfl, bt_shl _ _ i hi]
  by_cases h : i < 32
  · rw [if_pos (by omega)]; simp; intro h'; omega
  · rw [if_neg (by omega), bt_big n (32 + i) (by omega)]; simp; omega
theorem r1_range (n : Int) : 0 ≤ r1 n ∧ r1 n ≤ 18446744073709551615 := or_range _ _
theorem r2_range (n : Int) : 0 ≤ r2 n ∧ r2 n ≤ 18446744073709551615 := or_range _ _
theorem rev_range (n : Int) : 0 ≤ rev n ∧ rev n ≤ 18446744073709551615 := or_range _ _
theorem bt_rev (n : Int) (hn : 0 ≤ n ∧ n ≤ 18446744073709551615) (i : Nat) (hi : i < 64) : bt (rev n) i = bt n (56 - i / 8 * 8 + i % 8) := by
  obtain ⟨a, b, c⟩ := jj ⟨i, hi⟩
  unfold rev
  rw [bt_r3 _ (r2_range _) i hi, bt_r2 _ (r1_range _) _ a, bt_r1 _ hn _ b, c]
theorem bt_swap (k n : Int) (h1 : 1 ≤ k) (h8 : k ≤ 8) (i : Nat) (hi : i < 64) : bt (swapV k n) i = wideB k (fun j => bt n (wd k - 8 - j / 8 * 8 + j % 8)) i := by
  have hw := wd_in k h1 h8
  unfold swapV
  rw [bt_asK k _ h1 h8 i hi]
  refine wideB_congr h1 h8 (fun j hj => ?_) i
  rw [bt_wrap64, bt_shr_u _ (rev_range _) _ j (by omega), bt_rev _ (wrapu_range n) _ (by omega), bt_wrapu]
  congr 1
  omega
end Go.Proofs.Ytonejnbflkkapaa
