import Derived.RowKit
import Derived.OpenShut
import Derived.Laws.Bits64
namespace Go.Proofs.YtopebghandojbaaGreat
open Go.RowKit

/-- one bit of the sum: shifted right, and the polynomial where a bit fell out -/
def T (r : Nat) : Nat := r / 2 ^^^ (if r % 2 = 1 then 2197175160 else 0)
def Tn : Nat → Nat → Nat
  | 0, r => r
  | k + 1, r => Tn k (T r)
theorem xor_div2 (a b : Nat) : (a ^^^ b) / 2 = a / 2 ^^^ b / 2 := by
  apply Nat.eq_of_testBit_eq
  intro i
  rw [Nat.testBit_xor, Nat.testBit_div_two, Nat.testBit_div_two, Nat.testBit_div_two, Nat.testBit_xor]
theorem xor_mod2 (a b : Nat) : (a ^^^ b) % 2 = (a + b) % 2 := by
  have h := Nat.testBit_xor a b 0
  simp only [Nat.testBit_zero] at h
  rw [Nat.add_mod]
  have hz : (a ^^^ b) % 2 = 0 ∨ (a ^^^ b) % 2 = 1 := by omega
  generalize (a ^^^ b) % 2 = c at *
  have ha : a % 2 = 0 ∨ a % 2 = 1 := by omega
  have hb : b % 2 = 0 ∨ b % 2 = 1 := by omega
  rcases ha with ha | ha <;> rcases hb with hb | hb <;> rcases hz with hz | hz <;> rw [ha, hb, hz] at h <;> simp at h <;> rw [ha, hb, hz]
theorem T_xor (a b : Nat) : T (a ^^^ b) = T a ^^^ T b := by
  unfold T
  rw [xor_div2, xor_mod2]
  have ha : a % 2 = 0 ∨ a % 2 = 1 := by omega
  have hb : b % 2 = 0 ∨ b % 2 = 1 := by omega
  rcases ha with ha | ha <;> rcases hb with hb | hb <;> rw [Nat.add_mod, ha, hb] <;> simp
  · rw [Nat.xor_assoc]
  · rw [Nat.xor_assoc, Nat.xor_assoc, Nat.xor_comm (b / 2)]
  · rw [Nat.xor_assoc, ← Nat.xor_assoc 2197175160, Nat.xor_comm 2197175160, Nat.xor_assoc (b / 2), Nat.xor_self, Nat.xor_zero]
theorem Tn_xor (k : Nat) : ∀ a b, Tn k (a ^^^ b) = Tn k a ^^^ Tn k b := by
  induction k with
  | zero => intro a b; rfl
  | succ k ih => intro a b; rw [Tn, Tn, Tn, T_xor, ih]
theorem T_lt {r : Nat} (h : r < 4294967296) : T r < 4294967296 := by
  unfold T
  apply Nat.xor_lt_two_pow (n := 32)
  · omega
  · split <;> decide
theorem Tn_lt (k : Nat) : ∀ {r : Nat}, r < 4294967296 → Tn k r < 4294967296 := by
  induction k with
  | zero => intro r h; exact h
  | succ k ih => intro r h; exact ih (T_lt h)
theorem T_two (m : Nat) : T (2 * m) = m := by
  unfold T
  rw [if_neg (by omega), Nat.xor_zero]; omega
theorem Tn_pow (k : Nat) : ∀ m, Tn k (2 ^ k * m) = m := by
  induction k with
  | zero => intro m; simp [Tn]
  | succ k ih => intro m; rw [Tn, Nat.pow_succ, Nat.mul_comm (2 ^ k), Nat.mul_assoc, T_two, ih]
theorem Tn_add (j : Nat) : ∀ k r, Tn (j + k) r = Tn k (Tn j r) := by
  induction j with
  | zero => intro k r; rw [Nat.zero_add]; rfl
  | succ j ih => intro k r; rw [Nat.succ_add, Tn, Tn, ih]
theorem T_zero {r : Nat} (h : r < 4294967296) (h0 : T r = 0) : r = 0 := by
  unfold T at h0
  split at h0
  · exfalso
    have : (r / 2 ^^^ 2197175160).testBit 31 = true := by
      rw [Nat.testBit_xor, Nat.testBit_lt_two_pow (by omega : r / 2 < 2 ^ 31)]
      decide
    rw [h0] at this
    simp at this
  · rw [Nat.xor_zero] at h0
    omega
theorem Tn_zero (k : Nat) : ∀ {r : Nat}, r < 4294967296 → Tn k r = 0 → r = 0 := by
  induction k with
  | zero => intro r _ h; exact h
  | succ k ih => intro r h h0; exact T_zero h (ih (T_lt h) h0)
theorem xor_eq_zero {a b : Nat} (h : a ^^^ b = 0) : a = b := by
  have : a ^^^ (a ^^^ b) = a := by rw [h, Nat.xor_zero]
  rw [← Nat.xor_assoc, Nat.xor_self, Nat.zero_xor] at this
  exact this.symm
theorem Tn_inj (k : Nat) {a b : Nat} (ha : a < 4294967296) (hb : b < 4294967296) (h : Tn k a = Tn k b) : a = b := by
  apply xor_eq_zero
  apply Tn_zero k (Nat.xor_lt_two_pow (n := 32) ha hb)
  rw [Tn_xor, h, Nat.xor_self]

/-- some bytes as one number, the first one lowest -/
def big : List UInt8 → Nat
  | [] => 0
  | b :: l => b.toNat + 256 * big l
theorem add_xor (k b m : Nat) (h : b < 2 ^ k) : b + 2 ^ k * m = b ^^^ 2 ^ k * m := by
  apply Nat.eq_of_testBit_eq
  intro i
  rw [Nat.testBit_xor, Nat.add_comm, Nat.testBit_two_pow_mul_add _ h, Nat.testBit_two_pow_mul]
  by_cases hi : i < k
  · simp [hi, show ¬ k ≤ i by omega]
  · have : b.testBit i = false := Nat.testBit_lt_two_pow (Nat.lt_of_lt_of_le h (Nat.pow_le_pow_right (by decide) (by omega)))
    simp [hi, this, show k ≤ i by omega]
theorem big_cons (b : UInt8) (l : List UInt8) : big (b :: l) = b.toNat ^^^ 256 * big l := by
  have h := add_xor 8 b.toNat (big l) (by have := b.toNat_lt; omega)
  rw [show (2 : Nat) ^ 8 = 256 by decide] at h
  rw [big, h]
/-- the register behind some bytes -/
def reg : List UInt8 → Nat → Nat
  | [], r => r
  | b :: l, r => reg l (Tn 8 (r ^^^ b.toNat))
theorem reg_big (l : List UInt8) : ∀ r, reg l r = Tn (8 * l.length) (r ^^^ big l) := by
  induction l with
  | nil => intro r; simp [reg, big, Tn]
  | cons b l ih =>
    intro r
    rw [reg, ih, big_cons, List.length_cons, show 8 * (l.length + 1) = 8 + 8 * l.length by omega, Tn_add, ← Nat.xor_assoc, Tn_xor 8 (r ^^^ b.toNat)]
    have h := Tn_pow 8 (big l)
    rw [show (2 : Nat) ^ 8 = 256 by decide] at h
    rw [h]
theorem reg_append (a b : List UInt8) : ∀ r, reg (a ++ b) r = reg b (reg a r) := by
  induction a with
  | nil => intro r; rfl
  | cons x a ih => intro r; rw [List.cons_append, reg, reg, ih]
theorem reg_lt (l : List UInt8) : ∀ {r : Nat}, r < 4294967296 → reg l r < 4294967296 := by
  induction l with
  | nil => intro r h; exact h
  | cons b l ih => intro r h; exact ih (Tn_lt 8 (Nat.xor_lt_two_pow (n := 32) h (by have := b.toNat_lt; omega)))
/-- the sum of some bytes -/
def crc (l : List UInt8) : Nat := reg l 4294967295 ^^^ 4294967295
theorem crc_lt (l : List UInt8) : crc l < 4294967296 := Nat.xor_lt_two_pow (n := 32) (reg_lt l (by decide)) (by decide)
theorem big_lt (l : List UInt8) : big l < 256 ^ l.length := by
  induction l with
  | nil => decide
  | cons b l ih =>
    rw [big, List.length_cons, Nat.pow_succ]
    have := b.toNat_lt
    omega
/-- does a text carry its sum? As one number. -/
theorem carries {a t : List UInt8} (ht : t.length = 4) : (crc a = big t) ↔ Tn (8 * (a ++ t).length) (4294967295 ^^^ big (a ++ t)) = Tn 32 4294967295 := by
  have hb := big_lt t
  rw [ht] at hb
  have hr := reg_lt a (r := 4294967295) (by decide)
  have e : Tn (8 * (a ++ t).length) (4294967295 ^^^ big (a ++ t)) = Tn 32 (reg a 4294967295 ^^^ big t) := by
    rw [← reg_big, reg_append, reg_big t, ht]
  rw [e]
  constructor
  · intro h
    rw [← h]; unfold crc
    rw [← Nat.xor_assoc, Nat.xor_self, Nat.zero_xor]
  · intro h
    have := Tn_inj 32 (Nat.xor_lt_two_pow (n := 32) hr (by omega)) (by decide) h
    unfold crc
    generalize reg a 4294967295 = R at this
    conv => lhs; rhs; rw [← this]
    rw [← Nat.xor_assoc, Nat.xor_self, Nat.zero_xor]
end Go.Proofs.YtopebghandojbaaGreat
