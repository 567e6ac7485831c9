import Derived.Test.YtonejnbflkkapaaBits
import Derived.Test.YtonejnbflkkapaaRows
import Derived.WalkKit
import Derived.ProofKit
import Derived.WalkSpells
import Derived.Deep.QuietTactic
import Derived.BigQuiet
namespace Go.Proofs.Ytonejnbflkkapaa
open Go.RowKit

theorem ret_int {k : IntKind} {a b : Int} (h : a = b) : Ending.returned (.int k a) = .returned (.int k b) := by rw [h]
theorem ret_two {k l : IntKind} {a b c : Int} (h : a = b) : Ending.returned (.tuple #[.int k a, .int l c]) = .returned (.tuple #[.int k b, .int l c]) := by rw [h]

/-- how many bits a kind has -/
def wd (k : Int) : Nat := if k = 1 ∨ k = 5 then 8 else if k = 2 ∨ k = 6 then 16 else if k = 3 ∨ k = 7 then 32 else if k = 4 ∨ k = 8 then 64 else 0
/-- a number as a kind has it -/
def asK (k n : Int) : Int :=
  if k = 1 then (if 128 ≤ n % 256 then n % 256 - 256 else n % 256)
  else if k = 2 then (if 32768 ≤ n % 65536 then n % 65536 - 65536 else n % 65536)
  else if k = 3 then (if 2147483648 ≤ n % 4294967296 then n % 4294967296 - 4294967296 else n % 4294967296)
  else if k = 5 then n % 256 else if k = 6 then n % 65536 else if k = 7 then n % 4294967296 else n

theorem neg8 (n : Int) : IntKind.i8.wrap n < 0 ↔ 128 ≤ n % 256 := by
  simp [IntKind.wrap, IntKind.bits, IntKind.signed]; split <;> omega
theorem neg16 (n : Int) : IntKind.i16.wrap n < 0 ↔ 32768 ≤ n % 65536 := by
  simp [IntKind.wrap, IntKind.bits, IntKind.signed]; split <;> omega
theorem neg32 (n : Int) : wrap32 n < 0 ↔ 2147483648 ≤ n % 4294967296 := by
  unfold wrap32; omega
theorem asK_1 (n : Int) : asK 1 n = if 128 ≤ n % 256 then n % 256 - 256 else n % 256 := by simp [asK]
theorem asK_2 (n : Int) : asK 2 n = if 32768 ≤ n % 65536 then n % 65536 - 65536 else n % 65536 := by simp [asK]
theorem asK_3 (n : Int) : asK 3 n = if 2147483648 ≤ n % 4294967296 then n % 4294967296 - 4294967296 else n % 4294967296 := by simp [asK]
theorem asK_5 (n : Int) : asK 5 n = n % 256 := by simp [asK]
theorem asK_6 (n : Int) : asK 6 n = n % 65536 := by simp [asK]
theorem asK_7 (n : Int) : asK 7 n = n % 4294967296 := by simp [asK]
theorem asK_4 (n : Int) : asK 4 n = n := by simp [asK]
theorem asK_8 (n : Int) : asK 8 n = n := by simp [asK]

theorem asK_1p (n : Int) (h : IntKind.i8.wrap n < 0) : n % 256 - 256 = asK 1 n := by rw [asK_1, if_pos ((neg8 n).1 h)]
theorem asK_1n (n : Int) (h : 0 ≤ IntKind.i8.wrap n) : n % 256 = asK 1 n := by rw [asK_1, if_neg (fun g => by have := (neg8 n).2 g; omega)]
theorem u16w (n : Int) : IntKind.u16.wrap n = n % 65536 := by simp [IntKind.wrap, IntKind.bits, IntKind.signed]
theorem asK_2p (n : Int) (h : IntKind.i16.wrap n < 0) : wrap64 (wrap64 (IntKind.u16.wrap n) - 65536) = asK 2 n := by rw [asK_2, if_pos ((neg16 n).1 h), u16w]; unfold wrap64; omega
theorem asK_2n (n : Int) (h : 0 ≤ IntKind.i16.wrap n) : wrap64 (wrap64 (IntKind.u16.wrap n)) = asK 2 n := by rw [asK_2, if_neg (fun g => by have := (neg16 n).2 g; omega), u16w]; unfold wrap64; omega
theorem asK_6w (n : Int) : wrap64 (wrap64 (IntKind.u16.wrap n)) = asK 6 n := by rw [asK_6, u16w]; unfold wrap64; omega
theorem asK_3p (n : Int) (h : wrap32 n < 0) : n % 4294967296 - 4294967296 = asK 3 n := by rw [asK_3, if_pos ((neg32 n).1 h)]
theorem asK_3n (n : Int) (h : 0 ≤ wrap32 n) : n % 4294967296 = asK 3 n := by rw [asK_3, if_neg (fun g => by have := (neg32 n).2 g; omega)]
theorem isKind_any (k : Int) (w : World) : Calls Try.prog 24 #[.int .i64 k] w fun e w' => e = .returned (.bool (decide (1 ≤ k ∧ k ≤ 8))) ∧ w' = w := by
  by_cases h1 : 1 ≤ k
  · by_cases h2 : k ≤ 8
    · go_enter Try.func24, Try.ntmps24
      go_wp2
      go_ret
      exact ⟨by simp [h1, h2], rfl⟩
    · go_enter Try.func24, Try.ntmps24
      go_wp2
      go_ret
      exact ⟨by simp [h2], rfl⟩
  · go_enter Try.func24, Try.ntmps24
    go_wp2
    go_ret
    exact ⟨by simp; omega, rfl⟩

theorem as_any (k n : Int) (h1 : 1 ≤ k) (h8 : k ≤ 8) (w : World) : Calls Try.prog 25 #[.int .i64 k, .int .i64 n] w fun e w' => e = .returned (.int .i64 (asK k n)) ∧ w' = w := by
  have hk : k = 1 ∨ k = 2 ∨ k = 3 ∨ k = 4 ∨ k = 5 ∨ k = 6 ∨ k = 7 ∨ k = 8 := by omega
  clear h1 h8
  rcases hk with rfl | rfl | rfl | rfl | rfl | rfl | rfl | rfl
  · by_cases h : IntKind.i8.wrap n < 0
    · go_enter Try.func25, Try.ntmps25
      go_wp2
      go_ret
      exact ⟨ret_int (asK_1p n h), rfl⟩
    · go_enter Try.func25, Try.ntmps25
      go_wp2
      go_ret
      exact ⟨ret_int (asK_1n n h), rfl⟩
  · by_cases h : IntKind.i16.wrap n < 0
    · go_enter Try.func25, Try.ntmps25
      go_wp2
      go_ret
      exact ⟨ret_int (asK_2p n h), rfl⟩
    · go_enter Try.func25, Try.ntmps25
      go_wp2
      go_ret
      exact ⟨ret_int (asK_2n n h), rfl⟩
  · by_cases h : wrap32 n < 0
    · go_enter Try.func25, Try.ntmps25
      go_wp2
      go_ret
      exact ⟨ret_int (asK_3p n h), rfl⟩
    · go_enter Try.func25, Try.ntmps25
      go_wp2
      go_ret
      exact ⟨ret_int (asK_3n n h), rfl⟩
  · go_enter Try.func25, Try.ntmps25
    go_wp2
    go_ret
    exact ⟨ret_int (by rw [asK_4]), rfl⟩
  · go_enter Try.func25, Try.ntmps25
    go_wp2
    go_ret
    exact ⟨ret_int (by rw [asK_5]), rfl⟩
  · go_enter Try.func25, Try.ntmps25
    go_wp2
    go_ret
    exact ⟨ret_int (asK_6w n), rfl⟩
  · go_enter Try.func25, Try.ntmps25
    go_wp2
    go_ret
    exact ⟨ret_int (by rw [asK_7]), rfl⟩
  · go_enter Try.func25, Try.ntmps25
    go_wp2
    go_ret
    exact ⟨ret_int (by rw [asK_8]), rfl⟩

theorem to_yes (k n : Int) (h1 : 1 ≤ k) (h8 : k ≤ 8) (w : World) : Calls Try.prog 9 #[.int .i64 k, .int .i64 n] w fun e w' => e = .returned (.tuple #[.int .i64 (asK k n), .int .i64 0]) ∧ w' = w := by
  have hd : decide (1 ≤ k ∧ k ≤ 8) = true := by simp [h1, h8]
  go_enter Try.func9, Try.ntmps9
  go_wp2_with (first | (go_at_call 24; refine (isKind_any _ _).mono ?_; rintro e w' ⟨rfl, rfl⟩; rw [hd]) | (go_at_call 25; refine (as_any _ _ h1 h8 _).mono ?_; rintro e w' ⟨rfl, rfl⟩))
  go_ret2
  exact ⟨rfl, rfl⟩
theorem to_no (k n : Int) (h : ¬ (1 ≤ k ∧ k ≤ 8)) (w : World) : Calls Try.prog 9 #[.int .i64 k, .int .i64 n] w fun e w' => e = .returned (.tuple #[.int .i64 0, .int .i64 1]) ∧ w' = w := by
  have hd : decide (1 ≤ k ∧ k ≤ 8) = false := decide_eq_false h
  go_enter Try.func9, Try.ntmps9
  go_wp2_with (first | (go_at_call 24; refine (isKind_any _ _).mono ?_; rintro e w' ⟨rfl, rfl⟩; rw [hd]))
  go_ret2
  exact ⟨rfl, rfl⟩
end Go.Proofs.Ytonejnbflkkapaa
