import Derived.Test.YtjnhibpebikkmaaGreatIl
namespace Go.Proofs.YtjnhibpebikkmaaGreat
open Go.RowKit Go.Maps

def parE (b : ByteArray) (k m : Int) : Int := if b.size = 128 then (if 0 ≤ k ∧ k < m then 0 else 6) else 4
theorem par_cases (b : ByteArray) (k m : Int) : (b.size ≠ 128 ∧ parE b k m = 4) ∨ (b.size = 128 ∧ ((k < 0 ∧ parE b k m = 6) ∨ (¬ k < 0 ∧ m ≤ k ∧ parE b k m = 6) ∨ (∃ n : Nat, k = n ∧ (n : Int) < m ∧ parE b k m = 0))) := by
  unfold parE
  by_cases h : b.size = 128
  · right
    refine ⟨h, ?_⟩
    rw [if_pos h]
    by_cases h1 : k < 0
    · left; exact ⟨h1, by rw [if_neg (by omega)]⟩
    · by_cases h2 : k < m
      · right; right; exact ⟨k.toNat, by omega, by omega, by rw [if_pos (by omega)]⟩
      · right; left; exact ⟨h1, by omega, by rw [if_neg (by omega)]⟩
  · left; exact ⟨h, by rw [if_neg h]⟩
set_option maxRecDepth 100000 in
theorem checkPart_any (b : ByteArray) (k m : Int) (w : World) : Calls Tryz.prog 68 #[.string b, .int .i64 k, .int .i64 m] w fun e w' => e = .returned (.int .i64 (parE b k m)) ∧ w' = w := by
  rcases par_cases b k m with ⟨h, e⟩ | ⟨h, ⟨h1, e⟩ | ⟨h1, h2, e⟩ | ⟨n, rfl, h1, e⟩⟩
  all_goals
    rw [e]
    clear e
    go_enter Tryz.func68, Tryz.ntmps68
    go_wp2
    go_ret
    exact ⟨rfl, rfl⟩
set_option maxRecDepth 100000 in
theorem part32 (b : ByteArray) (k : Nat) (hb : b.size = 128) (hk : k < 4) (w : World) : Calls Tryz.prog 70 #[.string b, .int .i64 k, .int .i64 32] w fun e w' => e = .returned (.string (b.extract (32 * k) (32 * k + 32))) ∧ w' = w := by
  have e1 : ((k : Int) * 32).toNat = 32 * k := by omega
  have e2 : (((k : Int) + 1) * 32).toNat = 32 * k + 32 := by omega
  go_enter Tryz.func70, Tryz.ntmps70
  go_wp2
  go_ret
  exact ⟨by first | rfl | (rw [e1, e2]; rfl), rfl⟩
set_option maxRecDepth 100000 in
theorem part2 (b : ByteArray) (k : Nat) (hb : b.size = 128) (hk : k < 64) (w : World) : Calls Tryz.prog 70 #[.string b, .int .i64 k, .int .i64 2] w fun e w' => e = .returned (.string (b.extract (2 * k) (2 * k + 2))) ∧ w' = w := by
  have e1 : ((k : Int) * 2).toNat = 2 * k := by omega
  have e2 : (((k : Int) + 1) * 2).toNat = 2 * k + 2 := by omega
  go_enter Tryz.func70, Tryz.ntmps70
  go_wp2
  go_ret
  exact ⟨by first | rfl | (rw [e1, e2]; rfl), rfl⟩
set_option maxRecDepth 100000 in
theorem with_q (b s : ByteArray) (k k1 z lo hi : Nat) (hb : b.size = 128) (hs : s.size = z) (h1 : IntKind.i64.wrap ((k : Int) * z) = (lo : Int)) (h2 : IntKind.i64.wrap ((k : Int) + 1) = (k1 : Int)) (h3 : IntKind.i64.wrap ((k1 : Int) * z) = (hi : Int)) (l1 : lo ≤ 128) (l2 : hi ≤ 128) (hz : z ≤ 128) (w : World) :
    Calls Tryz.prog 80 #[.string b, .int .i64 k, .string s] w fun e w' => e = .returned (.string (b.extract 0 lo ++ s ++ b.extract hi 128)) ∧ ∃ m, w' = w.drewN m := by
  have l1' : (lo : Int) ≤ 128 := by omega
  have l2' : (hi : Int) ≤ 128 := by omega
  have z1 : (b.extract 0 lo).size = lo := by simp; omega
  have z2 : (b.extract hi 128).size = 128 - hi := by simp; omega
  go_enter Tryz.func80, Tryz.ntmps80
  go_wp2
  go_quiet ((fail))
  go_wp2
  go_ret
  exact ⟨rfl, _, rfl⟩
theorem with_any (b s : ByteArray) (k z : Nat) (hb : b.size = 128) (hs : s.size = z) (hz : z ≠ 0) (hk : (k + 1) * z ≤ 128) (w : World) : Calls Tryz.prog 80 #[.string b, .int .i64 k, .string s] w fun e w' => e = .returned (.string (b.extract 0 (k * z) ++ s ++ b.extract ((k + 1) * z) 128)) ∧ ∃ m, w' = w.drewN m := by
  have e1 : k * z ≤ (k + 1) * z := Nat.mul_le_mul_right _ (by omega)
  · have e2 : k ≤ k * z := Nat.le_mul_of_pos_right k (by omega)
    have e3 : z ≤ (k + 1) * z := Nat.le_mul_of_pos_left z (by omega)
    refine with_q b s k (k + 1) z (k * z) ((k + 1) * z) hb hs ?_ ?_ ?_ (by omega) hk (by omega) w
    · have : ((k : Int) * z) = ((k * z : Nat) : Int) := by simp
      rw [this, IntKind.wrap_i64]; omega
    · rw [IntKind.wrap_i64]; omega
    · have : (((k + 1 : Nat) : Int) * z) = (((k + 1) * z : Nat) : Int) := by simp
      rw [this, IntKind.wrap_i64]; omega
end Go.Proofs.YtjnhibpebikkmaaGreat
