import Derived.Test.YtmemelamgldpcaaVf
namespace Go.Proofs.Ytmemelamgldpcaa
open Go.RowKit

set_option maxRecDepth 100000 in
set_option maxHeartbeats 1000000 in
theorem meets_walk (n a b : Int) (w : World) : Calls Try.prog 6 #[.int .i64 n, .int .i64 a, .int .i64 b] w fun e w' => e = .returned (.bool true) ∧ Below w.heap.size w w' := by
  obtain ⟨m, hm⟩ : ∃ m, m = enoR n := ⟨_, rfl⟩
  obtain ⟨e0, he0⟩ : ∃ e0, e0 = enoE n := ⟨_, rfl⟩
  have C1 := hid (fun W => enough_any n W)
  rw [← hm, ← he0] at C1
  rcases hn : nod n with _ | _
  · have x1 : m = 0 := by rw [hm]; unfold enoR; rw [hn]; rfl
    have x2 : e0 = 1 := by rw [he0]; unfold enoE; rw [hn]; rfl
    subst x1 x2
    clear hm he0
    go_enter Try.func6, Try.ntmps6
    go_wp2_with (first
      | (go_at_call 9; refine (C1.out _).mono ?_; rintro e w' ⟨rfl, he⟩; have he := he.symm; subst he)
      | (go_at_call 14; refine (speaks_any _).mono ?_; rintro e w' ⟨rfl, hB⟩))
    go_ret
    exact ⟨rfl, hB⟩
  · have hN := (nod_iff n).1 hn
    have x1 : m = n / 2 + 1 := by rw [hm]; unfold enoR; rw [hn]; rfl
    have x2 : e0 = 0 := by rw [he0]; unfold enoE; rw [hn]; rfl
    subst x2
    have y1 : 2 * m = n + 1 := by omega
    have y2 : 0 ≤ m ∧ m ≤ 4 := by omega
    have y3 : 1 ≤ n ∧ n ≤ 7 := by omega
    replace y1 := hid y1
    clear x1 hm he0 hN hn
    go_enter Try.func6, Try.ntmps6
    go_wp2_with (first
      | (go_at_call 9; refine (C1.out _).mono ?_; rintro e w' ⟨rfl, he⟩; have he := he.symm; subst he))
    go_loopw [12, 9, 10, 11] (fun i p q c wr => ∃ k P Q C : Int, i = .int .i64 k ∧ p = .int .i64 P ∧ q = .int .i64 Q ∧ c = .int .i64 C ∧ (0 ≤ k ∧ k ≤ n) ∧ (0 ≤ P ∧ P ≤ k) ∧ (0 ≤ Q ∧ Q ≤ k) ∧ (0 ≤ C ∧ C ≤ k) ∧ Hid (P + Q ≤ k + C) ∧ Hid (wr = w)) (fun i _ _ _ _ => (n - intOf i).toNat)
    case atStart => exact ⟨0, 0, 0, 0, rfl, rfl, rfl, rfl, by omega, by omega, by omega, by omega, hid (by omega), hid rfl⟩
    case round =>
      obtain ⟨k, P, Q, C, rfl, rfl, rfl, rfl, hk, hP, hQ, hC, HS, HW⟩ := hrel
      by_cases hlt : k < n
      · go_upto_region 10 with fail
        go_cut [12, 13] from 27 to 55 (fun k' x wx => (∃ X : Bool, x = .bool X) ∧ k' = .int .i64 k ∧ wr = wx)
        case first =>
          go_wp2
          go_meet
          exact ⟨⟨_, rfl⟩, rfl, rfl⟩
        case rest =>
          obtain ⟨⟨X, rfl⟩, rfl, hww⟩ := hcut
          subst hww
          go_upto_region 11 with fail
          go_cut [12, 14] from 27 to 55 (fun k' x wx => (∃ X : Bool, x = .bool X) ∧ k' = .int .i64 k ∧ wr = wx)
          case first =>
            go_wp2
            go_meet
            exact ⟨⟨_, rfl⟩, rfl, rfl⟩
          case rest =>
            obtain ⟨⟨Y, rfl⟩, rfl, hww⟩ := hcut
            subst hww
            rcases X with _ | _ <;> rcases Y with _ | _
            · go_wp2
              go_roundw
              case rel => exact ⟨k + 1, P, Q, C, by simp, rfl, rfl, rfl, by omega, by omega, by omega, by omega, hid (by have := HS.out; omega), HW⟩
              case measure => simp [intOf]; omega
            · go_wp2
              go_roundw
              case rel => exact ⟨k + 1, P, Q + 1, C, by simp, rfl, by simp, rfl, by omega, by omega, by omega, by omega, hid (by have := HS.out; omega), HW⟩
              case measure => simp [intOf]; omega
            · go_wp2
              go_roundw
              case rel => exact ⟨k + 1, P + 1, Q, C, by simp, by simp, rfl, rfl, by omega, by omega, by omega, by omega, hid (by have := HS.out; omega), HW⟩
              case measure => simp [intOf]; omega
            · go_wp2
              go_roundw
              case rel => exact ⟨k + 1, P + 1, Q + 1, C + 1, by simp, by simp, by simp, by simp, by omega, by omega, by omega, by omega, hid (by have := HS.out; omega), HW⟩
              case measure => simp [intOf]; omega
      · have hkn : k = n := by omega
        have hw := HW.out
        subst hw
        have hc : P < m ∨ (¬ P < m ∧ Q < m) ∨ (¬ P < m ∧ ¬ Q < m ∧ 0 < C) := by have := HS.out; have := y1.out; omega
        replace hkn := hid hkn
        rcases hc with h1 | ⟨h1, h2⟩ | ⟨h1, h2, h3⟩
        all_goals
          go_wp2_with (first
            | (go_at_call 14; refine (speaks_any _).mono ?_; rintro e w' ⟨rfl, hB⟩))
          go_ret
          exact ⟨rfl, hB⟩
end Go.Proofs.Ytmemelamgldpcaa
