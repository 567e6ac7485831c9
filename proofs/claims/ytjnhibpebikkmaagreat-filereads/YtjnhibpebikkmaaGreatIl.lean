import Derived.Test.YtjnhibpebikkmaaGreatIk
import Derived.Maps.Own
import Derived.Maps.OwnOps
import Derived.Maps.OwnSet
import Derived.Maps.Views
import Derived.Maps.Ext
import Derived.DeepKeys4
import Derived.WideKeyEntry
namespace Go.Proofs.YtjnhibpebikkmaaGreat
open Go.RowKit Go.Maps

/-- what Place answers -/
def plE (i : Int) : Int := if isIx i then 0 else 1
def pl0 (i : Int) : Int := if isIx i then lvl i else 0
def pl1 (i : Int) : Int := if isIx i then fst i else 0
def pl2 (i : Int) : Int := if isIx i then snd i else 0
theorem ix_nat {i : Int} (h : isIx i = true) : ∃ n : Nat, i = n ∧ n < 4166 := by
  have := of_decide_eq_true h
  exact ⟨i.toNat, by omega, by omega⟩
theorem lvl_cases (i : Nat) : (i < 6 ∧ lvl i = 0 ∧ fst i = i ∧ snd i = 0) ∨ (6 ≤ i ∧ i < 70 ∧ lvl i = 1 ∧ fst i = (i : Int) - 6 ∧ snd i = 0) ∨ (70 ≤ i ∧ lvl i = 2 ∧ fst i = ((i : Int) - 70) / 64 ∧ snd i = ((i : Int) - 70) % 64) := by
  unfold lvl fst snd
  by_cases h1 : i < 6
  · left; rw [if_pos (by omega), if_pos (by omega), if_pos (by omega)]; exact ⟨h1, rfl, rfl, rfl⟩
  · by_cases h2 : i < 70
    · right; left; rw [if_neg (by omega), if_pos (by omega), if_neg (by omega), if_pos (by omega), if_neg (by omega), if_pos (by omega)]; exact ⟨by omega, h2, rfl, rfl, rfl⟩
    · right; right; rw [if_neg (by omega), if_neg (by omega), if_neg (by omega), if_neg (by omega), if_neg (by omega), if_neg (by omega)]; exact ⟨by omega, rfl, rfl, rfl⟩
set_option maxRecDepth 100000 in
theorem place_any (i : Int) (w : World) : Calls Tryz.prog 106 #[.int .i64 i] w fun e w' => e = .returned (.tuple #[.int .i64 (pl0 i), .int .i64 (pl1 i), .int .i64 (pl2 i), .int .i64 (plE i)]) ∧ Below w.heap.size w w' := by
  have HI := hid (isIndex_any i)
  cases h : isIx i with
  | false =>
    rw [h] at HI
    unfold pl0 pl1 pl2 plE
    rw [h]
    simp only [Bool.false_eq_true, if_false]
    clear h
    go_enter Tryz.func106, Tryz.ntmps106
    go_wp2_with (first | (go_at_call 124; refine (HI.out _).mono ?_; rintro e w1 ⟨rfl, rfl⟩))
    go_returns
    exact ⟨rfl, Below.refl _ _⟩
  | true =>
    rw [h] at HI
    unfold pl0 pl1 pl2 plE
    rw [h]
    simp only [if_true]
    obtain ⟨n, rfl, hn⟩ := ix_nat h
    have HP := hid (placeOf_any n hn)
    clear h
    obtain ⟨a, ha⟩ : ∃ a, a = lvl n := ⟨_, rfl⟩
    obtain ⟨b, hb⟩ : ∃ a, a = fst n := ⟨_, rfl⟩
    obtain ⟨c, hc⟩ : ∃ a, a = snd n := ⟨_, rfl⟩
    rw [← ha, ← hb, ← hc] at HP ⊢
    clear ha hb hc
    go_enter Tryz.func106, Tryz.ntmps106
    go_wp2_with (first | (go_at_call 124; refine (HI.out _).mono ?_; rintro e w1 ⟨rfl, rfl⟩) | (go_at_call 125; refine (HP.out _).mono ?_; rintro e w2 ⟨rfl, hb2⟩))
    go_quiet ((fail))
    go_wp2
    go_returns
    exact ⟨rfl, (hb2.next (below_alloc _ _)).dN _⟩
set_option maxRecDepth 100000 in
theorem rplace_ok (n : Nat) (hn : n < 4166) (w : World) : Calls Tryz.prog 45 #[.int .i64 n] w fun e w' => e = .returned (.tuple #[.int .i64 (lvl n), .int .i64 (fst n), .int .i64 (snd n), .int .i64 0]) ∧ w' = w := by
  rcases lvl_cases n with ⟨h1, e1, e2, e3⟩ | ⟨h0, h1, e1, e2, e3⟩ | ⟨h1, e1, e2, e3⟩
  · rw [e1, e2, e3]
    clear e1 e2 e3
    go_enter Tryz.func45, Tryz.ntmps45
    go_wp2
    go_returns
    exact ⟨rfl, rfl⟩
  · rw [e1, e2, e3]
    clear e1 e2 e3
    go_enter Tryz.func45, Tryz.ntmps45
    go_wp2
    go_returns
    exact ⟨rfl, rfl⟩
  · rw [e1, e2, e3]
    clear e1 e2 e3
    obtain ⟨m, rfl⟩ : ∃ m, n = 70 + m := ⟨n - 70, by omega⟩
    go_enter Tryz.func45, Tryz.ntmps45
    go_wp2
    go_loop [0, 6] (fun x a => ∃ j : Nat, 64 * j ≤ m ∧ x = .int .i64 ((m : Int) - 64 * j) ∧ a = .int .i64 j) (fun x _ => (intOf x).toNat)
    case atStart => exact ⟨0, by omega, by simp; omega, rfl⟩
    case round =>
      obtain ⟨j, hj, rfl, rfl⟩ := hrel
      by_cases hlt : 64 * (j + 1) ≤ m
      · go_wp2
        go_round
        case rel => exact ⟨j + 1, hlt, by simp; omega, by go_num⟩
        case measure => simp [intOf]; omega
      · go_wp2
        go_returns
        exact ⟨by simp; omega, rfl⟩
set_option maxRecDepth 100000 in
theorem rplace_any (i : Int) (w : World) : Calls Tryz.prog 45 #[.int .i64 i] w fun e w' => e = .returned (.tuple #[.int .i64 (pl0 i), .int .i64 (pl1 i), .int .i64 (pl2 i), .int .i64 (plE i)]) ∧ w' = w := by
  cases h : isIx i with
  | false =>
    unfold pl0 pl1 pl2 plE
    rw [h]
    simp only [Bool.false_eq_true, if_false]
    have h' := of_decide_eq_false h
    rcases (show i < 0 ∨ (¬ i < 0 ∧ 4166 ≤ i) by omega) with h1 | ⟨h1, h2⟩
    · clear h h'
      go_enter Tryz.func45, Tryz.ntmps45
      go_wp2
      go_returns
      exact ⟨rfl, rfl⟩
    · clear h h'
      go_enter Tryz.func45, Tryz.ntmps45
      go_wp2
      go_returns
      exact ⟨rfl, rfl⟩
  | true =>
    obtain ⟨n, rfl, hn⟩ := ix_nat h
    unfold pl0 pl1 pl2 plE
    rw [h]
    exact rplace_ok n hn w
end Go.Proofs.YtjnhibpebikkmaaGreat
