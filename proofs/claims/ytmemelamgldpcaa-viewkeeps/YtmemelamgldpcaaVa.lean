import Derived.Test.YtmemelamgldpcaaRows
import Derived.RowKit
import Derived.OpenShut
import Derived.OneCell
import Derived.Below
import Derived.Deep.Draws
import Derived.WalkKit
import Derived.ProofKit
import Derived.WalkSpells
import Derived.WalkSmall
import Derived.Handy
import Derived.Deep.QuietTactic
import Derived.BigQuiet
import Derived.BigRegion
import Derived.Deep.RegionWith
import Derived.Deep.DeepCutAuto
import Derived.Deep.DeepFit
import Derived.Deep.CutBlock
namespace Go.Proofs.Ytmemelamgldpcaa
open Go.RowKit

theorem hid {p : Prop} (h : p) : Hid p := h
/-- from 0 up to m -/
def up (n m : Int) : Bool := decide (0 ≤ n ∧ n ≤ m)
/-- a number of nodes -/
def nod (n : Int) : Bool := decide (n = 1 ∨ n = 3 ∨ n = 5 ∨ n = 7)
set_option maxRecDepth 100000 in
theorem isUpTo_any (n m : Int) (w : World) : Calls Try.prog 24 #[.int .i64 n, .int .i64 m] w fun e w' => e = .returned (.bool (up n m)) ∧ w' = w := by
  unfold up
  by_cases h : 0 ≤ n
  · by_cases h1 : n ≤ m
    · rw [decide_eq_true (show 0 ≤ n ∧ n ≤ m by omega)]
      go_enter Try.func24, Try.ntmps24
      go_wp2
      go_ret
      exact ⟨rfl, rfl⟩
    · rw [decide_eq_false (show ¬ (0 ≤ n ∧ n ≤ m) by omega)]
      go_enter Try.func24, Try.ntmps24
      go_wp2
      go_ret
      exact ⟨rfl, rfl⟩
  · rw [decide_eq_false (show ¬ (0 ≤ n ∧ n ≤ m) by omega)]
    go_enter Try.func24, Try.ntmps24
    go_wp2
    go_ret
    exact ⟨rfl, rfl⟩
set_option maxRecDepth 100000 in
theorem nodes_any (n : Int) (w : World) : Calls Try.prog 23 #[.int .i64 n] w fun e w' => e = .returned (.bool (nod n)) ∧ w' = w := by
  by_cases hu : 0 ≤ n ∧ n ≤ 7
  · have hc : n = 0 ∨ n = 1 ∨ n = 2 ∨ n = 3 ∨ n = 4 ∨ n = 5 ∨ n = 6 ∨ n = 7 := by omega
    rcases hc with rfl | rfl | rfl | rfl | rfl | rfl | rfl | rfl
    all_goals
      unfold nod
      go_enter Try.func23, Try.ntmps23
      go_wp2_with (first | (go_at_call 24; refine (isUpTo_any _ _ _).mono ?_; rintro e w' ⟨rfl, rfl⟩; simp only [up]))
      go_ret
      exact ⟨rfl, rfl⟩
  · have hn : nod n = false := by unfold nod; exact decide_eq_false (by omega)
    have hf : up n 7 = false := by unfold up; exact decide_eq_false hu
    rw [hn]
    clear hn
    go_enter Try.func23, Try.ntmps23
    go_wp2_with (first | (go_at_call 24; refine (isUpTo_any _ _ _).mono ?_; rintro e w' ⟨rfl, rfl⟩; rw [hf]))
    go_ret
    exact ⟨rfl, rfl⟩
set_option maxRecDepth 100000 in
theorem rnodes_any (n : Int) (w : World) : Calls Try.prog 13 #[.int .i64 n] w fun e w' => e = .returned (.bool (nod n)) ∧ w' = w := by
  by_cases hc : n = 1 ∨ n = 3 ∨ n = 5 ∨ n = 7
  · rcases hc with rfl | rfl | rfl | rfl
    all_goals
      unfold nod
      go_enter Try.func13, Try.ntmps13
      go_wp2
      go_ret
      exact ⟨rfl, rfl⟩
  · have hn : nod n = false := by unfold nod; exact decide_eq_false hc
    rw [hn]
    have h1 : (n == 1) = false := by simp; omega
    have h3 : (n == 3) = false := by simp; omega
    have h5 : (n == 5) = false := by simp; omega
    have h7 : (n == 7) = false := by simp; omega
    clear hn hc
    go_enter Try.func13, Try.ntmps13
    go_wp2
    go_ret
    exact ⟨rfl, rfl⟩
theorem nod_iff (n : Int) : nod n = true ↔ n = 1 ∨ n = 3 ∨ n = 5 ∨ n = 7 := by unfold nod; exact decide_eq_true_iff
/-- how many are enough -/
def enoR (n : Int) : Int := if nod n then n / 2 + 1 else 0
def enoE (n : Int) : Int := if nod n then 0 else 1
set_option maxRecDepth 100000 in
theorem enough_any (n : Int) (w : World) : Calls Try.prog 9 #[.int .i64 n] w fun e w' => e = .returned (.tuple #[.int .i64 (enoR n), .int .i64 (enoE n)]) ∧ w' = w := by
  unfold enoR enoE
  by_cases hn : nod n = true
  · rw [if_pos hn, if_pos hn]
    rcases (nod_iff n).1 hn with rfl | rfl | rfl | rfl
    all_goals
      go_enter Try.func9, Try.ntmps9
      go_wp2_with (first | (go_at_call 23; refine (nodes_any _ _).mono ?_; rintro e w' ⟨rfl, rfl⟩; rw [hn]))
      go_ret2
      exact ⟨rfl, rfl⟩
  · rw [if_neg hn, if_neg hn]
    have hf : nod n = false := by simpa using hn
    clear hn
    go_enter Try.func9, Try.ntmps9
    go_wp2_with (first | (go_at_call 23; refine (nodes_any _ _).mono ?_; rintro e w' ⟨rfl, rfl⟩; rw [hf]))
    go_ret2
    exact ⟨rfl, rfl⟩
/-- a view's primary -/
def priR (n v : Int) : Int := if nod n && up v 1099511627776 then v % n else 0
def priE (n v : Int) : Int := if nod n && up v 1099511627776 then 0 else 1
theorem up_iff (n m : Int) : up n m = true ↔ 0 ≤ n ∧ n ≤ m := by unfold up; exact decide_eq_true_iff
set_option maxRecDepth 100000 in
theorem primary_any (n v : Int) (w : World) : Calls Try.prog 10 #[.int .i64 n, .int .i64 v] w fun e w' => e = .returned (.tuple #[.int .i64 (priR n v), .int .i64 (priE n v)]) ∧ w' = w := by
  unfold priR priE
  rcases hn : nod n with _ | _
  · simp only [Bool.false_and, Bool.false_eq_true, if_false]
    go_enter Try.func10, Try.ntmps10
    go_wp2_with (first | (go_at_call 23; refine (nodes_any _ _).mono ?_; rintro e w' ⟨rfl, rfl⟩; rw [hn]))
    go_ret2
    exact ⟨rfl, rfl⟩
  · rcases hv : up v 1099511627776 with _ | _
    · simp only [Bool.and_false, Bool.false_eq_true, if_false]
      go_enter Try.func10, Try.ntmps10
      go_wp2_with (first | (go_at_call 23; refine (nodes_any _ _).mono ?_; rintro e w' ⟨rfl, rfl⟩; rw [hn]) | (go_at_call 24; refine (isUpTo_any _ _ _).mono ?_; rintro e w' ⟨rfl, rfl⟩; rw [hv]))
      go_ret2
      exact ⟨rfl, rfl⟩
    · simp only [Bool.and_self, if_true]
      have hv' := (up_iff _ _).1 hv
      obtain ⟨x, hx⟩ : ∃ x, x = v % n := ⟨_, rfl⟩
      have hb : n = 1 ∨ n = 3 ∨ n = 5 ∨ n = 7 := (nod_iff n).1 hn
      have hm : v.tmod n = x := by rw [Int.tmod_eq_emod_of_nonneg hv'.1, hx]
      have hw : IntKind.i64.wrap x = x := by rw [IntKind.wrap_i64] <;> rcases hb with rfl | rfl | rfl | rfl <;> omega
      have hz : (n == 0) = false := by rcases hb with rfl | rfl | rfl | rfl <;> rfl
      rw [← hx]
      replace hx := hid hx
      clear hv'
      rcases hb with rfl | rfl | rfl | rfl
      all_goals
        go_enter Try.func10, Try.ntmps10
        go_wp2_with (first | (go_at_call 23; refine (nodes_any _ _).mono ?_; rintro e w' ⟨rfl, rfl⟩; rw [hn]) | (go_at_call 24; refine (isUpTo_any _ _ _).mono ?_; rintro e w' ⟨rfl, rfl⟩; rw [hv]))
        go_ret2
        exact ⟨rfl, rfl⟩
end Go.Proofs.Ytmemelamgldpcaa
