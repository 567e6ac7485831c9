import Derived.Test.YtjnhibpebikkmaaGreatRows
import Derived.RowKit
import Derived.OpenShut
import Derived.Lib.AppendStr
import Derived.Lib.Strings
import Derived.OneCell
import Derived.Below
import Derived.Deep.Draws
import Derived.WalkKit
import Derived.ProofKit
import Derived.WalkSpells
import Derived.WalkSmall
import Derived.Handy
import Derived.Deep.QuietTactic
import Derived.BigQuiet
import Derived.BigRegion
import Derived.Laws.BytesArg
import Derived.Deep.RegionWith
import Derived.Deep.RegionLaw
import Derived.Deep.DeepCutAuto
import Derived.Deep.DeepFit
import Derived.Deep.CutBlock
namespace Go.Proofs.YtjnhibpebikkmaaGreat
open Go.RowKit

theorem hid {p : Prop} (h : p) : Hid p := h
/-- an inode: kind, links, size, six blocks, one of names, one of names of names -/
structure Ino where
  k : Int
  l : Int
  z : Int
  a : Int
  b : Int
  c : Int
  d : Int
  e : Int
  f : Int
  s : Int
  t : Int
  deriving DecidableEq
def Ino.v (n : Ino) : Value := .agg #[.int .i64 n.k, .int .i64 n.l, .int .i64 n.z, .int .i64 n.a, .int .i64 n.b, .int .i64 n.c, .int .i64 n.d, .int .i64 n.e, .int .i64 n.f, .int .i64 n.s, .int .i64 n.t]
def Ino.names (n : Ino) : Value := .agg #[.int .i64 n.a, .int .i64 n.b, .int .i64 n.c, .int .i64 n.d, .int .i64 n.e, .int .i64 n.f, .int .i64 n.s, .int .i64 n.t]
def lnk (k l : Int) : Bool := if k = 1 then decide (1 ≤ l ∧ l ≤ 100) else if k = 2 then decide (l = 1) else false
def okN (b : Int) : Bool := decide (0 ≤ b ∧ b < 1024)
set_option maxRecDepth 100000 in
theorem isName_any (b : Int) (w : World) : Calls Tryz.prog 85 #[.int .i64 b] w fun e w' => e = .returned (.bool (okN b)) ∧ w' = w := by
  unfold okN
  by_cases h : 0 ≤ b
  · by_cases h1 : b < 1024
    · rw [decide_eq_true (show 0 ≤ b ∧ b < 1024 by omega)]
      go_enter Tryz.func85, Tryz.ntmps85
      go_wp2
      go_ret
      exact ⟨rfl, rfl⟩
    · rw [decide_eq_false (show ¬ (0 ≤ b ∧ b < 1024) by omega)]
      go_enter Tryz.func85, Tryz.ntmps85
      go_wp2
      go_ret
      exact ⟨rfl, rfl⟩
  · rw [decide_eq_false (show ¬ (0 ≤ b ∧ b < 1024) by omega)]
    go_enter Tryz.func85, Tryz.ntmps85
    go_wp2
    go_ret
    exact ⟨rfl, rfl⟩
set_option maxRecDepth 100000 in
theorem isLinks_any (k l : Int) (w : World) : Calls Tryz.prog 61 #[.int .i64 k, .int .i64 l] w fun e w' => e = .returned (.bool (lnk k l)) ∧ w' = w := by
  have hc : (k = 1 ∧ 1 ≤ l ∧ l ≤ 100 ∧ lnk k l = true) ∨ (k = 1 ∧ ¬ 1 ≤ l ∧ lnk k l = false) ∨ (k = 1 ∧ 1 ≤ l ∧ ¬ l ≤ 100 ∧ lnk k l = false) ∨ (k = 2 ∧ l = 1 ∧ lnk k l = true) ∨ (k = 2 ∧ (l == 1) = false ∧ lnk k l = false) ∨ (¬ k = 1 ∧ ¬ k = 2 ∧ lnk k l = false) := by
    unfold lnk
    by_cases h1 : k = 1
    · simp [h1]; omega
    · by_cases h2 : k = 2
      · simp [h2]
        by_cases h3 : l = 1 <;> simp [h3]
      · simp [h1, h2]
  rcases hc with ⟨rfl, h1, h2, he⟩ | ⟨rfl, h1, he⟩ | ⟨rfl, h1, h2, he⟩ | ⟨rfl, rfl, he⟩ | ⟨rfl, h1, he⟩ | ⟨h1, h2, he⟩
  all_goals
    rw [he]
    clear he
    go_enter Tryz.func61, Tryz.ntmps61
    go_wp2
    go_ret
    exact ⟨rfl, rfl⟩
theorem ix6_0 (a b c d e f : Int) (w : World) : (Instr.index 31 (.agg #[.int .i64 a, .int .i64 b, .int .i64 c, .int .i64 d, .int .i64 e, .int .i64 f]) (.int .i64 0)).run Tryz.prog w = .ok (.int .i64 a) w := by kernel_rfl
theorem ix6_1 (a b c d e f : Int) (w : World) : (Instr.index 31 (.agg #[.int .i64 a, .int .i64 b, .int .i64 c, .int .i64 d, .int .i64 e, .int .i64 f]) (.int .i64 1)).run Tryz.prog w = .ok (.int .i64 b) w := by kernel_rfl
theorem ix6_2 (a b c d e f : Int) (w : World) : (Instr.index 31 (.agg #[.int .i64 a, .int .i64 b, .int .i64 c, .int .i64 d, .int .i64 e, .int .i64 f]) (.int .i64 2)).run Tryz.prog w = .ok (.int .i64 c) w := by kernel_rfl
theorem ix6_3 (a b c d e f : Int) (w : World) : (Instr.index 31 (.agg #[.int .i64 a, .int .i64 b, .int .i64 c, .int .i64 d, .int .i64 e, .int .i64 f]) (.int .i64 3)).run Tryz.prog w = .ok (.int .i64 d) w := by kernel_rfl
theorem ix6_4 (a b c d e f : Int) (w : World) : (Instr.index 31 (.agg #[.int .i64 a, .int .i64 b, .int .i64 c, .int .i64 d, .int .i64 e, .int .i64 f]) (.int .i64 4)).run Tryz.prog w = .ok (.int .i64 e) w := by kernel_rfl
theorem ix6_5 (a b c d e f : Int) (w : World) : (Instr.index 31 (.agg #[.int .i64 a, .int .i64 b, .int .i64 c, .int .i64 d, .int .i64 e, .int .i64 f]) (.int .i64 5)).run Tryz.prog w = .ok (.int .i64 f) w := by kernel_rfl
theorem ix8_0 (a b c d e f s t : Int) (w : World) : (Instr.index 110 (.agg #[.int .i64 a, .int .i64 b, .int .i64 c, .int .i64 d, .int .i64 e, .int .i64 f, .int .i64 s, .int .i64 t]) (.int .i64 0)).run Tryz.prog w = .ok (.int .i64 a) w := by kernel_rfl
theorem ix8_1 (a b c d e f s t : Int) (w : World) : (Instr.index 110 (.agg #[.int .i64 a, .int .i64 b, .int .i64 c, .int .i64 d, .int .i64 e, .int .i64 f, .int .i64 s, .int .i64 t]) (.int .i64 1)).run Tryz.prog w = .ok (.int .i64 b) w := by kernel_rfl
theorem ix8_2 (a b c d e f s t : Int) (w : World) : (Instr.index 110 (.agg #[.int .i64 a, .int .i64 b, .int .i64 c, .int .i64 d, .int .i64 e, .int .i64 f, .int .i64 s, .int .i64 t]) (.int .i64 2)).run Tryz.prog w = .ok (.int .i64 c) w := by kernel_rfl
theorem ix8_3 (a b c d e f s t : Int) (w : World) : (Instr.index 110 (.agg #[.int .i64 a, .int .i64 b, .int .i64 c, .int .i64 d, .int .i64 e, .int .i64 f, .int .i64 s, .int .i64 t]) (.int .i64 3)).run Tryz.prog w = .ok (.int .i64 d) w := by kernel_rfl
theorem ix8_4 (a b c d e f s t : Int) (w : World) : (Instr.index 110 (.agg #[.int .i64 a, .int .i64 b, .int .i64 c, .int .i64 d, .int .i64 e, .int .i64 f, .int .i64 s, .int .i64 t]) (.int .i64 4)).run Tryz.prog w = .ok (.int .i64 e) w := by kernel_rfl
theorem ix8_5 (a b c d e f s t : Int) (w : World) : (Instr.index 110 (.agg #[.int .i64 a, .int .i64 b, .int .i64 c, .int .i64 d, .int .i64 e, .int .i64 f, .int .i64 s, .int .i64 t]) (.int .i64 5)).run Tryz.prog w = .ok (.int .i64 f) w := by kernel_rfl
theorem ix8_6 (a b c d e f s t : Int) (w : World) : (Instr.index 110 (.agg #[.int .i64 a, .int .i64 b, .int .i64 c, .int .i64 d, .int .i64 e, .int .i64 f, .int .i64 s, .int .i64 t]) (.int .i64 6)).run Tryz.prog w = .ok (.int .i64 s) w := by kernel_rfl
theorem ix8_7 (a b c d e f s t : Int) (w : World) : (Instr.index 110 (.agg #[.int .i64 a, .int .i64 b, .int .i64 c, .int .i64 d, .int .i64 e, .int .i64 f, .int .i64 s, .int .i64 t]) (.int .i64 7)).run Tryz.prog w = .ok (.int .i64 t) w := by kernel_rfl
set_option maxRecDepth 100000 in
set_option maxHeartbeats 2000000 in
theorem names_any (n : Ino) (w : World) : Calls Tryz.prog 62 #[n.v] w fun e w' => e = .returned n.names ∧ Below w.heap.size w w' := by
  obtain ⟨k, l, z, a, b, c, d, e, f, s, t⟩ := n
  simp only [Ino.v, Ino.names]
  have i0 := ix6_0 a b c d e f
  have i1 := ix6_1 a b c d e f
  have i2 := ix6_2 a b c d e f
  have i3 := ix6_3 a b c d e f
  have i4 := ix6_4 a b c d e f
  have i5 := ix6_5 a b c d e f
  go_enter Tryz.func62, Tryz.ntmps62
  go_wp2
  go_rounds 7
  go_returns
  exact ⟨rfl, (((Below.refl _ _).alloc (by go_size) _).alloc (by go_size) _).alloc (by go_size) _⟩
set_option maxRecDepth 100000 in
set_option maxHeartbeats 2000000 in
theorem areRight_any (n : Ino) (w : World) : Calls Tryz.prog 63 #[n.names] w fun e w' => e = .returned (.bool (okN n.a && okN n.b && okN n.c && okN n.d && okN n.e && okN n.f && okN n.s && okN n.t)) ∧ Below w.heap.size w w' := by
  obtain ⟨k, l, z, a, b, c, d, e, f, s, t⟩ := n
  simp only [Ino.names]
  have i0 := ix8_0 a b c d e f s t
  have i1 := ix8_1 a b c d e f s t
  have i2 := ix8_2 a b c d e f s t
  have i3 := ix8_3 a b c d e f s t
  have i4 := ix8_4 a b c d e f s t
  have i5 := ix8_5 a b c d e f s t
  have i6 := ix8_6 a b c d e f s t
  have i7 := ix8_7 a b c d e f s t
  have HA : Hid (∀ x w, Calls Tryz.prog 85 #[.int .i64 x] w fun e w' => e = .returned (.bool (okN x)) ∧ w' = w) := isName_any
  obtain ⟨r, hr⟩ : ∃ r, r = (okN a && okN b && okN c && okN d && okN e && okN f && okN s && okN t) := ⟨_, rfl⟩
  rw [← hr]
  have HR := hid hr
  clear hr
  go_enter Tryz.func63, Tryz.ntmps63
  go_wp2
  refine wp_loop_rounds 9 ?_
  rw [rounds_succ]
  cases qa : okN a with
  | false =>
    have H := hid (HA.out a)
    rw [qa] at H
    go_wp2_with (first | (go_at_call 85; refine (H.out _).mono ?_; rintro e w1 ⟨rfl, rfl⟩))
    go_ret
    exact ⟨by rw [HR.out]; simp [qa], (Below.refl _ _).alloc (by go_size) _⟩
  | true =>
    have H := hid (HA.out a)
    rw [qa] at H
    go_wp2_with (first | (go_at_call 85; refine (H.out _).mono ?_; rintro e w1 ⟨rfl, rfl⟩))
    clear H
    rw [rounds_succ]
    cases qb : okN b with
    | false =>
      have H := hid (HA.out b)
      rw [qb] at H
      go_wp2_with (first | (go_at_call 85; refine (H.out _).mono ?_; rintro e w1 ⟨rfl, rfl⟩))
      go_ret
      exact ⟨by rw [HR.out]; simp [qa, qb], (Below.refl _ _).alloc (by go_size) _⟩
    | true =>
      have H := hid (HA.out b)
      rw [qb] at H
      go_wp2_with (first | (go_at_call 85; refine (H.out _).mono ?_; rintro e w1 ⟨rfl, rfl⟩))
      clear H
      rw [rounds_succ]
      cases qc : okN c with
      | false =>
        have H := hid (HA.out c)
        rw [qc] at H
        go_wp2_with (first | (go_at_call 85; refine (H.out _).mono ?_; rintro e w1 ⟨rfl, rfl⟩))
        go_ret
        exact ⟨by rw [HR.out]; simp [qa, qb, qc], (Below.refl _ _).alloc (by go_size) _⟩
      | true =>
        have H := hid (HA.out c)
        rw [qc] at H
        go_wp2_with (first | (go_at_call 85; refine (H.out _).mono ?_; rintro e w1 ⟨rfl, rfl⟩))
        clear H
        rw [rounds_succ]
        cases qd : okN d with
        | false =>
          have H := hid (HA.out d)
          rw [qd] at H
          go_wp2_with (first | (go_at_call 85; refine (H.out _).mono ?_; rintro e w1 ⟨rfl, rfl⟩))
          go_ret
          exact ⟨by rw [HR.out]; simp [qa, qb, qc, qd], (Below.refl _ _).alloc (by go_size) _⟩
        | true =>
          have H := hid (HA.out d)
          rw [qd] at H
          go_wp2_with (first | (go_at_call 85; refine (H.out _).mono ?_; rintro e w1 ⟨rfl, rfl⟩))
          clear H
          rw [rounds_succ]
          cases qe : okN e with
          | false =>
            have H := hid (HA.out e)
            rw [qe] at H
            go_wp2_with (first | (go_at_call 85; refine (H.out _).mono ?_; rintro e w1 ⟨rfl, rfl⟩))
            go_ret
            exact ⟨by rw [HR.out]; simp [qa, qb, qc, qd, qe], (Below.refl _ _).alloc (by go_size) _⟩
          | true =>
            have H := hid (HA.out e)
            rw [qe] at H
            go_wp2_with (first | (go_at_call 85; refine (H.out _).mono ?_; rintro e w1 ⟨rfl, rfl⟩))
            clear H
            rw [rounds_succ]
            cases qf : okN f with
            | false =>
              have H := hid (HA.out f)
              rw [qf] at H
              go_wp2_with (first | (go_at_call 85; refine (H.out _).mono ?_; rintro e w1 ⟨rfl, rfl⟩))
              go_ret
              exact ⟨by rw [HR.out]; simp [qa, qb, qc, qd, qe, qf], (Below.refl _ _).alloc (by go_size) _⟩
            | true =>
              have H := hid (HA.out f)
              rw [qf] at H
              go_wp2_with (first | (go_at_call 85; refine (H.out _).mono ?_; rintro e w1 ⟨rfl, rfl⟩))
              clear H
              rw [rounds_succ]
              cases qs : okN s with
              | false =>
                have H := hid (HA.out s)
                rw [qs] at H
                go_wp2_with (first | (go_at_call 85; refine (H.out _).mono ?_; rintro e w1 ⟨rfl, rfl⟩))
                go_ret
                exact ⟨by rw [HR.out]; simp [qa, qb, qc, qd, qe, qf, qs], (Below.refl _ _).alloc (by go_size) _⟩
              | true =>
                have H := hid (HA.out s)
                rw [qs] at H
                go_wp2_with (first | (go_at_call 85; refine (H.out _).mono ?_; rintro e w1 ⟨rfl, rfl⟩))
                clear H
                rw [rounds_succ]
                cases qt : okN t with
                | false =>
                  have H := hid (HA.out t)
                  rw [qt] at H
                  go_wp2_with (first | (go_at_call 85; refine (H.out _).mono ?_; rintro e w1 ⟨rfl, rfl⟩))
                  go_ret
                  exact ⟨by rw [HR.out]; simp [qa, qb, qc, qd, qe, qf, qs, qt], (Below.refl _ _).alloc (by go_size) _⟩
                | true =>
                  have H := hid (HA.out t)
                  rw [qt] at H
                  go_wp2_with (first | (go_at_call 85; refine (H.out _).mono ?_; rintro e w1 ⟨rfl, rfl⟩))
                  clear H
                  rw [rounds_succ]
                  go_wp2
                  go_ret
                  exact ⟨by rw [HR.out]; simp [qa, qb, qc, qd, qe, qf, qs, qt], (Below.refl _ _).alloc (by go_size) _⟩
end Go.Proofs.YtjnhibpebikkmaaGreat
