import Derived.Test.YtecfibabeimjoaaRd
namespace Go.Proofs.Ytecfibabeimjoaa
open Go.RowKit Go.Maps Go.Sort Go.Shelf
theorem Below.drewN' {B : Nat} {a w : World} (h : Below B a w) (n : Nat) : Below B a (w.drewN n) := h.trans ⟨rfl, rfl, rfl, Nat.le_refl _, fun _ _ => rfl⟩
set_option maxRecDepth 100000 in
set_option maxHeartbeats 2000000 in
theorem rput_node {B1 g : Nat} {n : Int} {v : Value} {L : List Msg} (m : Msg) (hn : ¬ (isN n m.f = true ∧ isN n m.t = true)) (w : World) (h : RB B1 g w n v L) : Calls Try.prog 18 #[.pointer (some ⟨g, 0, none⟩), valM m] w fun e w' => e = .returned (.int .i64 1) ∧ Below w.heap.size w w' := by
  obtain ⟨q0, q1⟩ := two_cells53 h.cell
  have hg := lt_of_block h.cell
  clear h
  unfold valM
  have h4 : m.f < 0 ∨ n ≤ m.f ∨ m.t < 0 ∨ n ≤ m.t := by
    unfold isN at hn
    simp only [Bool.and_eq_true, decide_eq_true_eq] at hn
    omega
  clear hn
  by_cases h1 : m.f < 0
  · go_enter Try.func18, Try.ntmps18
    go_wp2
    go_quiet ((fail))
    go_wp2
    go_ret
    exact ⟨rfl, Below.drewN' (below_alloc _ _) _⟩
  · by_cases h2 : n ≤ m.f
    · go_enter Try.func18, Try.ntmps18
      go_wp2
      go_quiet ((fail))
      go_wp2
      go_ret
      exact ⟨rfl, Below.drewN' (below_alloc _ _) _⟩
    · by_cases h3 : m.t < 0
      · go_enter Try.func18, Try.ntmps18
        go_wp2
        go_quiet ((fail))
        go_wp2
        go_ret
        exact ⟨rfl, Below.drewN' (below_alloc _ _) _⟩
      · have h5 : n ≤ m.t := by omega
        go_enter Try.func18, Try.ntmps18
        go_wp2
        go_quiet ((fail))
        go_wp2
        go_ret
        exact ⟨rfl, Below.drewN' (below_alloc _ _) _⟩
set_option maxRecDepth 100000 in
set_option maxHeartbeats 2000000 in
theorem rput_go {B1 g : Nat} {n : Int} {v : Value} {L : List Msg} (m : Msg) (h1 : isN n m.f = true) (h2 : isN n m.t = true) (hs : m.s.size ≤ 65535) (r : Int) (R : World → World → Prop) (w : World) (h : RB B1 g w n v L)
    (hA : ∀ w1, RB B1 g w1 n v L → Calls Try.prog 28 #[.pointer (some ⟨g, 0, none⟩), valM m] w1 fun e w' => e = .returned (.int .i64 r) ∧ R w1 w') :
    Calls Try.prog 18 #[.pointer (some ⟨g, 0, none⟩), valM m] w fun e w' => e = .returned (.int .i64 r) ∧ ∃ w1, Below w.heap.size w w1 ∧ R w1 w' := by
  obtain ⟨q0, q1⟩ := two_cells53 h.cell
  have hg := lt_of_block h.cell
  have HR := hid h
  have HA := hid hA
  clear h hA
  unfold valM at HA ⊢
  unfold isN at h1 h2
  simp only [Bool.and_eq_true, decide_eq_true_eq] at h1 h2
  obtain ⟨a1, a2⟩ := h1
  obtain ⟨a3, a4⟩ := h2
  go_enter Try.func18, Try.ntmps18
  go_wp2
  go_quiet ((fail))
  have HA2 := hid (HA.out _ (HR.out.below (Below.drewN' (below_alloc w (.cells #[.int .i64 m.f, .int .i64 m.t, .string m.s] 37)) nq)))
  have HB2 := hid (Below.drewN' (below_alloc w (.cells #[.int .i64 m.f, .int .i64 m.t, .string m.s] 37)) nq)
  clear HA HR
  go_wp2_with (first
    | (go_at_call 28; refine (HA2.out).mono ?_; rintro e w3 ⟨rfl, hR3⟩))
  go_ret
  exact ⟨rfl, _, HB2.out, hR3⟩
set_option maxRecDepth 100000 in
set_option maxHeartbeats 2000000 in
theorem rput_long {B1 g : Nat} {n : Int} {v : Value} {L : List Msg} (m : Msg) (h1 : isN n m.f = true) (h2 : isN n m.t = true) (hs : 65535 < m.s.size) (w : World) (h : RB B1 g w n v L) : Calls Try.prog 18 #[.pointer (some ⟨g, 0, none⟩), valM m] w fun e w' => e = .returned (.int .i64 2) ∧ Below w.heap.size w w' := by
  obtain ⟨q0, q1⟩ := two_cells53 h.cell
  have hg := lt_of_block h.cell
  clear h
  unfold valM
  unfold isN at h1 h2
  simp only [Bool.and_eq_true, decide_eq_true_eq] at h1 h2
  obtain ⟨a1, a2⟩ := h1
  obtain ⟨a3, a4⟩ := h2
  go_enter Try.func18, Try.ntmps18
  go_wp2
  go_quiet ((fail))
  go_wp2
  go_ret
  exact ⟨rfl, Below.drewN' (below_alloc _ _) _⟩
end Go.Proofs.Ytecfibabeimjoaa
