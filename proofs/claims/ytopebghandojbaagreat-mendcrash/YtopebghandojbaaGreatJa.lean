import Derived.Test.YtopebghandojbaaGreatTf
namespace Go.Proofs.YtopebghandojbaaGreat
open Go.RowKit Go.Maps
theorem none_nil (w : World) : Calls Tryz.prog 90 #[.pointer none] w fun e w' => e = .returned (.bool true) ∧ w' = w := by
  go_enter Tryz.func90, Tryz.ntmps90
  go_wp2
  go_ret
  exact ⟨rfl, rfl⟩
theorem count_nil (w : World) : Calls Tryz.prog 102 #[.pointer none] w fun e w' => e = .returned (.tuple #[.int .i64 0, .int .i64 0]) ∧ w' = w := by
  go_enter Tryz.func102, Tryz.ntmps102
  go_wp2_with (first | (go_at_call 90; refine (none_nil _).mono ?_; rintro e w1 ⟨rfl, rfl⟩))
  go_ret2
  exact ⟨rfl, rfl⟩
theorem free_nil (w : World) : Calls Tryz.prog 64 #[.pointer none] w fun e w' => e = .returned (.int .i64 0) ∧ w' = w := by
  go_enter Tryz.func64, Tryz.ntmps64
  go_wp2_with (first | (go_at_call 90; refine (none_nil _).mono ?_; rintro e w1 ⟨rfl, rfl⟩))
  go_ret
  exact ⟨rfl, rfl⟩
theorem next_nil (w : World) : Calls Tryz.prog 54 #[.pointer none] w fun e w' => e = .returned (.int .i64 0) ∧ w' = w := by
  go_enter Tryz.func54, Tryz.ntmps54
  go_wp2_with (first | (go_at_call 90; refine (none_nil _).mono ?_; rintro e w1 ⟨rfl, rfl⟩))
  go_ret
  exact ⟨rfl, rfl⟩
theorem header_nil (w : World) : Calls Tryz.prog 45 #[.pointer none] w fun e w' => e = .returned (.string ⟨#[]⟩) ∧ w' = w := by
  go_enter Tryz.func45, Tryz.ntmps45
  go_wp2_with (first | (go_at_call 90; refine (none_nil _).mono ?_; rintro e w1 ⟨rfl, rfl⟩))
  go_ret
  exact ⟨rfl, rfl⟩
theorem append_nil (v : Value) (l : List Chg) (w : World) (h : CLie w v l) : Calls Tryz.prog 65 #[.pointer none, v] w fun e w' => (∃ v', e = .returned (.tuple #[v', .int .i64 (if right l then 5 else 70)])) ∧ Below w.heap.size w w' := by
  have HC := hid (check_any v l w h)
  have HE := hid (fun w => encode_arg 0 v (by omega) w)
  cases hr : right l with
  | false =>
    rw [hr] at HC
    simp only [Bool.false_eq_true, if_false] at HC ⊢
    go_enter Tryz.func65, Tryz.ntmps65
    go_wp2_with (first | (go_at_call 63; refine (HC.out).mono ?_; rintro e w1 ⟨rfl, hb1⟩))
    go_ret2
    exact ⟨⟨_, rfl⟩, hb1⟩
  | true =>
    rw [hr] at HC
    simp only [if_true] at HC ⊢
    go_enter Tryz.func65, Tryz.ntmps65
    go_wp2_with (first
      | (go_at_call 63; refine (HC.out).mono ?_; rintro e w1 ⟨rfl, hb1⟩)
      | (go_at_call 54; refine (next_nil _).mono ?_; rintro e w2 ⟨rfl, hw⟩; have hw := hw.symm; subst hw)
      | (go_at_call 112; refine (HE.out _).mono ?_; rintro e w3 ⟨rfl, hw⟩; have hw := hw.symm; subst hw))
    go_ret2
    exact ⟨⟨_, rfl⟩, hb1⟩
theorem seal_nil (w : World) : Calls Tryz.prog 68 #[.pointer none] w fun e w' => e = .returned (.agg #[.int .i64 0, .string ⟨#[]⟩]) ∧ Below w.heap.size w w' := by
  go_enter Tryz.func68, Tryz.ntmps68
  go_wp2_with (first | (go_at_call 90; refine (none_nil _).mono ?_; rintro e w1 ⟨rfl, hw⟩; have hw := hw.symm; subst hw))
  refine bodyPost_ret (v := .agg #[.int .i64 0, .string ⟨#[]⟩]) (by simp [results, Tryz.results68, go_sem]) rfl ⟨rfl, ?_⟩
  first
    | exact below_alloc _ _
    | exact (below_set _ (below_set _ (below_alloc _ _) (Nat.le_refl _)) (Nat.le_refl _))
theorem done_nil (k : Int) (w : World) : Calls Tryz.prog 106 #[.pointer none, .int .i64 k] w fun e w' => e = .returned (.tuple #[.agg #[.int .i64 0, .string ⟨#[]⟩], .int .i64 (if k = 0 then 0 else 1)]) ∧ Below w.heap.size w w' := by
  by_cases h0 : k = 0
  · subst h0
    rw [if_pos rfl]
    go_enter Tryz.func106, Tryz.ntmps106
    go_wp2_with (first
      | (go_at_call 102; refine (count_nil _).mono ?_; rintro e w1 ⟨rfl, hw⟩; have hw := hw.symm; subst hw)
      | (go_at_call 90; refine (none_nil _).mono ?_; rintro e w1 ⟨rfl, hw⟩; have hw := hw.symm; subst hw))
    refine bodyPost_ret (v := .tuple #[.agg #[.int .i64 0, .string ⟨#[]⟩], .int .i64 0]) (by simp [results, Tryz.results106, go_sem]) rfl ⟨rfl, below_alloc _ _⟩
  · rw [if_neg h0]
    by_cases h1 : k < 0
    · go_enter Tryz.func106, Tryz.ntmps106
      go_wp2_with (first
        | (go_at_call 102; refine (count_nil _).mono ?_; rintro e w1 ⟨rfl, hw⟩; have hw := hw.symm; subst hw))
      refine bodyPost_ret (v := .tuple #[.agg #[.int .i64 0, .string ⟨#[]⟩], .int .i64 1]) (by simp [results, Tryz.results106, go_sem]) rfl ⟨rfl, below_alloc _ _⟩
    · have h2 : 0 < k := by omega
      go_enter Tryz.func106, Tryz.ntmps106
      go_wp2_with (first
        | (go_at_call 102; refine (count_nil _).mono ?_; rintro e w1 ⟨rfl, hw⟩; have hw := hw.symm; subst hw))
      refine bodyPost_ret (v := .tuple #[.agg #[.int .i64 0, .string ⟨#[]⟩], .int .i64 1]) (by simp [results, Tryz.results106, go_sem]) rfl ⟨rfl, below_alloc _ _⟩
/-- a journal in memory -/
def JIs (g : Nat) (w : World) (P T F : Int) (sv : Value) (S : Int) : Prop := w.heap[g]? = some (.cells #[.int .i64 P, .int .i64 T, .int .i64 F, sv, .int .i64 S] 156 (0, 0))
theorem JIs.cells {g : Nat} {w : World} {P T F S : Int} {sv : Value} (h : JIs g w P T F sv S) : w.cell? ⟨g, 0, none⟩ = some (.int .i64 P) ∧ w.cell? ⟨g, 1, none⟩ = some (.int .i64 T) ∧ w.cell? ⟨g, 2, none⟩ = some (.int .i64 F) ∧ w.cell? ⟨g, 3, none⟩ = some sv ∧ w.cell? ⟨g, 4, none⟩ = some (.int .i64 S) := by
  unfold JIs at h
  refine ⟨?_, ?_, ?_, ?_, ?_⟩ <;> simp [World.cell?, h]
theorem JIs.lt {g : Nat} {w : World} {P T F S : Int} {sv : Value} (h : JIs g w P T F sv S) : g < w.heap.size := lt_of_block h
theorem isRegion_any (n : Int) (w : World) : Calls Tryz.prog 85 #[.int .i64 n] w fun e w' => e = .returned (.bool (decide (8 ≤ n ∧ n ≤ 256))) ∧ w' = w := by
  by_cases h1 : 8 ≤ n
  · go_enter Tryz.func85, Tryz.ntmps85
    go_wp2
    go_ret
    exact ⟨by simp [h1], rfl⟩
  · go_enter Tryz.func85, Tryz.ntmps85
    go_wp2
    go_ret
    exact ⟨by have : ¬ (8 ≤ n) := by omega
              simp [this], rfl⟩
theorem none_any (g : Nat) (P T F S : Int) (sv : Value) (hP : 0 < P) (w : World) (h : JIs g w P T F sv S) : Calls Tryz.prog 90 #[.pointer (some ⟨g, 0, none⟩)] w fun e w' => e = .returned (.bool false) ∧ w' = w := by
  obtain ⟨c0, c1, c2, c3, c4⟩ := h.cells
  have hP' : (P == 0) = false := by simp; omega
  go_enter Tryz.func90, Tryz.ntmps90
  go_wp2
  go_ret
  exact ⟨rfl, rfl⟩
theorem count_any (g : Nat) (P T F S : Int) (ao : Option Addr) (n cap : Nat) (hP : 0 < P) (w : World) (h : JIs g w P T F (.slice ao n cap) S) : Calls Tryz.prog 102 #[.pointer (some ⟨g, 0, none⟩)] w fun e w' => e = .returned (.tuple #[.int .i64 n, .int .i64 S]) ∧ ∃ q, w' = w.drewN q := by
  have HN := hid (none_any g P T F S _ hP w h)
  obtain ⟨c0, c1, c2, c3, c4⟩ := h.cells
  go_enter Tryz.func102, Tryz.ntmps102
  go_wp2_with (first | (go_at_call 90; refine (HN.out).mono ?_; rintro e w1 ⟨rfl, hw⟩; have hw := hw.symm; subst hw))
  go_quiet ((fail))
  go_wp2
  go_ret2
  exact ⟨rfl, _, rfl⟩
theorem next_any (g : Nat) (P T F S : Int) (ao : Option Addr) (n cap : Nat) (hn : n ≤ 300) (hF : 0 ≤ F) (hF2 : F ≤ 1099511628000) (hP : 0 < P) (w : World) (h : JIs g w P T F (.slice ao n cap) S) : Calls Tryz.prog 54 #[.pointer (some ⟨g, 0, none⟩)] w fun e w' => e = .returned (.int .i64 (F + n)) ∧ ∃ q, w' = w.drewN q := by
  have HN := hid (none_any g P T F S _ hP w h)
  obtain ⟨c0, c1, c2, c3, c4⟩ := h.cells
  go_enter Tryz.func54, Tryz.ntmps54
  go_wp2_with (first | (go_at_call 90; refine (HN.out).mono ?_; rintro e w1 ⟨rfl, hw⟩; have hw := hw.symm; subst hw))
  go_quiet ((fail))
  go_wp2
  go_ret
  exact ⟨rfl, _, rfl⟩
end Go.Proofs.YtopebghandojbaaGreat
