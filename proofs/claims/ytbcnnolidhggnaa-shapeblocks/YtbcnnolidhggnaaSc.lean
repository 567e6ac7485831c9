import Derived.Test.YtbcnnolidhggnaaSb
namespace Go.Proofs.Ytbcnnolidhggnaa
open Go.RowKit

theorem var_2 {w w5 : World} {o1 o2 : Obj} (h : Below ((w.alloc o1).alloc o2).heap.size ((w.alloc o1).alloc o2) w5) : w5.heap[w.heap.size]? = some o1 ∧ w5.heap[w.heap.size + 1]? = some o2 := by
  constructor
  · exact (h.block _ (by show _ < ((w.heap.push o1).push o2).size; simp; omega)).trans (by show ((w.heap.push o1).push o2)[_]? = _; rw [Array.getElem?_push, if_neg (by simp), Array.getElem?_push, if_pos rfl])
  · exact (h.block _ (by show _ < ((w.heap.push o1).push o2).size; simp)).trans (by show ((w.heap.push o1).push o2)[_]? = _; rw [Array.getElem?_push, if_pos (by simp)])
theorem bel_2 {w w5 : World} {o1 o2 : Obj} (h : Below ((w.alloc o1).alloc o2).heap.size ((w.alloc o1).alloc o2) w5) : Below w.heap.size w w5 := ((below_alloc w o1).next (below_alloc _ o2)).next h
theorem bel_drewN {B : Nat} {w w' : World} (h : Below B w w') (n : Nat) : Below B w (w'.drewN n) := ⟨h.os, h.tape, h.output, h.size, h.block⟩
theorem frees {w : World} {g : Nat} {cs : Array Value} {t : TypeId} (hh : w.heap[g]? = some (.cells cs t (0, 0))) (i : Nat) : w.frozen? ⟨g, i, none⟩ = false := by simp [World.frozen?, hh]
theorem five_cells {w : World} {g : Nat} {a b c d e : Value} {t : TypeId} (hh : w.heap[g]? = some (.cells #[a, b, c, d, e] t (0, 0))) : w.cell? ⟨g, 0, none⟩ = some a ∧ w.cell? ⟨g, 1, none⟩ = some b ∧ w.cell? ⟨g, 2, none⟩ = some c ∧ w.cell? ⟨g, 3, none⟩ = some d ∧ w.cell? ⟨g, 4, none⟩ = some e := by
  refine ⟨?_, ?_, ?_, ?_, ?_⟩ <;> simp [World.cell?, hh]
/-- a shape's regions -/
def regS (B J I : Int) : Value := .agg #[.int .i64 1, .int .i64 (1 + J), .int .i64 (2 + J), .int .i64 (2 + J + (I + 3) / 4), .int .i64 (B - (2 + J + (I + 3) / 4))]
set_option maxHeartbeats 1000000 in
theorem of_ok (B J I : Int) (h : okS B J I) (w : World) : Calls Try.prog 6 #[.agg #[.int .i64 B, .int .i64 J, .int .i64 I]] w fun e w' => e = .returned (.tuple #[regS B J I, .int .i64 0]) ∧ Below w.heap.size w w' := by
  have HC := hid (fun w => check_ok B J I h w)
  have HR := hid (fun w => regions_any B J I h.1.1 h.1.2.1 h.1.2.2 w)
  unfold regS
  obtain ⟨D, hD⟩ : ∃ D, D = B - (2 + J + (I + 3) / 4) := ⟨_, rfl⟩
  obtain ⟨E, hE⟩ : ∃ E, E = 2 + J + (I + 3) / 4 := ⟨_, rfl⟩
  rw [← hD] at HR ⊢
  rw [← hE] at HR ⊢
  clear hD hE h
  go_enter Try.func6, Try.ntmps6
  go_wp2_with (first
    | (go_at_call 8; refine (HC.out _).mono ?_; rintro e w1 ⟨rfl, hb1⟩; obtain ⟨v1, v2⟩ := var_2 hb1; have HV := hid v2; have HB1 := hid (bel_2 hb1); obtain ⟨q0, q1, q2⟩ := three_cells v1; clear hb1 v1 v2)
    | (go_at_call 15; refine (HR.out _).mono ?_; rintro e w2 ⟨rfl, hb2⟩; have v3 := (hb2.block _ (lt_of_block HV.out)).trans HV.out; have HB2 := hid (HB1.out.next hb2); have HV2 := hid v3; clear q0 q1 q2; obtain ⟨q0, q1, q2, q3, q4⟩ := five_cells v3; have hfr := frees v3; clear v3 hb2))
  refine bodyPost_ret (v := .tuple #[.agg #[.int .i64 1, .int .i64 (1 + J), .int .i64 (2 + J), .int .i64 E, .int .i64 D], .int .i64 0]) (by simp [results, Try.results6, go_sem, q0, q1, q2, q3, q4]) rfl ⟨rfl, ?_⟩
  exact ((((HB2.out.setCell (by simp) _).setCell (by simp) _).setCell (by simp) _).setCell (by simp) _).setCell (by simp) _
set_option maxHeartbeats 1000000 in
theorem of_bad (B J I : Int) (h : ¬ okS B J I) (w : World) : Calls Try.prog 6 #[.agg #[.int .i64 B, .int .i64 J, .int .i64 I]] w fun e w' => e = .returned (.tuple #[.agg #[.int .i64 0, .int .i64 0, .int .i64 0, .int .i64 0, .int .i64 0], .int .i64 60]) ∧ Below w.heap.size w w' := by
  have HC := hid (fun w => check_bad B J I h w)
  clear h
  go_enter Try.func6, Try.ntmps6
  go_wp2_with (first
    | (go_at_call 8; refine (HC.out _).mono ?_; rintro e w1 ⟨rfl, hb1⟩; obtain ⟨v1, v2⟩ := var_2 hb1; have HV := hid v2; have HB1 := hid (bel_2 hb1); obtain ⟨q0, q1, q2, q3, q4⟩ := five_cells v2; have hfr := frees v2; clear hb1 v1 v2))
  refine bodyPost_ret (v := .tuple #[.agg #[.int .i64 0, .int .i64 0, .int .i64 0, .int .i64 0, .int .i64 0], .int .i64 60]) (by simp [results, Try.results6, go_sem, q0, q1, q2, q3, q4]) rfl ⟨rfl, ?_⟩
  exact ((((HB1.out.setCell (by simp) _).setCell (by simp) _).setCell (by simp) _).setCell (by simp) _).setCell (by simp) _
theorem data_ok (B J I : Int) (h : okS B J I) (w : World) : Calls Try.prog 10 #[.agg #[.int .i64 B, .int .i64 J, .int .i64 I]] w fun e w' => e = .returned (.int .i64 (2 + J + (I + 3) / 4)) ∧ Below w.heap.size w w' := by
  have HT := hid (fun w => table_any B J I h.1.2.2 w)
  obtain ⟨⟨h1, h2, h3⟩, h4⟩ := h
  obtain ⟨T, hT⟩ : ∃ T, T = (I + 3) / 4 := ⟨_, rfl⟩
  rw [← hT] at HT h4 ⊢
  have hT0 : 0 ≤ T := by omega
  have hT1 : T ≤ 16 := by omega
  obtain ⟨hJ1, hJ2⟩ := h2
  clear h1 h3 h4
  have HTT := hid hT
  clear hT
  have hw1 : IntKind.i64.wrap (2 + J) = 2 + J := by rw [IntKind.wrap_i64]; omega
  have hw2 : IntKind.i64.wrap (2 + J + T) = 2 + J + T := by rw [IntKind.wrap_i64]; omega
  go_enter Try.func10, Try.ntmps10
  go_wp2
  go_region_held3 (fun w' => w'.cell? ⟨w.heap.size, 0, none⟩ = some (.int .i64 B) ∧ w'.cell? ⟨w.heap.size, 1, none⟩ = some (.int .i64 J) ∧ w'.cell? ⟨w.heap.size, 2, none⟩ = some (.int .i64 I)) (first | exact ⟨q0, q1, q2⟩ | go_keep) (first
    | (go_at_call 16; refine (HT.out _).mono ?_; rintro e w1 ⟨rfl, hb1⟩; obtain ⟨q0, q1, q2⟩ := three_cells (var_ad hb1); have HB := hid (bel_ad hb1); clear hb1))
  all_goals
    go_wp2
    go_ret
    exact ⟨by first | rfl | exact ret_int (by omega), HB.out⟩
theorem right_in (B J I : Int) (h : inS B J I) (w : World) : Calls Try.prog 7 #[.agg #[.int .i64 B, .int .i64 J, .int .i64 I]] w fun e w' => e = .returned (.bool (decide (2 + J + (I + 3) / 4 + 4 ≤ B))) ∧ Below w.heap.size w w' := by
  have HT := hid (fun w => table_any B J I h.2.2 w)
  obtain ⟨⟨h1, h2⟩, ⟨h3, h4⟩, h5, h6⟩ := h
  obtain ⟨T, hT⟩ : ∃ T, T = (I + 3) / 4 := ⟨_, rfl⟩
  rw [← hT] at HT ⊢
  have hT0 : 0 ≤ T := by omega
  have hT1 : T ≤ 16 := by omega
  clear hT
  have hw1 : IntKind.i64.wrap (2 + J) = 2 + J := by rw [IntKind.wrap_i64]; omega
  have hw2 : IntKind.i64.wrap (2 + J + T) = 2 + J + T := by rw [IntKind.wrap_i64]; omega
  have hw3 : IntKind.i64.wrap (2 + J + T + 4) = 2 + J + T + 4 := by rw [IntKind.wrap_i64]; omega
  go_enter Try.func7, Try.ntmps7
  go_wp2
  go_region_held3 (fun w' => w'.cell? ⟨w.heap.size, 0, none⟩ = some (.int .i64 B) ∧ w'.cell? ⟨w.heap.size, 1, none⟩ = some (.int .i64 J) ∧ w'.cell? ⟨w.heap.size, 2, none⟩ = some (.int .i64 I)) (first | exact ⟨q0, q1, q2⟩ | go_keep) (first
    | (go_at_call 16; refine (HT.out _).mono ?_; rintro e w1 ⟨rfl, hb1⟩; obtain ⟨q0, q1, q2⟩ := three_cells (var_ad hb1); have HB := hid (bel_ad hb1); clear hb1))
  all_goals
    go_wp2
    go_ret
    exact ⟨rfl, HB.out⟩
theorem right_a (B J I : Int)  (hn : ¬ 16 ≤ B) (w : World) : Calls Try.prog 7 #[.agg #[.int .i64 B, .int .i64 J, .int .i64 I]] w fun e w' => e = .returned (.bool false) ∧ Below w.heap.size w w' := by
  have hd : decide (16 ≤ B) = false := by simpa using hn
  go_enter Try.func7, Try.ntmps7
  go_wp2
  go_quiet (fail)
  all_goals
    go_wp2
    go_ret
    exact ⟨rfl, by first | exact below_alloc _ _ | exact bel_drewN (below_alloc _ _) _ | exact (below_alloc _ _).drew⟩
theorem right_b (B J I : Int) (h0 : 16 ≤ B) (hn : ¬ B ≤ 1024) (w : World) : Calls Try.prog 7 #[.agg #[.int .i64 B, .int .i64 J, .int .i64 I]] w fun e w' => e = .returned (.bool false) ∧ Below w.heap.size w w' := by
  have hd : decide (B ≤ 1024) = false := by simpa using hn
  go_enter Try.func7, Try.ntmps7
  go_wp2
  go_quiet (fail)
  all_goals
    go_wp2
    go_ret
    exact ⟨rfl, by first | exact below_alloc _ _ | exact bel_drewN (below_alloc _ _) _ | exact (below_alloc _ _).drew⟩
theorem right_c (B J I : Int) (h0 : 16 ≤ B) (h1 : B ≤ 1024) (hn : ¬ 8 ≤ J) (w : World) : Calls Try.prog 7 #[.agg #[.int .i64 B, .int .i64 J, .int .i64 I]] w fun e w' => e = .returned (.bool false) ∧ Below w.heap.size w w' := by
  have hd : decide (8 ≤ J) = false := by simpa using hn
  go_enter Try.func7, Try.ntmps7
  go_wp2
  go_quiet (fail)
  all_goals
    go_wp2
    go_ret
    exact ⟨rfl, by first | exact below_alloc _ _ | exact bel_drewN (below_alloc _ _) _ | exact (below_alloc _ _).drew⟩
theorem right_d (B J I : Int) (h0 : 16 ≤ B) (h1 : B ≤ 1024) (h2 : 8 ≤ J) (hn : ¬ J ≤ 256) (w : World) : Calls Try.prog 7 #[.agg #[.int .i64 B, .int .i64 J, .int .i64 I]] w fun e w' => e = .returned (.bool false) ∧ Below w.heap.size w w' := by
  have hd : decide (J ≤ 256) = false := by simpa using hn
  go_enter Try.func7, Try.ntmps7
  go_wp2
  go_quiet (fail)
  all_goals
    go_wp2
    go_ret
    exact ⟨rfl, by first | exact below_alloc _ _ | exact bel_drewN (below_alloc _ _) _ | exact (below_alloc _ _).drew⟩
theorem right_e (B J I : Int) (h0 : 16 ≤ B) (h1 : B ≤ 1024) (h2 : 8 ≤ J) (h3 : J ≤ 256) (hn : ¬ 1 ≤ I) (w : World) : Calls Try.prog 7 #[.agg #[.int .i64 B, .int .i64 J, .int .i64 I]] w fun e w' => e = .returned (.bool false) ∧ Below w.heap.size w w' := by
  have hd : decide (1 ≤ I) = false := by simpa using hn
  go_enter Try.func7, Try.ntmps7
  go_wp2
  go_quiet (fail)
  all_goals
    go_wp2
    go_ret
    exact ⟨rfl, by first | exact below_alloc _ _ | exact bel_drewN (below_alloc _ _) _ | exact (below_alloc _ _).drew⟩
theorem right_f (B J I : Int) (h0 : 16 ≤ B) (h1 : B ≤ 1024) (h2 : 8 ≤ J) (h3 : J ≤ 256) (h4 : 1 ≤ I) (hn : ¬ I ≤ 64) (w : World) : Calls Try.prog 7 #[.agg #[.int .i64 B, .int .i64 J, .int .i64 I]] w fun e w' => e = .returned (.bool false) ∧ Below w.heap.size w w' := by
  have hd : decide (I ≤ 64) = false := by simpa using hn
  go_enter Try.func7, Try.ntmps7
  go_wp2
  go_quiet (fail)
  all_goals
    go_wp2
    go_ret
    exact ⟨rfl, by first | exact below_alloc _ _ | exact bel_drewN (below_alloc _ _) _ | exact (below_alloc _ _).drew⟩
end Go.Proofs.Ytbcnnolidhggnaa
