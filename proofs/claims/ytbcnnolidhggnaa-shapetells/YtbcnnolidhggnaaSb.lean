import Derived.Test.YtbcnnolidhggnaaSa
import Derived.Test.YtbcnnolidhggnaaUn
namespace Go.Proofs.Ytbcnnolidhggnaa
open Go.RowKit

/-- is each number of a shape within its limits? -/
def inS (B J I : Int) : Prop := (16 ≤ B ∧ B ≤ 1024) ∧ (8 ≤ J ∧ J ≤ 256) ∧ (1 ≤ I ∧ I ≤ 64)
/-- is a shape one? -/
def okS (B J I : Int) : Prop := inS B J I ∧ 2 + J + (I + 3) / 4 + 4 ≤ B
theorem limited_in (B J I : Int) (h : inS B J I) (w : World) : Calls Try.prog 17 #[.agg #[.int .i64 B, .int .i64 J, .int .i64 I]] w fun e w' => e = .returned (.agg #[.int .i64 B, .int .i64 J, .int .i64 I]) ∧ Below w.heap.size w w' := by
  have k := limited_any B J I w
  unfold inS at h
  rw [show min (max B 16) 1024 = B by omega, show min (max J 8) 256 = J by omega, show min (max I 1) 64 = I by omega] at k
  exact k
theorem limited_b (B J I : Int) (h : ¬ (16 ≤ B ∧ B ≤ 1024)) (w : World) : Calls Try.prog 17 #[.agg #[.int .i64 B, .int .i64 J, .int .i64 I]] w fun e w' => (∃ B' J' I', e = .returned (.agg #[.int .i64 B', .int .i64 J', .int .i64 I']) ∧ (B == B') = false) ∧ Below w.heap.size w w' :=
  (limited_any B J I w).mono fun e w' k => ⟨⟨_, _, _, k.1, by simp; omega⟩, k.2⟩
theorem limited_j (B J I : Int) (h : 16 ≤ B ∧ B ≤ 1024) (h2 : ¬ (8 ≤ J ∧ J ≤ 256)) (w : World) : Calls Try.prog 17 #[.agg #[.int .i64 B, .int .i64 J, .int .i64 I]] w fun e w' => (∃ J' I', e = .returned (.agg #[.int .i64 B, .int .i64 J', .int .i64 I']) ∧ (J == J') = false) ∧ Below w.heap.size w w' := by
  have k := limited_any B J I w
  rw [show min (max B 16) 1024 = B by omega] at k
  exact k.mono fun e w' k => ⟨⟨_, _, k.1, by simp; omega⟩, k.2⟩
theorem limited_i (B J I : Int) (h : 16 ≤ B ∧ B ≤ 1024) (h2 : 8 ≤ J ∧ J ≤ 256) (h3 : ¬ (1 ≤ I ∧ I ≤ 64)) (w : World) : Calls Try.prog 17 #[.agg #[.int .i64 B, .int .i64 J, .int .i64 I]] w fun e w' => (∃ I', e = .returned (.agg #[.int .i64 B, .int .i64 J, .int .i64 I']) ∧ (I == I') = false) ∧ Below w.heap.size w w' := by
  have k := limited_any B J I w
  rw [show min (max B 16) 1024 = B by omega, show min (max J 8) 256 = J by omega] at k
  exact k.mono fun e w' k => ⟨⟨_, k.1, by simp; omega⟩, k.2⟩
theorem run_field5 (a b c d e : Value) (w : World) : (Instr.field 25 (.agg #[a, b, c, d, e]) 4).run Try.prog w = .ok e w := by
  simp [Instr.field, go_sem, asAgg]
theorem _root_.Go.RowKit.Below.next {w w1 w2 : World} (a : Below w.heap.size w w1) (b : Below w1.heap.size w1 w2) : Below w.heap.size w w2 := a.trans (b.mono a.size)
theorem three_cells {w : World} {g : Nat} {a b c : Value} {t : TypeId} (hh : w.heap[g]? = some (.cells #[a, b, c] t (0, 0))) : w.cell? ⟨g, 0, none⟩ = some a ∧ w.cell? ⟨g, 1, none⟩ = some b ∧ w.cell? ⟨g, 2, none⟩ = some c := by
  refine ⟨?_, ?_, ?_⟩ <;> simp [World.cell?, hh]
theorem undrew {w w' : World} (h : Below w.drew.heap.size w.drew w') : Below w.heap.size w w' := ⟨h.os, h.tape, h.output, h.size, h.block⟩
theorem var_ad {w w5 : World} {o : Obj} (h : Below ((w.alloc o).drew).heap.size (w.alloc o).drew w5) : w5.heap[w.heap.size]? = some o :=
  (h.block _ (by show _ < (w.heap.push o).size; simp)).trans (by show (w.heap.push o)[_]? = _; simp)
theorem var_a {w w5 : World} {o : Obj} (h : Below (w.alloc o).heap.size (w.alloc o) w5) : w5.heap[w.heap.size]? = some o :=
  (h.block _ (by show _ < (w.heap.push o).size; simp)).trans (by show (w.heap.push o)[_]? = _; simp)
theorem bel_ad {w w5 : World} {o : Obj} (h : Below ((w.alloc o).drew).heap.size (w.alloc o).drew w5) : Below w.heap.size w w5 := (below_alloc w o).next (undrew h)
set_option maxHeartbeats 1000000 in
theorem check_out (B J I : Int) (h : ¬ inS B J I) (w : World) : Calls Try.prog 8 #[.agg #[.int .i64 B, .int .i64 J, .int .i64 I]] w fun e w' => e = .returned (.int .i64 60) ∧ Below w.heap.size w w' := by
  by_cases h1 : 16 ≤ B ∧ B ≤ 1024
  · by_cases h2 : 8 ≤ J ∧ J ≤ 256
    · have h3 : ¬ (1 ≤ I ∧ I ≤ 64) := fun h3 => h ⟨h1, h2, h3⟩
      have HL := hid (fun w => limited_i B J I h1 h2 h3 w)
      clear h h1 h2 h3
      go_enter Try.func8, Try.ntmps8
      go_wp2
      go_region_with (first
        | (go_at_call 17; refine (HL.out _).mono ?_; rintro e w1 ⟨⟨I', rfl, hne⟩, hb1⟩; obtain ⟨q0, q1, q2⟩ := three_cells (var_ad hb1); have HB := hid (bel_ad hb1); clear hb1))
      all_goals
        go_wp2
        go_ret
        exact ⟨rfl, HB.out⟩
    · have HL := hid (fun w => limited_j B J I h1 h2 w)
      clear h h1 h2
      go_enter Try.func8, Try.ntmps8
      go_wp2
      go_region_with (first
        | (go_at_call 17; refine (HL.out _).mono ?_; rintro e w1 ⟨⟨J', I', rfl, hne⟩, hb1⟩; obtain ⟨q0, q1, q2⟩ := three_cells (var_ad hb1); have HB := hid (bel_ad hb1); clear hb1))
      all_goals
        go_wp2
        go_ret
        exact ⟨rfl, HB.out⟩
  · have HL := hid (fun w => limited_b B J I h1 w)
    clear h h1
    go_enter Try.func8, Try.ntmps8
    go_wp2
    go_region_with (first
      | (go_at_call 17; refine (HL.out _).mono ?_; rintro e w1 ⟨⟨B', J', I', rfl, hne⟩, hb1⟩; obtain ⟨q0, q1, q2⟩ := three_cells (var_ad hb1); have HB := hid (bel_ad hb1); clear hb1))
    all_goals
      go_wp2
      go_ret
      exact ⟨rfl, HB.out⟩
set_option maxHeartbeats 1000000 in
theorem check_none (B J I : Int) (h : inS B J I) (hz : ¬ 2 + J + (I + 3) / 4 + 4 ≤ B) (w : World) : Calls Try.prog 8 #[.agg #[.int .i64 B, .int .i64 J, .int .i64 I]] w fun e w' => e = .returned (.int .i64 60) ∧ Below w.heap.size w w' := by
  have HL := hid (fun w => limited_in B J I h w)
  have HR := hid (fun w => regions_any B J I h.1 h.2.1 h.2.2 w)
  obtain ⟨D, hD⟩ : ∃ D, D = B - (2 + J + (I + 3) / 4) := ⟨_, rfl⟩
  rw [← hD] at HR
  have hlt : D < 4 := by omega
  obtain ⟨E, hE⟩ : ∃ E, E = 2 + J + (I + 3) / 4 := ⟨_, rfl⟩
  rw [← hE] at HR
  clear hD hE hz h
  have hfl := run_field5
  go_enter Try.func8, Try.ntmps8
  go_wp2
  go_region_held3 (fun w' => w'.cell? ⟨w.heap.size, 0, none⟩ = some (.int .i64 B) ∧ w'.cell? ⟨w.heap.size, 1, none⟩ = some (.int .i64 J) ∧ w'.cell? ⟨w.heap.size, 2, none⟩ = some (.int .i64 I)) (first | exact ⟨q0, q1, q2⟩ | go_keep) (first
    | (go_at_call 17; refine (HL.out _).mono ?_; rintro e w1 ⟨rfl, hb1⟩; obtain ⟨q0, q1, q2⟩ := three_cells (var_ad hb1); have HB := hid (bel_ad hb1); have HV := hid (var_ad hb1); clear hb1)
    | (go_at_call 15; refine (HR.out _).mono ?_; rintro e w2 ⟨rfl, hb2⟩; clear q0 q1 q2; obtain ⟨q0, q1, q2⟩ := three_cells ((hb2.block _ (lt_of_block HV.out)).trans HV.out); have HB2 := hid (HB.out.next hb2); clear hb2))
  all_goals
    go_wp2
    go_ret
    exact ⟨rfl, HB2.out⟩
set_option maxHeartbeats 1000000 in
theorem check_ok (B J I : Int) (h : okS B J I) (w : World) : Calls Try.prog 8 #[.agg #[.int .i64 B, .int .i64 J, .int .i64 I]] w fun e w' => e = .returned (.int .i64 0) ∧ Below w.heap.size w w' := by
  obtain ⟨h, hz⟩ := h
  have HL := hid (fun w => limited_in B J I h w)
  have HR := hid (fun w => regions_any B J I h.1 h.2.1 h.2.2 w)
  obtain ⟨D, hD⟩ : ∃ D, D = B - (2 + J + (I + 3) / 4) := ⟨_, rfl⟩
  rw [← hD] at HR
  have hlt : ¬ D < 4 := by omega
  obtain ⟨E, hE⟩ : ∃ E, E = 2 + J + (I + 3) / 4 := ⟨_, rfl⟩
  rw [← hE] at HR
  clear hD hE hz h
  have hfl := run_field5
  go_enter Try.func8, Try.ntmps8
  go_wp2
  go_region_held3 (fun w' => w'.cell? ⟨w.heap.size, 0, none⟩ = some (.int .i64 B) ∧ w'.cell? ⟨w.heap.size, 1, none⟩ = some (.int .i64 J) ∧ w'.cell? ⟨w.heap.size, 2, none⟩ = some (.int .i64 I)) (first | exact ⟨q0, q1, q2⟩ | go_keep) (first
    | (go_at_call 17; refine (HL.out _).mono ?_; rintro e w1 ⟨rfl, hb1⟩; obtain ⟨q0, q1, q2⟩ := three_cells (var_ad hb1); have HB := hid (bel_ad hb1); have HV := hid (var_ad hb1); clear hb1)
    | (go_at_call 15; refine (HR.out _).mono ?_; rintro e w2 ⟨rfl, hb2⟩; clear q0 q1 q2; obtain ⟨q0, q1, q2⟩ := three_cells ((hb2.block _ (lt_of_block HV.out)).trans HV.out); have HB2 := hid (HB.out.next hb2); clear hb2))
  all_goals
    go_wp2
    go_ret
    exact ⟨rfl, HB2.out⟩
theorem check_bad (B J I : Int) (h : ¬ okS B J I) (w : World) : Calls Try.prog 8 #[.agg #[.int .i64 B, .int .i64 J, .int .i64 I]] w fun e w' => e = .returned (.int .i64 60) ∧ Below w.heap.size w w' := by
  by_cases h1 : inS B J I
  · exact check_none B J I h1 (fun h2 => h ⟨h1, h2⟩) w
  · exact check_out B J I h1 w
end Go.Proofs.Ytbcnnolidhggnaa
