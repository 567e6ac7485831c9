import Derived.Test.YtopebghandojbaaGreatSl
import Derived.Deep.RegionHeld3
import Derived.Test.YtopebghandojbaaGreatUb
import Derived.Test.YtopebghandojbaaGreatTk
namespace Go.Proofs.YtopebghandojbaaGreat.Sh
open Go.RowKit
theorem limited_any (B J I : Int) (w : World) : Calls Tryz.prog 117 #[.agg #[.int .i64 B, .int .i64 J, .int .i64 I]] w fun e w' => e = .returned (.agg #[.int .i64 (min (max B 16) 1024), .int .i64 (min (max J 8) 256), .int .i64 (min (max I 1) 64)]) ∧ Below w.heap.size w w' := by
  go_enter Tryz.func117, Tryz.ntmps117
  go_wp2
  all_goals
    refine bodyPost_ret (v := .agg #[.int .i64 (min (max B 16) 1024), .int .i64 (min (max J 8) 256), .int .i64 (min (max I 1) 64)]) (by (simp [results, Tryz.results117, go_sem]) <;> omega) rfl ⟨rfl, ?_⟩
    exact ((Below.refl _ _).alloc (Nat.le_refl _) _).alloc (by simp) _
theorem regions_any (B J I : Int) (hB : 16 ≤ B ∧ B ≤ 1024) (hJ : 8 ≤ J ∧ J ≤ 256) (hI : 1 ≤ I ∧ I ≤ 64) (w : World) : Calls Tryz.prog 84 #[.agg #[.int .i64 B, .int .i64 J, .int .i64 I]] w fun e w' => e = .returned (.agg #[.int .i64 1, .int .i64 (1 + J), .int .i64 (2 + J), .int .i64 (2 + J + (I + 3) / 4), .int .i64 (B - (2 + J + (I + 3) / 4))]) ∧ Below w.heap.size w w' := by
  obtain ⟨hB1, hB2⟩ := hB
  obtain ⟨hJ1, hJ2⟩ := hJ
  obtain ⟨hI1, hI2⟩ := hI
  go_enter Tryz.func84, Tryz.ntmps84
  go_wp2
  refine bodyPost_ret (v := .agg #[.int .i64 1, .int .i64 (1 + J), .int .i64 (2 + J), .int .i64 (2 + J + (I + 3) / 4), .int .i64 (B - (2 + J + (I + 3) / 4))]) (by simp [results, Tryz.results84, go_sem]; omega) rfl ⟨rfl, ?_⟩
  exact ((Below.refl _ _).alloc (Nat.le_refl _) _).alloc (by simp) _
theorem table_any (B J I : Int) (hI : 1 ≤ I ∧ I ≤ 64) (w : World) : Calls Tryz.prog 122 #[.agg #[.int .i64 B, .int .i64 J, .int .i64 I]] w fun e w' => e = .returned (.int .i64 ((I + 3) / 4)) ∧ Below w.heap.size w w' := by
  obtain ⟨hI1, hI2⟩ := hI
  go_enter Tryz.func122, Tryz.ntmps122
  go_wp2
  go_loop [3] (fun i => ∃ k : Nat, i = .int .i64 k ∧ (k : Int) ≤ (I + 3) / 4) (fun i => 100 - (intOf i).toNat)
  case atStart => exact ⟨0, rfl, by omega⟩
  case round =>
    obtain ⟨k, rfl, hk⟩ := hrel
    by_cases hlt : 4 * (k : Int) < I
    · go_wp2
      go_round
      case rel => exact ⟨k + 1, by go_num, by omega⟩
      case measure => simp [intOf]; omega
    · go_wp2
      go_ret
      exact ⟨ret_int (by omega), below_alloc _ _⟩
end Go.Proofs.YtopebghandojbaaGreat.Sh
namespace Go.Proofs.YtopebghandojbaaGreat.Sh
open Go.RowKit

/-- is each number of a shape within its limits? -/
def inS (B J I : Int) : Prop := (16 ≤ B ∧ B ≤ 1024) ∧ (8 ≤ J ∧ J ≤ 256) ∧ (1 ≤ I ∧ I ≤ 64)
/-- is a shape one? -/
def okS (B J I : Int) : Prop := inS B J I ∧ 2 + J + (I + 3) / 4 + 4 ≤ B
theorem limited_in (B J I : Int) (h : inS B J I) (w : World) : Calls Tryz.prog 117 #[.agg #[.int .i64 B, .int .i64 J, .int .i64 I]] w fun e w' => e = .returned (.agg #[.int .i64 B, .int .i64 J, .int .i64 I]) ∧ Below w.heap.size w w' := by
  have k := limited_any B J I w
  unfold inS at h
  rw [show min (max B 16) 1024 = B by omega, show min (max J 8) 256 = J by omega, show min (max I 1) 64 = I by omega] at k
  exact k
theorem limited_b (B J I : Int) (h : ¬ (16 ≤ B ∧ B ≤ 1024)) (w : World) : Calls Tryz.prog 117 #[.agg #[.int .i64 B, .int .i64 J, .int .i64 I]] w fun e w' => (∃ B' J' I', e = .returned (.agg #[.int .i64 B', .int .i64 J', .int .i64 I']) ∧ (B == B') = false) ∧ Below w.heap.size w w' :=
  (limited_any B J I w).mono fun e w' k => ⟨⟨_, _, _, k.1, by simp; omega⟩, k.2⟩
theorem limited_j (B J I : Int) (h : 16 ≤ B ∧ B ≤ 1024) (h2 : ¬ (8 ≤ J ∧ J ≤ 256)) (w : World) : Calls Tryz.prog 117 #[.agg #[.int .i64 B, .int .i64 J, .int .i64 I]] w fun e w' => (∃ J' I', e = .returned (.agg #[.int .i64 B, .int .i64 J', .int .i64 I']) ∧ (J == J') = false) ∧ Below w.heap.size w w' := by
  have k := limited_any B J I w
  rw [show min (max B 16) 1024 = B by omega] at k
  exact k.mono fun e w' k => ⟨⟨_, _, k.1, by simp; omega⟩, k.2⟩
theorem limited_i (B J I : Int) (h : 16 ≤ B ∧ B ≤ 1024) (h2 : 8 ≤ J ∧ J ≤ 256) (h3 : ¬ (1 ≤ I ∧ I ≤ 64)) (w : World) : Calls Tryz.prog 117 #[.agg #[.int .i64 B, .int .i64 J, .int .i64 I]] w fun e w' => (∃ I', e = .returned (.agg #[.int .i64 B, .int .i64 J, .int .i64 I']) ∧ (I == I') = false) ∧ Below w.heap.size w w' := by
  have k := limited_any B J I w
  rw [show min (max B 16) 1024 = B by omega, show min (max J 8) 256 = J by omega] at k
  exact k.mono fun e w' k => ⟨⟨_, k.1, by simp; omega⟩, k.2⟩
theorem run_field5 (a b c d e : Value) (w : World) : (Instr.field 84 (.agg #[a, b, c, d, e]) 4).run Tryz.prog w = .ok e w := by
  simp [Instr.field, go_sem, asAgg]
theorem three_cells {w : World} {g : Nat} {a b c : Value} {t : TypeId} (hh : w.heap[g]? = some (.cells #[a, b, c] t (0, 0))) : w.cell? ⟨g, 0, none⟩ = some a ∧ w.cell? ⟨g, 1, none⟩ = some b ∧ w.cell? ⟨g, 2, none⟩ = some c := by
  refine ⟨?_, ?_, ?_⟩ <;> simp [World.cell?, hh]
theorem undrew {w w' : World} (h : Below w.drew.heap.size w.drew w') : Below w.heap.size w w' := ⟨h.os, h.tape, h.output, h.size, h.block⟩
theorem var_ad {w w5 : World} {o : Obj} (h : Below ((w.alloc o).drew).heap.size (w.alloc o).drew w5) : w5.heap[w.heap.size]? = some o :=
  (h.block _ (by show _ < (w.heap.push o).size; simp)).trans (by show (w.heap.push o)[_]? = _; simp)
theorem var_a {w w5 : World} {o : Obj} (h : Below (w.alloc o).heap.size (w.alloc o) w5) : w5.heap[w.heap.size]? = some o :=
  (h.block _ (by show _ < (w.heap.push o).size; simp)).trans (by show (w.heap.push o)[_]? = _; simp)
theorem bel_ad {w w5 : World} {o : Obj} (h : Below ((w.alloc o).drew).heap.size (w.alloc o).drew w5) : Below w.heap.size w w5 := (below_alloc w o).next (undrew h)
set_option maxHeartbeats 1000000 in
theorem check_out (B J I : Int) (h : ¬ inS B J I) (w : World) : Calls Tryz.prog 83 #[.agg #[.int .i64 B, .int .i64 J, .int .i64 I]] w fun e w' => e = .returned (.int .i64 60) ∧ Below w.heap.size w w' := by
  by_cases h1 : 16 ≤ B ∧ B ≤ 1024
  · by_cases h2 : 8 ≤ J ∧ J ≤ 256
    · have h3 : ¬ (1 ≤ I ∧ I ≤ 64) := fun h3 => h ⟨h1, h2, h3⟩
      have HL := hid (fun w => limited_i B J I h1 h2 h3 w)
      clear h h1 h2 h3
      go_enter Tryz.func83, Tryz.ntmps83
      go_wp2
      go_region_with (first
        | (go_at_call 117; refine (HL.out _).mono ?_; rintro e w1 ⟨⟨I', rfl, hne⟩, hb1⟩; obtain ⟨q0, q1, q2⟩ := three_cells (var_ad hb1); have HB := hid (bel_ad hb1); clear hb1))
      all_goals
        go_wp2
        go_ret
        exact ⟨rfl, HB.out⟩
    · have HL := hid (fun w => limited_j B J I h1 h2 w)
      clear h h1 h2
      go_enter Tryz.func83, Tryz.ntmps83
      go_wp2
      go_region_with (first
        | (go_at_call 117; refine (HL.out _).mono ?_; rintro e w1 ⟨⟨J', I', rfl, hne⟩, hb1⟩; obtain ⟨q0, q1, q2⟩ := three_cells (var_ad hb1); have HB := hid (bel_ad hb1); clear hb1))
      all_goals
        go_wp2
        go_ret
        exact ⟨rfl, HB.out⟩
  · have HL := hid (fun w => limited_b B J I h1 w)
    clear h h1
    go_enter Tryz.func83, Tryz.ntmps83
    go_wp2
    go_region_with (first
      | (go_at_call 117; refine (HL.out _).mono ?_; rintro e w1 ⟨⟨B', J', I', rfl, hne⟩, hb1⟩; obtain ⟨q0, q1, q2⟩ := three_cells (var_ad hb1); have HB := hid (bel_ad hb1); clear hb1))
    all_goals
      go_wp2
      go_ret
      exact ⟨rfl, HB.out⟩
set_option maxHeartbeats 1000000 in
theorem check_none (B J I : Int) (h : inS B J I) (hz : ¬ 2 + J + (I + 3) / 4 + 4 ≤ B) (w : World) : Calls Tryz.prog 83 #[.agg #[.int .i64 B, .int .i64 J, .int .i64 I]] w fun e w' => e = .returned (.int .i64 60) ∧ Below w.heap.size w w' := by
  have HL := hid (fun w => limited_in B J I h w)
  have HR := hid (fun w => regions_any B J I h.1 h.2.1 h.2.2 w)
  obtain ⟨D, hD⟩ : ∃ D, D = B - (2 + J + (I + 3) / 4) := ⟨_, rfl⟩
  rw [← hD] at HR
  have hlt : D < 4 := by omega
  obtain ⟨E, hE⟩ : ∃ E, E = 2 + J + (I + 3) / 4 := ⟨_, rfl⟩
  rw [← hE] at HR
  clear hD hE hz h
  have hfl := run_field5
  go_enter Tryz.func83, Tryz.ntmps83
  go_wp2
  go_region_held3 (fun w' => w'.cell? ⟨w.heap.size, 0, none⟩ = some (.int .i64 B) ∧ w'.cell? ⟨w.heap.size, 1, none⟩ = some (.int .i64 J) ∧ w'.cell? ⟨w.heap.size, 2, none⟩ = some (.int .i64 I)) (first | exact ⟨q0, q1, q2⟩ | go_keep) (first
    | (go_at_call 117; refine (HL.out _).mono ?_; rintro e w1 ⟨rfl, hb1⟩; obtain ⟨q0, q1, q2⟩ := three_cells (var_ad hb1); have HB := hid (bel_ad hb1); have HV := hid (var_ad hb1); clear hb1)
    | (go_at_call 84; refine (HR.out _).mono ?_; rintro e w2 ⟨rfl, hb2⟩; clear q0 q1 q2; obtain ⟨q0, q1, q2⟩ := three_cells ((hb2.block _ (lt_of_block HV.out)).trans HV.out); have HB2 := hid (HB.out.next hb2); clear hb2))
  all_goals
    go_wp2
    go_ret
    exact ⟨rfl, HB2.out⟩
set_option maxHeartbeats 1000000 in
theorem check_ok (B J I : Int) (h : okS B J I) (w : World) : Calls Tryz.prog 83 #[.agg #[.int .i64 B, .int .i64 J, .int .i64 I]] w fun e w' => e = .returned (.int .i64 0) ∧ Below w.heap.size w w' := by
  obtain ⟨h, hz⟩ := h
  have HL := hid (fun w => limited_in B J I h w)
  have HR := hid (fun w => regions_any B J I h.1 h.2.1 h.2.2 w)
  obtain ⟨D, hD⟩ : ∃ D, D = B - (2 + J + (I + 3) / 4) := ⟨_, rfl⟩
  rw [← hD] at HR
  have hlt : ¬ D < 4 := by omega
  obtain ⟨E, hE⟩ : ∃ E, E = 2 + J + (I + 3) / 4 := ⟨_, rfl⟩
  rw [← hE] at HR
  clear hD hE hz h
  have hfl := run_field5
  go_enter Tryz.func83, Tryz.ntmps83
  go_wp2
  go_region_held3 (fun w' => w'.cell? ⟨w.heap.size, 0, none⟩ = some (.int .i64 B) ∧ w'.cell? ⟨w.heap.size, 1, none⟩ = some (.int .i64 J) ∧ w'.cell? ⟨w.heap.size, 2, none⟩ = some (.int .i64 I)) (first | exact ⟨q0, q1, q2⟩ | go_keep) (first
    | (go_at_call 117; refine (HL.out _).mono ?_; rintro e w1 ⟨rfl, hb1⟩; obtain ⟨q0, q1, q2⟩ := three_cells (var_ad hb1); have HB := hid (bel_ad hb1); have HV := hid (var_ad hb1); clear hb1)
    | (go_at_call 84; refine (HR.out _).mono ?_; rintro e w2 ⟨rfl, hb2⟩; clear q0 q1 q2; obtain ⟨q0, q1, q2⟩ := three_cells ((hb2.block _ (lt_of_block HV.out)).trans HV.out); have HB2 := hid (HB.out.next hb2); clear hb2))
  all_goals
    go_wp2
    go_ret
    exact ⟨rfl, HB2.out⟩
theorem check_bad (B J I : Int) (h : ¬ okS B J I) (w : World) : Calls Tryz.prog 83 #[.agg #[.int .i64 B, .int .i64 J, .int .i64 I]] w fun e w' => e = .returned (.int .i64 60) ∧ Below w.heap.size w w' := by
  by_cases h1 : inS B J I
  · exact check_none B J I h1 (fun h2 => h ⟨h1, h2⟩) w
  · exact check_out B J I h1 w
end Go.Proofs.YtopebghandojbaaGreat.Sh
namespace Go.Proofs.YtopebghandojbaaGreat.Sh
open Go.RowKit

theorem var_2 {w w5 : World} {o1 o2 : Obj} (h : Below ((w.alloc o1).alloc o2).heap.size ((w.alloc o1).alloc o2) w5) : w5.heap[w.heap.size]? = some o1 ∧ w5.heap[w.heap.size + 1]? = some o2 := by
  constructor
  · exact (h.block _ (by show _ < ((w.heap.push o1).push o2).size; simp; omega)).trans (by show ((w.heap.push o1).push o2)[_]? = _; rw [Array.getElem?_push, if_neg (by simp), Array.getElem?_push, if_pos rfl])
  · exact (h.block _ (by show _ < ((w.heap.push o1).push o2).size; simp)).trans (by show ((w.heap.push o1).push o2)[_]? = _; rw [Array.getElem?_push, if_pos (by simp)])
theorem bel_2 {w w5 : World} {o1 o2 : Obj} (h : Below ((w.alloc o1).alloc o2).heap.size ((w.alloc o1).alloc o2) w5) : Below w.heap.size w w5 := ((below_alloc w o1).next (below_alloc _ o2)).next h
theorem bel_drewN {B : Nat} {w w' : World} (h : Below B w w') (n : Nat) : Below B w (w'.drewN n) := ⟨h.os, h.tape, h.output, h.size, h.block⟩
theorem frees {w : World} {g : Nat} {cs : Array Value} {t : TypeId} (hh : w.heap[g]? = some (.cells cs t (0, 0))) (i : Nat) : w.frozen? ⟨g, i, none⟩ = false := by simp [World.frozen?, hh]
theorem five_cells {w : World} {g : Nat} {a b c d e : Value} {t : TypeId} (hh : w.heap[g]? = some (.cells #[a, b, c, d, e] t (0, 0))) : w.cell? ⟨g, 0, none⟩ = some a ∧ w.cell? ⟨g, 1, none⟩ = some b ∧ w.cell? ⟨g, 2, none⟩ = some c ∧ w.cell? ⟨g, 3, none⟩ = some d ∧ w.cell? ⟨g, 4, none⟩ = some e := by
  refine ⟨?_, ?_, ?_, ?_, ?_⟩ <;> simp [World.cell?, hh]
/-- a shape's regions -/
def regS (B J I : Int) : Value := .agg #[.int .i64 1, .int .i64 (1 + J), .int .i64 (2 + J), .int .i64 (2 + J + (I + 3) / 4), .int .i64 (B - (2 + J + (I + 3) / 4))]
set_option maxHeartbeats 1000000 in
theorem of_ok (B J I : Int) (h : okS B J I) (w : World) : Calls Tryz.prog 40 #[.agg #[.int .i64 B, .int .i64 J, .int .i64 I]] w fun e w' => e = .returned (.tuple #[regS B J I, .int .i64 0]) ∧ Below w.heap.size w w' := by
  have HC := hid (fun w => check_ok B J I h w)
  have HR := hid (fun w => regions_any B J I h.1.1 h.1.2.1 h.1.2.2 w)
  unfold regS
  obtain ⟨D, hD⟩ : ∃ D, D = B - (2 + J + (I + 3) / 4) := ⟨_, rfl⟩
  obtain ⟨E, hE⟩ : ∃ E, E = 2 + J + (I + 3) / 4 := ⟨_, rfl⟩
  rw [← hD] at HR ⊢
  rw [← hE] at HR ⊢
  clear hD hE h
  go_enter Tryz.func40, Tryz.ntmps40
  go_wp2_with (first
    | (go_at_call 83; refine (HC.out _).mono ?_; rintro e w1 ⟨rfl, hb1⟩; obtain ⟨v1, v2⟩ := var_2 hb1; have HV := hid v2; have HB1 := hid (bel_2 hb1); obtain ⟨q0, q1, q2⟩ := three_cells v1; clear hb1 v1 v2)
    | (go_at_call 84; refine (HR.out _).mono ?_; rintro e w2 ⟨rfl, hb2⟩; have v3 := (hb2.block _ (lt_of_block HV.out)).trans HV.out; have HB2 := hid (HB1.out.next hb2); have HV2 := hid v3; clear q0 q1 q2; obtain ⟨q0, q1, q2, q3, q4⟩ := five_cells v3; have hfr := frees v3; clear v3 hb2))
  refine bodyPost_ret (v := .tuple #[.agg #[.int .i64 1, .int .i64 (1 + J), .int .i64 (2 + J), .int .i64 E, .int .i64 D], .int .i64 0]) (by simp [results, Tryz.results40, go_sem, q0, q1, q2, q3, q4]) rfl ⟨rfl, ?_⟩
  exact ((((HB2.out.setCell (by simp) _).setCell (by simp) _).setCell (by simp) _).setCell (by simp) _).setCell (by simp) _
theorem right_in (B J I : Int) (h : inS B J I) (w : World) : Calls Tryz.prog 91 #[.agg #[.int .i64 B, .int .i64 J, .int .i64 I]] w fun e w' => e = .returned (.bool (decide (2 + J + (I + 3) / 4 + 4 ≤ B))) ∧ Below w.heap.size w w' := by
  have HT := hid (fun w => table_any B J I h.2.2 w)
  obtain ⟨⟨h1, h2⟩, ⟨h3, h4⟩, h5, h6⟩ := h
  obtain ⟨T, hT⟩ : ∃ T, T = (I + 3) / 4 := ⟨_, rfl⟩
  rw [← hT] at HT ⊢
  have hT0 : 0 ≤ T := by omega
  have hT1 : T ≤ 16 := by omega
  clear hT
  have hw1 : IntKind.i64.wrap (2 + J) = 2 + J := by rw [IntKind.wrap_i64]; omega
  have hw2 : IntKind.i64.wrap (2 + J + T) = 2 + J + T := by rw [IntKind.wrap_i64]; omega
  have hw3 : IntKind.i64.wrap (2 + J + T + 4) = 2 + J + T + 4 := by rw [IntKind.wrap_i64]; omega
  go_enter Tryz.func91, Tryz.ntmps91
  go_wp2
  go_region_held3 (fun w' => w'.cell? ⟨w.heap.size, 0, none⟩ = some (.int .i64 B) ∧ w'.cell? ⟨w.heap.size, 1, none⟩ = some (.int .i64 J) ∧ w'.cell? ⟨w.heap.size, 2, none⟩ = some (.int .i64 I)) (first | exact ⟨q0, q1, q2⟩ | go_keep) (first
    | (go_at_call 122; refine (HT.out _).mono ?_; rintro e w1 ⟨rfl, hb1⟩; obtain ⟨q0, q1, q2⟩ := three_cells (var_ad hb1); have HB := hid (bel_ad hb1); clear hb1))
  all_goals
    go_wp2
    go_ret
    exact ⟨rfl, HB.out⟩
theorem right_a (B J I : Int)  (hn : ¬ 16 ≤ B) (w : World) : Calls Tryz.prog 91 #[.agg #[.int .i64 B, .int .i64 J, .int .i64 I]] w fun e w' => e = .returned (.bool false) ∧ Below w.heap.size w w' := by
  have hd : decide (16 ≤ B) = false := by simpa using hn
  go_enter Tryz.func91, Tryz.ntmps91
  go_wp2
  go_quiet (fail)
  all_goals
    go_wp2
    go_ret
    exact ⟨rfl, by first | exact below_alloc _ _ | exact bel_drewN (below_alloc _ _) _ | exact (below_alloc _ _).drew⟩
theorem right_b (B J I : Int) (h0 : 16 ≤ B) (hn : ¬ B ≤ 1024) (w : World) : Calls Tryz.prog 91 #[.agg #[.int .i64 B, .int .i64 J, .int .i64 I]] w fun e w' => e = .returned (.bool false) ∧ Below w.heap.size w w' := by
  have hd : decide (B ≤ 1024) = false := by simpa using hn
  go_enter Tryz.func91, Tryz.ntmps91
  go_wp2
  go_quiet (fail)
  all_goals
    go_wp2
    go_ret
    exact ⟨rfl, by first | exact below_alloc _ _ | exact bel_drewN (below_alloc _ _) _ | exact (below_alloc _ _).drew⟩
theorem right_c (B J I : Int) (h0 : 16 ≤ B) (h1 : B ≤ 1024) (hn : ¬ 8 ≤ J) (w : World) : Calls Tryz.prog 91 #[.agg #[.int .i64 B, .int .i64 J, .int .i64 I]] w fun e w' => e = .returned (.bool false) ∧ Below w.heap.size w w' := by
  have hd : decide (8 ≤ J) = false := by simpa using hn
  go_enter Tryz.func91, Tryz.ntmps91
  go_wp2
  go_quiet (fail)
  all_goals
    go_wp2
    go_ret
    exact ⟨rfl, by first | exact below_alloc _ _ | exact bel_drewN (below_alloc _ _) _ | exact (below_alloc _ _).drew⟩
theorem right_d (B J I : Int) (h0 : 16 ≤ B) (h1 : B ≤ 1024) (h2 : 8 ≤ J) (hn : ¬ J ≤ 256) (w : World) : Calls Tryz.prog 91 #[.agg #[.int .i64 B, .int .i64 J, .int .i64 I]] w fun e w' => e = .returned (.bool false) ∧ Below w.heap.size w w' := by
  have hd : decide (J ≤ 256) = false := by simpa using hn
  go_enter Tryz.func91, Tryz.ntmps91
  go_wp2
  go_quiet (fail)
  all_goals
    go_wp2
    go_ret
    exact ⟨rfl, by first | exact below_alloc _ _ | exact bel_drewN (below_alloc _ _) _ | exact (below_alloc _ _).drew⟩
theorem right_e (B J I : Int) (h0 : 16 ≤ B) (h1 : B ≤ 1024) (h2 : 8 ≤ J) (h3 : J ≤ 256) (hn : ¬ 1 ≤ I) (w : World) : Calls Tryz.prog 91 #[.agg #[.int .i64 B, .int .i64 J, .int .i64 I]] w fun e w' => e = .returned (.bool false) ∧ Below w.heap.size w w' := by
  have hd : decide (1 ≤ I) = false := by simpa using hn
  go_enter Tryz.func91, Tryz.ntmps91
  go_wp2
  go_quiet (fail)
  all_goals
    go_wp2
    go_ret
    exact ⟨rfl, by first | exact below_alloc _ _ | exact bel_drewN (below_alloc _ _) _ | exact (below_alloc _ _).drew⟩
theorem right_f (B J I : Int) (h0 : 16 ≤ B) (h1 : B ≤ 1024) (h2 : 8 ≤ J) (h3 : J ≤ 256) (h4 : 1 ≤ I) (hn : ¬ I ≤ 64) (w : World) : Calls Tryz.prog 91 #[.agg #[.int .i64 B, .int .i64 J, .int .i64 I]] w fun e w' => e = .returned (.bool false) ∧ Below w.heap.size w w' := by
  have hd : decide (I ≤ 64) = false := by simpa using hn
  go_enter Tryz.func91, Tryz.ntmps91
  go_wp2
  go_quiet (fail)
  all_goals
    go_wp2
    go_ret
    exact ⟨rfl, by first | exact below_alloc _ _ | exact bel_drewN (below_alloc _ _) _ | exact (below_alloc _ _).drew⟩
end Go.Proofs.YtopebghandojbaaGreat.Sh
namespace Go.Proofs.YtopebghandojbaaGreat.Sh
open Go.RowKit

theorem right_ok (B J I : Int) (h : okS B J I) (w : World) : Calls Tryz.prog 91 #[.agg #[.int .i64 B, .int .i64 J, .int .i64 I]] w fun e w' => e = .returned (.bool true) ∧ Below w.heap.size w w' := by
  have k := right_in B J I h.1 w
  rw [decide_eq_true h.2] at k
  exact k
theorem right_bad (B J I : Int) (h : ¬ okS B J I) (w : World) : Calls Tryz.prog 91 #[.agg #[.int .i64 B, .int .i64 J, .int .i64 I]] w fun e w' => e = .returned (.bool false) ∧ Below w.heap.size w w' := by
  by_cases h0 : 16 ≤ B
  · by_cases h1 : B ≤ 1024
    · by_cases h2 : 8 ≤ J
      · by_cases h3 : J ≤ 256
        · by_cases h4 : 1 ≤ I
          · by_cases h5 : I ≤ 64
            · have hi : inS B J I := ⟨⟨h0, h1⟩, ⟨h2, h3⟩, h4, h5⟩
              have k := right_in B J I hi w
              rw [decide_eq_false (fun hh => h ⟨hi, hh⟩)] at k
              exact k
            · exact right_f B J I h0 h1 h2 h3 h4 h5 w
          · exact right_e B J I h0 h1 h2 h3 h4 w
        · exact right_d B J I h0 h1 h2 h3 w
      · exact right_c B J I h0 h1 h2 w
    · exact right_b B J I h0 h1 w
  · exact right_a B J I h0 w

/-- a shape's text, its superblock -/
def superL (b j i : Nat) : List UInt8 := [99, 97, 114, 116] ++ (fEnc b 2 ++ fEnc j 2 ++ fEnc i 2)
def superS (b j i : Nat) : ByteArray := st (sealL (bodyL (superL b j i)))
theorem superL_len (b j i : Nat) : (superL b j i).length = 10 := by
  unfold superL; simp [fEnc_len]
theorem kept3 {base g v : Nat} {o : Obj} {w w' : World} (k : Kept base g w w') (h : w.heap[v]? = some o) (h1 : v < base) (h2 : v ≠ g) : w'.heap[v]? = some o := (k.block v h1 h2).trans h
theorem refSuper_bad (B J I : Int) (h : ¬ okS B J I) (w : World) : Calls Tryz.prog 46 #[.agg #[.int .i64 B, .int .i64 J, .int .i64 I]] w fun e w' => e = .returned (.tuple #[.string ByteArray.empty, .int .i64 60]) ∧ Below w.heap.size w w' := by
  have HC := hid (fun w => right_bad B J I h w)
  clear h
  go_enter Tryz.func46, Tryz.ntmps46
  go_wp2_with (first
    | (go_at_call 91; refine (HC.out _).mono ?_; rintro e w1 ⟨rfl, hb1⟩))
  go_ret2
  exact ⟨rfl, (below_alloc _ _).next hb1⟩
set_option maxRecDepth 100000 in
set_option maxHeartbeats 1000000 in
theorem super_ok (b j i : Nat) (h : okS b j i) (w : World) : Calls Tryz.prog 44 #[.agg #[.int .i64 b, .int .i64 j, .int .i64 i]] w fun e w' => e = .returned (.tuple #[.string (superS b j i), .int .i64 0]) ∧ Below w.heap.size w w' := by
  have HC := hid (fun w => check_ok b j i h w)
  have hb : b < 65536 := by have := h.1.1.2; omega
  have hj : j < 65536 := by have := h.1.2.1.2; omega
  have hi : i < 65536 := by have := h.1.2.2.2; omega
  have HK := hid (fun w => block_any (st (superL b j i)) (by rw [st_size, superL_len]; omega) w)
  rw [st_list] at HK
  obtain ⟨r, hr⟩ : ∃ r, r = superS b j i := ⟨_, rfl⟩
  have HK : Hid (∀ w, Calls Tryz.prog 88 #[.string (st (superL b j i))] w fun e w' => e = .returned (.tuple #[.string r, .int .i64 0]) ∧ Below w.heap.size w w') := by rw [hr]; exact HK
  rw [← hr]
  obtain ⟨l3, hl3⟩ : ∃ l, l = fEnc b 2 ++ fEnc j 2 ++ fEnc i 2 := ⟨_, rfl⟩
  obtain ⟨l2, hl2⟩ : ∃ l, l = fEnc b 2 ++ fEnc j 2 := ⟨_, rfl⟩
  obtain ⟨l1, hl1⟩ : ∃ l, l = fEnc b 2 := ⟨_, rfl⟩
  have n1 : l1.length ≤ 100 := by rw [hl1, fEnc_len]; omega
  have n2 : l2.length ≤ 100 := by rw [hl2, List.length_append, fEnc_len, fEnc_len]; omega
  have HF1 := hid (fun (base g : Nat) w h1 h2 => fixed_w base g b 2 [] (by omega) (by decide) (fits2 _ hb) (by decide) w h1 h2)
  have HF2 := hid (fun (base g : Nat) w h1 h2 => fixed_w base g j 2 l1 (by omega) (by decide) (fits2 _ hj) (by omega) w h1 h2)
  have HF3 := hid (fun (base g : Nat) w h1 h2 => fixed_w base g i 2 l2 (by omega) (by decide) (fits2 _ hi) (by omega) w h1 h2)
  rw [List.nil_append, ← hl1] at HF1
  have e2 : l1 ++ fEnc j 2 = l2 := by rw [hl1, hl2]
  have e3 : l2 ++ fEnc i 2 = l3 := by rw [hl2, hl3]
  rw [e2] at HF2
  rw [e3] at HF3
  obtain ⟨o, ho⟩ : ∃ o, o = st l3 := ⟨_, rfl⟩
  have hos : o.size = 6 := by rw [ho, st_size, hl3, List.length_append, List.length_append, fEnc_len, fEnc_len, fEnc_len]
  have HO := hid (fun base g w h => out_w base g l3 w h)
  rw [← ho] at HO
  have HE : Hid ({ data := #[99, 97, 114, 116] } ++ o = st (superL b j i)) := by
    show _ = _
    rw [ho, superL, ← hl3]; apply ByteArray.ext; simp [st]
  clear hr hl1 hl2 hl3 e2 e3 ho n1 n2 h
  go_enter Tryz.func44, Tryz.ntmps44
  go_wp2_with (first
    | (go_at_call 83; refine (HC.out _).mono ?_; rintro e w1 ⟨rfl, hb1⟩; have HV := hid (var_a hb1); have HB1 := hid ((below_alloc _ _).next hb1); obtain ⟨q0, q1, q2⟩ := three_cells (var_a hb1); clear hb1)
    | (go_at_call 86; refine (new_any _).mono ?_; rintro e w2 ⟨rfl, rfl⟩; have HW0 := hid (WIs.new w1 w1.heap.size); have hlt := lt_of_block HV.out)
    | (go_at_call 87; refine (HF3.out _ _ _ HW2.out (by omega)).mono ?_; rintro e w5 ⟨rfl, hw5, hk5⟩; have HV5 := hid (kept3 hk5 HV4.out hlt (by omega)); have HW3 := hid hw5; have HK5 := hid hk5; have hz5 := hk5.size; clear hw5 hk5 q0 q1 q2; obtain ⟨q0, q1, q2⟩ := three_cells HV5.out)
    | (go_at_call 87; refine (HF2.out _ _ _ HW1.out (by omega)).mono ?_; rintro e w4 ⟨rfl, hw4, hk4⟩; have HV4 := hid (kept3 hk4 HV3.out hlt (by omega)); have HW2 := hid hw4; have HK4 := hid hk4; have hz4 := hk4.size; clear hw4 hk4 q0 q1 q2; obtain ⟨q0, q1, q2⟩ := three_cells HV4.out)
    | (go_at_call 87; refine (HF1.out _ _ _ HW0.out (by simp)).mono ?_; rintro e w3 ⟨rfl, hw3, hk3⟩; have HV3 := hid (kept3 hk3 ((Below.heap_alloc _ _ _ hlt).trans HV.out) hlt (by omega)); have HW1 := hid hw3; have HK3 := hid hk3; have hz3 := hk3.size; simp at hz3; clear hw3 hk3 q0 q1 q2; obtain ⟨q0, q1, q2⟩ := three_cells HV3.out)
    | (go_at_call 89; refine (HO.out _ _ _ HW3.out).mono ?_; rintro e w6 ⟨rfl, hw6⟩; have hw6 := hw6.symm; subst hw6)
    | (go_at_call 88; rw [HE.out]; refine (HK.out _).mono ?_; rintro e w7 ⟨rfl, hb7⟩))
  go_ret2
  have k15 : Below w1.heap.size w1 w5 := (((below_alloc w1 _).trans (HK3.out.below (Nat.le_refl _) (Nat.le_refl _))).trans (HK4.out.below (Nat.le_refl _) (Nat.le_refl _))).trans (HK5.out.below (Nat.le_refl _) (Nat.le_refl _))
  exact ⟨rfl, (HB1.out.next k15).next hb7⟩
set_option maxRecDepth 100000 in
set_option maxHeartbeats 2000000 in
theorem refSuper_ok (b j i : Nat) (h : okS b j i) (w : World) : Calls Tryz.prog 46 #[.agg #[.int .i64 b, .int .i64 j, .int .i64 i]] w fun e w' => e = .returned (.tuple #[.string (superS b j i), .int .i64 0]) ∧ Below w.heap.size w w' := by
  have HC := hid (fun w => right_ok b j i h w)
  have hb : b < 65536 := by have := h.1.1.2; omega
  have hj : j < 65536 := by have := h.1.2.1.2; omega
  have hi : i < 65536 := by have := h.1.2.2.2; omega
  have HK := hid (fun w => refBlock (st (superL b j i)) (by rw [st_size, superL_len]; omega) w)
  rw [st_list] at HK
  obtain ⟨r, hr⟩ : ∃ r, r = superS b j i := ⟨_, rfl⟩
  have HK : Hid (∀ w, Calls Tryz.prog 92 #[.string (st (superL b j i))] w fun e w' => e = .returned (.tuple #[.string r, .int .i64 0]) ∧ Below w.heap.size w w') := by rw [hr]; exact HK
  rw [← hr]
  have HF1 := hid (fun w => refFixed b 2 (by omega) (by decide) w)
  have HF2 := hid (fun w => refFixed j 2 (by omega) (by decide) w)
  have HF3 := hid (fun w => refFixed i 2 (by omega) (by decide) w)
  obtain ⟨x1, hx1⟩ : ∃ x, x = st (fEnc b 2) := ⟨_, rfl⟩
  obtain ⟨x2, hx2⟩ : ∃ x, x = st (fEnc j 2) := ⟨_, rfl⟩
  obtain ⟨x3, hx3⟩ : ∃ x, x = st (fEnc i 2) := ⟨_, rfl⟩
  have s1 : x1.size = 2 := by rw [hx1, st_size, fEnc_len]
  have s2 : x2.size = 2 := by rw [hx2, st_size, fEnc_len]
  have s3 : x3.size = 2 := by rw [hx3, st_size, fEnc_len]
  rw [← hx1] at HF1
  rw [← hx2] at HF2
  rw [← hx3] at HF3
  have HE : Hid ({ data := #[99, 97, 114, 116] } ++ x1 ++ x2 ++ x3 = st (superL b j i)) := by
    show _ = _
    rw [hx1, hx2, hx3, superL]; apply ByteArray.ext; simp [st]
  clear hr hx1 hx2 hx3 h
  go_enter Tryz.func46, Tryz.ntmps46
  go_wp2_with (first
    | (go_at_call 91; refine (HC.out _).mono ?_; rintro e w1 ⟨rfl, hb1⟩; have HV := hid (var_a hb1); have HB1 := hid ((below_alloc _ _).next hb1); obtain ⟨q0, q1, q2⟩ := three_cells (var_a hb1); clear hb1))
  go_region_held3 (fun w' => w'.cell? ⟨w.heap.size, 0, none⟩ = some (.int .i64 b) ∧ w'.cell? ⟨w.heap.size, 1, none⟩ = some (.int .i64 j) ∧ w'.cell? ⟨w.heap.size, 2, none⟩ = some (.int .i64 i)) (first | exact ⟨q0, q1, q2⟩ | go_keep) (first
    | (go_at_call 92; rw [HE.out]; refine (HK.out _).mono ?_; rintro e w7 ⟨rfl, hb7⟩; have HV7 := hid ((hb7.block _ (lt_of_block HV4.out)).trans HV4.out); have HB7 := hid (HB4.out.next hb7); clear hb7 q0 q1 q2; obtain ⟨q0, q1, q2⟩ := three_cells HV7.out)
    | (go_at_call 93; have hk := HV3; clear hk; refine (HF3.out _).mono ?_; rintro e w4 ⟨rfl, hb4⟩; have HV4 := hid ((hb4.block _ (lt_of_block HV3.out)).trans HV3.out); have HB4 := hid (HB3.out.next hb4); clear hb4 q0 q1 q2; obtain ⟨q0, q1, q2⟩ := three_cells HV4.out)
    | (go_at_call 93; have hk := HV2; clear hk; refine (HF2.out _).mono ?_; rintro e w3 ⟨rfl, hb3⟩; have HV3 := hid ((hb3.block _ (lt_of_block HV2.out)).trans HV2.out); have HB3 := hid (HB2.out.next hb3); clear hb3 q0 q1 q2; obtain ⟨q0, q1, q2⟩ := three_cells HV3.out)
    | (go_at_call 93; refine (HF1.out _).mono ?_; rintro e w2 ⟨rfl, hb2⟩; have HV2 := hid (((undrew hb2).block _ (lt_of_block HV.out)).trans HV.out); have HB2 := hid (HB1.out.next (undrew hb2)); clear hb2 q0 q1 q2; obtain ⟨q0, q1, q2⟩ := three_cells HV2.out))
  all_goals
    go_wp2
    go_ret2
    exact ⟨rfl, HB7.out⟩
end Go.Proofs.YtopebghandojbaaGreat.Sh
namespace Go.Proofs.YtopebghandojbaaGreat.Sh
open Go.RowKit

def endV (s : ByteArray) (e : Int) : Int := if e ≠ 0 then e else if s.size = 0 then 0 else 4
theorem end_r (g : Nat) (s : ByteArray) (e : Int) (w : World) (h : RIs g w s e) : Calls Tryz.prog 98 #[.pointer (some ⟨g, 0, none⟩)] w fun x w' => x = .returned (.int .i64 (endV s e)) ∧ w' = w := by
  have h0 := h.c0
  have h1 := h.c1
  by_cases he : e = 0
  · subst he
    by_cases hs : s.size = 0
    · have hl : s = ByteArray.empty := by
        apply ByteArray.ext; exact Array.eq_empty_of_size_eq_zero hs
      subst hl
      go_enter Tryz.func98, Tryz.ntmps98
      go_wp2
      go_ret
      exact ⟨rfl, rfl⟩
    · have hl : s.toList.isEmpty = false := by
        rw [Lib.toList_data]
        cases hq : s.data.toList with
        | nil => exact absurd (by have := congrArg List.length hq; simpa using this) hs
        | cons a t => rfl
      have hv : endV s 0 = 4 := by unfold endV; rw [if_neg (by decide), if_neg hs]
      rw [hv]
      go_enter Tryz.func98, Tryz.ntmps98
      go_wp2
      go_ret
      exact ⟨rfl, rfl⟩
  · have he' : (e != 0) = true := by simp [he]
    have hv : endV s e = e := by unfold endV; rw [if_pos he]
    rw [hv]
    clear he hv
    go_enter Tryz.func98, Tryz.ntmps98
    go_wp2
    go_ret
    exact ⟨rfl, rfl⟩
/-- a number of two bytes, read: the number, what is left, what is wrong -/
def fxN (s : ByteArray) (e : Int) : Nat := if e ≠ 0 then 0 else if s.size < 2 then 0 else fval (s.data.toList.take 2)
def fxS (s : ByteArray) (e : Int) : ByteArray := if e ≠ 0 then s else if s.size < 2 then s else s.extract 2 s.size
def fxE (s : ByteArray) (e : Int) : Int := if e ≠ 0 then e else if s.size < 2 then 20 else 0
theorem fval2_lt (l : List UInt8) : fval (l.take 2) < 65536 := by
  rw [fval_big]; exact big2_lt l
theorem fix2_r (g : Nat) (s : ByteArray) (e : Int) (hs : s.size ≤ maxLen) (w : World) (h : RIs g w s e) :
    Calls Tryz.prog 97 #[.pointer (some ⟨g, 0, none⟩), .int .i64 2] w fun x w' => (∃ y, x = .returned (.tuple #[.int .i64 (fxN s e), .int .i64 y])) ∧ RIs g w' (fxS s e) (fxE s e) ∧ Kept w.heap.size g w w' := by
  unfold fxN fxS fxE
  by_cases he : e ≠ 0
  · rw [if_pos he, if_pos he, if_pos he]
    exact (fixedr_err g s e 2 (by decide) w h he).mono fun x w' k => ⟨⟨_, k.1⟩, by rw [k.2]; exact h, by rw [k.2]; exact Kept.refl _ _ _⟩
  · rw [if_neg he, if_neg he, if_neg he]
    have he : e = 0 := by omega
    subst he
    by_cases h2 : s.size < 2
    · rw [if_pos h2, if_pos h2, if_pos h2]
      exact (fixedr_cut g s 2 (by decide) h2 (by decide) w h).mono fun x w' k => ⟨⟨_, k.1⟩, k.2⟩
    · rw [if_neg h2, if_neg h2, if_neg h2]
      exact (fixedr_ok g s 2 (by decide) (by omega) (by decide) hs (by have := fval2_lt s.data.toList; omega) w h).mono fun x w' k => ⟨⟨_, k.1⟩, k.2⟩
def cartS : ByteArray := { data := #[99, 97, 114, 116] }
def isCart (t : ByteArray) : Prop := t.data.toList.take 4 = [99, 97, 114, 116]
theorem isCart_len {t : ByteArray} (h : isCart t) : 4 ≤ t.size := by
  have := congrArg List.length h
  rw [List.length_take, len_list] at this
  simp at this
  omega
theorem isCart_ext {t : ByteArray} : isCart t ↔ t.extract 0 4 = cartS := by
  unfold isCart
  constructor
  · intro h
    apply ByteArray.ext
    apply Array.toList_inj.1
    rw [ext_head, h]; rfl
  · intro h
    rw [← ext_head, h]; rfl
theorem ret_bool {a b : Bool} (h : a = b) : Ending.returned (.bool a) = .returned (.bool b) := by rw [h]
theorem has_yes (t : ByteArray) (hs : t.size ≤ maxLen) (h : isCart t) (w : World) : Calls Tryz.prog 143 #[.string t, .string cartS] w fun e w' => e = .returned (.bool true) ∧ w' = w := by
  have h4 := isCart_len h
  unfold maxLen at hs
  have HX := hid (isCart_ext.1 h)
  clear h
  have hcs : cartS.size = 4 := rfl
  go_enter Tryz.func143, Tryz.ntmps143
  go_wp2
  go_ret
  exact ⟨ret_bool (by rw [HX.out]; simp), rfl⟩
theorem has_no (t : ByteArray) (hs : t.size ≤ maxLen) (h : ¬ isCart t) (w : World) : Calls Tryz.prog 143 #[.string t, .string cartS] w fun e w' => e = .returned (.bool false) ∧ w' = w := by
  unfold maxLen at hs
  have hcs : cartS.size = 4 := rfl
  by_cases h4 : 4 ≤ t.size
  · have HX := hid (str_ne (fun hh => h (isCart_ext.2 hh)))
    clear h
    go_enter Tryz.func143, Tryz.ntmps143
    go_wp2
    go_ret
    exact ⟨ret_bool HX.out, rfl⟩
  · clear h
    go_enter Tryz.func143, Tryz.ntmps143
    go_wp2
    go_ret
    exact ⟨rfl, rfl⟩
theorem cut37_yes (t : ByteArray) (hs : t.size ≤ maxLen) (h : isCart t) (w : World) : Calls Tryz.prog 126 #[.string t, .string cartS] w fun e w' => e = .returned (.tuple #[.string (t.extract 4 t.size), .bool true]) ∧ w' = w := by
  have HH := hid (fun w => has_yes t hs h w)
  have h4 := isCart_len h
  unfold maxLen at hs
  have hcs : cartS.size = 4 := rfl
  clear h
  go_enter Tryz.func126, Tryz.ntmps126
  go_wp2_with (first | (go_at_call 143; refine (HH.out _).mono ?_; rintro e w1 ⟨rfl, hw⟩; have hw := hw.symm; subst hw))
  go_ret2
  exact ⟨rfl, rfl⟩
theorem cut37_no (t : ByteArray) (hs : t.size ≤ maxLen) (h : ¬ isCart t) (w : World) : Calls Tryz.prog 126 #[.string t, .string cartS] w fun e w' => e = .returned (.tuple #[.string t, .bool false]) ∧ w' = w := by
  have HH := hid (fun w => has_no t hs h w)
  clear h
  go_enter Tryz.func126, Tryz.ntmps126
  go_wp2_with (first | (go_at_call 143; refine (HH.out _).mono ?_; rintro e w1 ⟨rfl, hw⟩; have hw := hw.symm; subst hw))
  go_ret2
  exact ⟨rfl, rfl⟩
theorem cut_yes (t : ByteArray) (hs : t.size ≤ maxLen) (h : isCart t) (w : World) : Calls Tryz.prog 95 #[.string t, .string cartS] w fun e w' => e = .returned (.tuple #[.string (t.extract 4 t.size), .bool true]) ∧ w' = w := by
  have HH := hid (fun w => cut37_yes t hs h w)
  clear h
  go_enter Tryz.func95, Tryz.ntmps95
  go_wp2_with (first | (go_at_call 126; refine (HH.out _).mono ?_; rintro e w1 ⟨rfl, hw⟩; have hw := hw.symm; subst hw))
  go_ret2
  exact ⟨rfl, rfl⟩
theorem cut_no (t : ByteArray) (hs : t.size ≤ maxLen) (h : ¬ isCart t) (w : World) : Calls Tryz.prog 95 #[.string t, .string cartS] w fun e w' => e = .returned (.tuple #[.string t, .bool false]) ∧ w' = w := by
  have HH := hid (fun w => cut37_no t hs h w)
  clear h
  go_enter Tryz.func95, Tryz.ntmps95
  go_wp2_with (first | (go_at_call 126; refine (HH.out _).mono ?_; rintro e w1 ⟨rfl, hw⟩; have hw := hw.symm; subst hw))
  go_ret2
  exact ⟨rfl, rfl⟩
/-- the numbers that stand in six bytes -/
theorem nums6 (n : ByteArray) : endV (fxS (fxS (fxS n 0) (fxE n 0)) (fxE (fxS n 0) (fxE n 0))) (fxE (fxS (fxS n 0) (fxE n 0)) (fxE (fxS n 0) (fxE n 0))) = 0 →
    n.data.toList = fEnc (fxN n 0) 2 ++ fEnc (fxN (fxS n 0) (fxE n 0)) 2 ++ fEnc (fxN (fxS (fxS n 0) (fxE n 0)) (fxE (fxS n 0) (fxE n 0))) 2 ∧ fxN n 0 < 65536 ∧ fxN (fxS n 0) (fxE n 0) < 65536 ∧ fxN (fxS (fxS n 0) (fxE n 0)) (fxE (fxS n 0) (fxE n 0)) < 65536 := by
  have key : ∀ (s : ByteArray), ¬ s.size < 2 → fxE s 0 = 0 ∧ fxS s 0 = s.extract 2 s.size ∧ s.data.toList = fEnc (fxN s 0) 2 ++ (fxS s 0).data.toList ∧ fxN s 0 < 65536 := by
    intro s hs
    have e1 : fxE s 0 = 0 := by unfold fxE; rw [if_neg (by decide), if_neg hs]
    have e2 : fxS s 0 = s.extract 2 s.size := by unfold fxS; rw [if_neg (by decide), if_neg hs]
    have e3 : fxN s 0 = fval (s.data.toList.take 2) := by unfold fxN; rw [if_neg (by decide), if_neg hs]
    refine ⟨e1, e2, ?_, by rw [e3]; exact fval2_lt _⟩
    have hl := len_list s
    have e4 := fEnc_big (s.data.toList.take 2)
    rw [List.length_take, Nat.min_eq_left (by omega), ← fval_big, ← e3] at e4
    have e5 : s.data.toList.take s.size = s.data.toList := List.take_of_length_le (by omega)
    rw [e4, e2, ext_list, e5, List.take_append_drop]
  have bad : ∀ (s : ByteArray) (e : Int), e ≠ 0 → fxE s e = e := fun s e he => by unfold fxE; rw [if_pos he]
  have cut : ∀ (s : ByteArray), s.size < 2 → fxE s 0 = 20 := fun s hs => by unfold fxE; rw [if_neg (by decide), if_pos hs]
  have endb : ∀ (s : ByteArray) (e : Int), e ≠ 0 → endV s e ≠ 0 := fun s e he => by unfold endV; rw [if_pos he]; exact he
  intro h
  by_cases h1 : n.size < 2
  · exfalso
    have c1 := cut n h1
    have c2 := bad (fxS n 0) (fxE n 0) (by rw [c1]; decide)
    have c3 := bad (fxS (fxS n 0) (fxE n 0)) (fxE (fxS n 0) (fxE n 0)) (by rw [c2, c1]; decide)
    exact endb _ _ (by rw [c3, c2, c1]; decide) h
  · obtain ⟨a1, a2, a3, a4⟩ := key n h1
    rw [a1] at h ⊢
    by_cases h2 : (fxS n 0).size < 2
    · exfalso
      have c1 := cut _ h2
      have c2 := bad (fxS (fxS n 0) 0) (fxE (fxS n 0) 0) (by rw [c1]; decide)
      exact endb _ _ (by rw [c2, c1]; decide) h
    · obtain ⟨b1, b2, b3, b4⟩ := key _ h2
      rw [b1] at h ⊢
      by_cases h3 : (fxS (fxS n 0) 0).size < 2
      · exfalso
        have c1 := cut _ h3
        exact endb _ _ (by rw [c1]; decide) h
      · obtain ⟨d1, d2, d3, d4⟩ := key _ h3
        rw [d1] at h
        have hz : (fxS (fxS (fxS n 0) 0) 0).size = 0 := by
          unfold endV at h
          rw [if_neg (by decide)] at h
          by_cases hz : (fxS (fxS (fxS n 0) 0) 0).size = 0
          · exact hz
          · rw [if_neg hz] at h; exact absurd h (by decide)
        have hzl : (fxS (fxS (fxS n 0) 0) 0).data.toList = [] := List.eq_nil_of_length_eq_zero (by rw [len_list]; exact hz)
        rw [hzl, List.append_nil] at d3
        refine ⟨?_, a4, b4, d4⟩
        rw [← d3, List.append_assoc, ← b3, ← a3]
/-- and there and back -/
theorem nums_of (x y z : Nat) (hx : x < 65536) (hy : y < 65536) (hz : z < 65536) (n : ByteArray) (h : n.data.toList = fEnc x 2 ++ fEnc y 2 ++ fEnc z 2) :
    endV (fxS (fxS (fxS n 0) (fxE n 0)) (fxE (fxS n 0) (fxE n 0))) (fxE (fxS (fxS n 0) (fxE n 0)) (fxE (fxS n 0) (fxE n 0))) = 0 ∧ fxN n 0 = x ∧ fxN (fxS n 0) (fxE n 0) = y ∧ fxN (fxS (fxS n 0) (fxE n 0)) (fxE (fxS n 0) (fxE n 0)) = z := by
  have key : ∀ (s : ByteArray) (x : Nat) (r : List UInt8), x < 65536 → s.data.toList = fEnc x 2 ++ r → fxE s 0 = 0 ∧ (fxS s 0).data.toList = r ∧ fxN s 0 = x := by
    intro s x r hx hs
    have hl := len_list s
    have hf := fEnc_len 2 x
    have hsz : ¬ s.size < 2 := by rw [← hl, hs, List.length_append, hf]; omega
    have ht : s.data.toList.take 2 = fEnc x 2 := by
      have := List.take_left (l₁ := fEnc x 2) (l₂ := r)
      rw [hf] at this
      rw [hs, this]
    have hd : s.data.toList.drop 2 = r := by
      have := List.drop_left (l₁ := fEnc x 2) (l₂ := r)
      rw [hf] at this
      rw [hs, this]
    refine ⟨by unfold fxE; rw [if_neg (by decide), if_neg hsz], ?_, ?_⟩
    · unfold fxS; rw [if_neg (by decide), if_neg hsz, ext_list, List.take_of_length_le (l := s.data.toList) (by omega), hd]
    · unfold fxN; rw [if_neg (by decide), if_neg hsz, ht, fval_big, big_fEnc 2 _ (by omega)]
  obtain ⟨a1, a2, a3⟩ := key n x (fEnc y 2 ++ fEnc z 2) hx (by rw [h, List.append_assoc])
  rw [a1]
  obtain ⟨b1, b2, b3⟩ := key (fxS n 0) y (fEnc z 2) hy a2
  rw [b1]
  obtain ⟨c1, c2, c3⟩ := key (fxS (fxS n 0) 0) z [] hz (by rw [b2, List.append_nil])
  rw [c1]
  refine ⟨?_, a3, b3, c3⟩
  unfold endV
  rw [if_neg (by decide), if_pos]
  rw [← len_list, c2]; rfl
end Go.Proofs.YtopebghandojbaaGreat.Sh
namespace Go.Proofs.YtopebghandojbaaGreat.Sh
open Go.RowKit

/-- is a block a shape's superblock? -/
def okR (b : ByteArray) (x y z : Nat) : Prop := unV b = (st (superL x y z), 0) ∧ okS x y z
def zero3 : Value := .agg #[.int .i64 0, .int .i64 0, .int .i64 0]
theorem keptV {v g : Nat} {o : Obj} {w w' : World} (k : Kept w.heap.size g w w') (h : w.heap[v]? = some o) (h2 : v ≠ g) : w'.heap[v]? = some o := (k.block v (lt_of_block h) h2).trans h
theorem bel_kept {w0 w w' : World} {g : Nat} (h : Below w0.heap.size w0 w) (k : Kept w.heap.size g w w') (hg : w0.heap.size ≤ g) : Below w0.heap.size w0 w' := h.trans (k.below h.size hg)
theorem set3 {w0 w : World} {g : Nat} (h : Below w0.heap.size w0 w) (hg : w0.heap.size ≤ g) (a b c : Value) : Below w0.heap.size w0 (((w.setCell ⟨g, 0, none⟩ a).setCell ⟨g, 1, none⟩ b).setCell ⟨g, 2, none⟩ c) := ((h.setCell hg _).setCell hg _).setCell hg _
theorem unV_size (b : ByteArray) : (unV b).1.size ≤ b.size := by
  unfold unV
  split
  · exact Nat.zero_le _
  · split
    · exact Nat.zero_le _
    · split
      · exact Nat.zero_le _
      · split
        · exact Nat.zero_le _
        · show (b.extract _ _).size ≤ _
          rw [ByteArray.size_extract]
          omega
theorem cut_any (t : ByteArray) (hs : t.size ≤ maxLen) : ∃ n m, ∀ w, Calls Tryz.prog 95 #[.string t, .string cartS] w fun e w' => e = .returned (.tuple #[.string n, .bool m]) ∧ w' = w := by
  by_cases h : isCart t
  · exact ⟨_, _, cut_yes t hs h⟩
  · exact ⟨_, _, cut_no t hs h⟩
set_option maxRecDepth 100000 in
set_option maxHeartbeats 1000000 in
theorem read_e (b : ByteArray) (hb : b.size ≤ 150000000000000) (h : (unV b).2 ≠ 0) (w : World) : Calls Tryz.prog 51 #[.string b] w fun e w' => e = .returned (.tuple #[zero3, .int .i64 60]) ∧ Below w.heap.size w w' := by
  have HU := hid (fun w => unblock_any b hb w)
  have hts : (unV b).1.size ≤ maxLen := by have := unV_size b; unfold maxLen; omega
  obtain ⟨t, ht⟩ : ∃ t, t = (unV b).1 := ⟨_, rfl⟩
  obtain ⟨e, he⟩ : ∃ e, e = (unV b).2 := ⟨_, rfl⟩
  rw [← ht] at hts
  rw [← ht, ← he] at HU
  rw [← he] at h
  have he' : (e != 0) = true := by simp [h]
  obtain ⟨n, m, hc⟩ := cut_any t hts
  have HC := hid hc
  clear ht he h hts hc
  unfold zero3
  go_enter Tryz.func51, Tryz.ntmps51
  go_wp2_with (first
    | (go_at_call 94; refine (HU.out _).mono ?_; rintro e w1 ⟨rfl, hb1⟩; have HV := hid (var_a hb1); have HB := hid ((below_alloc _ _).next hb1); clear hb1)
    | (go_at_call 95; refine (HC.out _).mono ?_; rintro e w2 ⟨rfl, hw⟩; have hw := hw.symm; subst hw; obtain ⟨q0, q1, q2⟩ := three_cells HV.out; have hfr := frees HV.out))
  refine bodyPost_ret (v := .tuple #[.agg #[.int .i64 0, .int .i64 0, .int .i64 0], .int .i64 60]) (by simp [results, Tryz.results51, go_sem, q0, q1, q2]) rfl ⟨rfl, set3 HB.out (Nat.le_refl _) _ _ _⟩
set_option maxRecDepth 100000 in
set_option maxHeartbeats 1000000 in
theorem read_no (b t : ByteArray) (hb : b.size ≤ 150000000000000) (h : unV b = (t, 0)) (hn : ¬ isCart t) (w : World) : Calls Tryz.prog 51 #[.string b] w fun e w' => e = .returned (.tuple #[zero3, .int .i64 60]) ∧ Below w.heap.size w w' := by
  have HU := hid (fun w => unblock_any b hb w)
  have hts : (unV b).1.size ≤ maxLen := by have := unV_size b; unfold maxLen; omega
  rw [h] at HU hts
  have HC := hid (fun w => cut_no t hts hn w)
  simp only at HU
  clear h hts hn
  unfold zero3
  go_enter Tryz.func51, Tryz.ntmps51
  go_wp2_with (first
    | (go_at_call 94; refine (HU.out _).mono ?_; rintro e w1 ⟨rfl, hb1⟩; have HV := hid (var_a hb1); have HB := hid ((below_alloc _ _).next hb1); clear hb1)
    | (go_at_call 95; refine (HC.out _).mono ?_; rintro e w2 ⟨rfl, hw⟩; have hw := hw.symm; subst hw; obtain ⟨q0, q1, q2⟩ := three_cells HV.out; have hfr := frees HV.out))
  refine bodyPost_ret (v := .tuple #[.agg #[.int .i64 0, .int .i64 0, .int .i64 0], .int .i64 60]) (by simp [results, Tryz.results51, go_sem, q0, q1, q2]) rfl ⟨rfl, set3 HB.out (Nat.le_refl _) _ _ _⟩
/-- the block's text has the mark: how it goes on -/
theorem fxS_size (s : ByteArray) (e : Int) : (fxS s e).size ≤ s.size := by
  unfold fxS
  split
  · exact Nat.le_refl _
  · split
    · exact Nat.le_refl _
    · rw [ext_size]; omega
set_option maxRecDepth 100000 in
set_option maxHeartbeats 2000000 in
theorem read_end (b t n n1 n2 n3 : ByteArray) (e1 e2 e3 z : Int) (x1 x2 x3 : Nat) (hb : b.size ≤ 150000000000000) (h : unV b = (t, 0)) (hn : isCart t) (hN : n = t.extract 4 t.size)
    (h1 : n1 = fxS n 0) (g1 : e1 = fxE n 0) (f1 : x1 = fxN n 0) (h2 : n2 = fxS n1 e1) (g2 : e2 = fxE n1 e1) (f2 : x2 = fxN n1 e1) (h3 : n3 = fxS n2 e2) (g3 : e3 = fxE n2 e2) (f3 : x3 = fxN n2 e2) (hz : z = endV n3 e3) (hz0 : z ≠ 0)
    (w : World) : Calls Tryz.prog 51 #[.string b] w fun e w' => e = .returned (.tuple #[zero3, .int .i64 60]) ∧ Below w.heap.size w w' := by
  have HU := hid (fun w => unblock_any b hb w)
  have hts : (unV b).1.size ≤ maxLen := by have := unV_size b; unfold maxLen; omega
  rw [h] at HU hts
  simp only at HU hts
  have HC := hid (fun w => cut_yes t hts hn w)
  rw [← hN] at HC
  have s0 : n.size ≤ maxLen := by rw [hN, ext_size]; omega
  have s1 : n1.size ≤ maxLen := by have := fxS_size n 0; rw [← h1] at this; omega
  have s2 : n2.size ≤ maxLen := by have := fxS_size n1 e1; rw [← h2] at this; omega
  have HF1 := hid (fun g w hr => fix2_r g n 0 s0 w hr)
  have HF2 := hid (fun g w hr => fix2_r g n1 e1 s1 w hr)
  have HF3 := hid (fun g w hr => fix2_r g n2 e2 s2 w hr)
  have HE := hid (fun g w hr => end_r g n3 e3 w hr)
  rw [← h1, ← g1, ← f1] at HF1
  rw [← h2, ← g2, ← f2] at HF2
  rw [← h3, ← g3, ← f3] at HF3
  rw [← hz] at HE
  have hz' : (z != 0) = true := by simp [hz0]
  clear h1 h2 h3 g1 g2 g3 f1 f2 f3 hz s0 s1 s2 hN hn h hts hz0
  unfold zero3
  go_enter Tryz.func51, Tryz.ntmps51
  go_wp2_with (first
    | (go_at_call 94; refine (HU.out _).mono ?_; rintro e w1 ⟨rfl, hb1⟩; have HV := hid (var_a hb1); have HB := hid ((below_alloc _ _).next hb1); clear hb1)
    | (go_at_call 95; refine (HC.out _).mono ?_; rintro e w2 ⟨rfl, hw⟩; have hw := hw.symm; subst hw)
    | (go_at_call 96; refine (of_any _ _).mono ?_; rintro e w3 ⟨rfl, rfl⟩; have HR0 := hid (RIs.new n w1); have hlt := lt_of_block HV.out; have HV0 := hid ((Below.heap_alloc w1 (.cells #[.string n, .int .i64 0] 206) _ hlt).trans HV.out); have HB0 := hid (HB.out.next (below_alloc w1 (.cells #[.string n, .int .i64 0] 206))))
    | (go_at_call 97; have hk := HR2; clear hk; refine (HF3.out _ _ HR2.out).mono ?_; rintro e w6 ⟨⟨y3, rfl⟩, hr6, hk6⟩; have HR3 := hid hr6; have HV3 := hid (keptV hk6 HV2.out (by omega)); have HB3 := hid (bel_kept HB2.out hk6 (by omega)); clear hr6 hk6)
    | (go_at_call 97; have hk := HR1; clear hk; refine (HF2.out _ _ HR1.out).mono ?_; rintro e w5 ⟨⟨y2, rfl⟩, hr5, hk5⟩; have HR2 := hid hr5; have HV2 := hid (keptV hk5 HV1.out (by omega)); have HB2 := hid (bel_kept HB1.out hk5 (by omega)); clear hr5 hk5)
    | (go_at_call 97; refine (HF1.out _ _ HR0.out).mono ?_; rintro e w4 ⟨⟨y1, rfl⟩, hr4, hk4⟩; have HR1 := hid hr4; have HV1 := hid (keptV hk4 HV0.out (by omega)); have HB1 := hid (bel_kept HB0.out hk4 (by omega)); clear hr4 hk4)
    | (go_at_call 98; refine (HE.out _ _ (HR3.out.below (below_alloc _ _))).mono ?_; rintro e w7 ⟨rfl, hw7⟩; have hw7 := hw7.symm; subst hw7; obtain ⟨q0, q1, q2⟩ := three_cells HV3.out; have hfr := frees HV3.out; have hl6 := lt_of_block HV3.out))
  refine bodyPost_ret (v := .tuple #[.agg #[.int .i64 0, .int .i64 0, .int .i64 0], .int .i64 60]) (by simp [results, Tryz.results51, go_sem, q0, q1, q2, hl6]) rfl ⟨rfl, ?_⟩
  exact (set3 HB3.out (Nat.le_refl _) _ _ _).alloc (by simpa using HB3.out.size) _
set_option maxRecDepth 100000 in
set_option maxHeartbeats 2000000 in
theorem read_chk (b t n n1 n2 n3 : ByteArray) (e1 e2 e3 z : Int) (x1 x2 x3 : Nat) (hb : b.size ≤ 150000000000000) (h : unV b = (t, 0)) (hn : isCart t) (hN : n = t.extract 4 t.size)
    (h1 : n1 = fxS n 0) (g1 : e1 = fxE n 0) (f1 : x1 = fxN n 0) (h2 : n2 = fxS n1 e1) (g2 : e2 = fxE n1 e1) (f2 : x2 = fxN n1 e1) (h3 : n3 = fxS n2 e2) (g3 : e3 = fxE n2 e2) (f3 : x3 = fxN n2 e2) (hz : z = endV n3 e3) (hz0 : z = 0) (ho : ¬ okS x1 x2 x3)
    (w : World) : Calls Tryz.prog 51 #[.string b] w fun e w' => e = .returned (.tuple #[zero3, .int .i64 60]) ∧ Below w.heap.size w w' := by
  have HU := hid (fun w => unblock_any b hb w)
  have hts : (unV b).1.size ≤ maxLen := by have := unV_size b; unfold maxLen; omega
  rw [h] at HU hts
  simp only at HU hts
  have HC := hid (fun w => cut_yes t hts hn w)
  rw [← hN] at HC
  have s0 : n.size ≤ maxLen := by rw [hN, ext_size]; omega
  have s1 : n1.size ≤ maxLen := by have := fxS_size n 0; rw [← h1] at this; omega
  have s2 : n2.size ≤ maxLen := by have := fxS_size n1 e1; rw [← h2] at this; omega
  have HF1 := hid (fun g w hr => fix2_r g n 0 s0 w hr)
  have HF2 := hid (fun g w hr => fix2_r g n1 e1 s1 w hr)
  have HF3 := hid (fun g w hr => fix2_r g n2 e2 s2 w hr)
  have HE := hid (fun g w hr => end_r g n3 e3 w hr)
  rw [← h1, ← g1, ← f1] at HF1
  rw [← h2, ← g2, ← f2] at HF2
  rw [← h3, ← g3, ← f3] at HF3
  rw [← hz] at HE
  subst hz0
  have HK := hid (fun w => check_bad x1 x2 x3 ho w)
  clear ho
  clear h1 h2 h3 g1 g2 g3 f1 f2 f3 hz s0 s1 s2 hN hn h hts
  unfold zero3
  go_enter Tryz.func51, Tryz.ntmps51
  go_wp2_with (first
    | (go_at_call 94; refine (HU.out _).mono ?_; rintro e w1 ⟨rfl, hb1⟩; have HV := hid (var_a hb1); have HB := hid ((below_alloc _ _).next hb1); clear hb1)
    | (go_at_call 95; refine (HC.out _).mono ?_; rintro e w2 ⟨rfl, hw⟩; have hw := hw.symm; subst hw)
    | (go_at_call 96; refine (of_any _ _).mono ?_; rintro e w3 ⟨rfl, rfl⟩; have HR0 := hid (RIs.new n w1); have hlt := lt_of_block HV.out; have HV0 := hid ((Below.heap_alloc w1 (.cells #[.string n, .int .i64 0] 206) _ hlt).trans HV.out); have HB0 := hid (HB.out.next (below_alloc w1 (.cells #[.string n, .int .i64 0] 206))))
    | (go_at_call 97; have hk := HR2; clear hk; refine (HF3.out _ _ HR2.out).mono ?_; rintro e w6 ⟨⟨y3, rfl⟩, hr6, hk6⟩; have HR3 := hid hr6; have HV3 := hid (keptV hk6 HV2.out (by omega)); have HB3 := hid (bel_kept HB2.out hk6 (by omega)); clear hr6 hk6)
    | (go_at_call 97; have hk := HR1; clear hk; refine (HF2.out _ _ HR1.out).mono ?_; rintro e w5 ⟨⟨y2, rfl⟩, hr5, hk5⟩; have HR2 := hid hr5; have HV2 := hid (keptV hk5 HV1.out (by omega)); have HB2 := hid (bel_kept HB1.out hk5 (by omega)); clear hr5 hk5)
    | (go_at_call 97; refine (HF1.out _ _ HR0.out).mono ?_; rintro e w4 ⟨⟨y1, rfl⟩, hr4, hk4⟩; have HR1 := hid hr4; have HV1 := hid (keptV hk4 HV0.out (by omega)); have HB1 := hid (bel_kept HB0.out hk4 (by omega)); clear hr4 hk4)
    | (go_at_call 98; refine (HE.out _ _ (HR3.out.below (below_alloc _ _))).mono ?_; rintro e w7 ⟨rfl, hw7⟩; have hw7 := hw7.symm; subst hw7)
    | (go_at_call 83; refine (HK.out _).mono ?_; rintro e w8 ⟨rfl, hb8⟩; have HV8 := hid ((hb8.block _ (by show _ < (w6.heap.push _).size; have := lt_of_block HV3.out; simp; omega)).trans ((Below.heap_alloc w6 _ _ (lt_of_block HV3.out)).trans HV3.out)); have HX8 := hid (var_a hb8); have HB8 := hid (HB3.out.next ((below_alloc _ _).next hb8)); obtain ⟨q0, q1, q2⟩ := three_cells HV8.out; have hfr := frees HV8.out; obtain ⟨r0, r1, r2⟩ := three_cells HX8.out; clear hb8))
  refine bodyPost_ret (v := .tuple #[.agg #[.int .i64 0, .int .i64 0, .int .i64 0], .int .i64 60]) (by simp [results, Tryz.results51, go_sem, q0, q1, q2]) rfl ⟨rfl, ?_⟩
  exact set3 HB8.out (Nat.le_refl _) _ _ _
set_option maxRecDepth 100000 in
set_option maxHeartbeats 2000000 in
theorem read_fine (b t n n1 n2 n3 : ByteArray) (e1 e2 e3 z : Int) (x1 x2 x3 : Nat) (hb : b.size ≤ 150000000000000) (h : unV b = (t, 0)) (hn : isCart t) (hN : n = t.extract 4 t.size)
    (h1 : n1 = fxS n 0) (g1 : e1 = fxE n 0) (f1 : x1 = fxN n 0) (h2 : n2 = fxS n1 e1) (g2 : e2 = fxE n1 e1) (f2 : x2 = fxN n1 e1) (h3 : n3 = fxS n2 e2) (g3 : e3 = fxE n2 e2) (f3 : x3 = fxN n2 e2) (hz : z = endV n3 e3) (hz0 : z = 0) (ho : okS x1 x2 x3)
    (w : World) : Calls Tryz.prog 51 #[.string b] w fun e w' => e = .returned (.tuple #[.agg #[.int .i64 x1, .int .i64 x2, .int .i64 x3], .int .i64 0]) ∧ Below w.heap.size w w' := by
  have HU := hid (fun w => unblock_any b hb w)
  have hts : (unV b).1.size ≤ maxLen := by have := unV_size b; unfold maxLen; omega
  rw [h] at HU hts
  simp only at HU hts
  have HC := hid (fun w => cut_yes t hts hn w)
  rw [← hN] at HC
  have s0 : n.size ≤ maxLen := by rw [hN, ext_size]; omega
  have s1 : n1.size ≤ maxLen := by have := fxS_size n 0; rw [← h1] at this; omega
  have s2 : n2.size ≤ maxLen := by have := fxS_size n1 e1; rw [← h2] at this; omega
  have HF1 := hid (fun g w hr => fix2_r g n 0 s0 w hr)
  have HF2 := hid (fun g w hr => fix2_r g n1 e1 s1 w hr)
  have HF3 := hid (fun g w hr => fix2_r g n2 e2 s2 w hr)
  have HE := hid (fun g w hr => end_r g n3 e3 w hr)
  rw [← h1, ← g1, ← f1] at HF1
  rw [← h2, ← g2, ← f2] at HF2
  rw [← h3, ← g3, ← f3] at HF3
  rw [← hz] at HE
  subst hz0
  have HK := hid (fun w => check_ok x1 x2 x3 ho w)
  clear ho
  clear h1 h2 h3 g1 g2 g3 f1 f2 f3 hz s0 s1 s2 hN hn h hts
  go_enter Tryz.func51, Tryz.ntmps51
  go_wp2_with (first
    | (go_at_call 94; refine (HU.out _).mono ?_; rintro e w1 ⟨rfl, hb1⟩; have HV := hid (var_a hb1); have HB := hid ((below_alloc _ _).next hb1); clear hb1)
    | (go_at_call 95; refine (HC.out _).mono ?_; rintro e w2 ⟨rfl, hw⟩; have hw := hw.symm; subst hw)
    | (go_at_call 96; refine (of_any _ _).mono ?_; rintro e w3 ⟨rfl, rfl⟩; have HR0 := hid (RIs.new n w1); have hlt := lt_of_block HV.out; have HV0 := hid ((Below.heap_alloc w1 (.cells #[.string n, .int .i64 0] 206) _ hlt).trans HV.out); have HB0 := hid (HB.out.next (below_alloc w1 (.cells #[.string n, .int .i64 0] 206))))
    | (go_at_call 97; have hk := HR2; clear hk; refine (HF3.out _ _ HR2.out).mono ?_; rintro e w6 ⟨⟨y3, rfl⟩, hr6, hk6⟩; have HR3 := hid hr6; have HV3 := hid (keptV hk6 HV2.out (by omega)); have HB3 := hid (bel_kept HB2.out hk6 (by omega)); clear hr6 hk6)
    | (go_at_call 97; have hk := HR1; clear hk; refine (HF2.out _ _ HR1.out).mono ?_; rintro e w5 ⟨⟨y2, rfl⟩, hr5, hk5⟩; have HR2 := hid hr5; have HV2 := hid (keptV hk5 HV1.out (by omega)); have HB2 := hid (bel_kept HB1.out hk5 (by omega)); clear hr5 hk5)
    | (go_at_call 97; refine (HF1.out _ _ HR0.out).mono ?_; rintro e w4 ⟨⟨y1, rfl⟩, hr4, hk4⟩; have HR1 := hid hr4; have HV1 := hid (keptV hk4 HV0.out (by omega)); have HB1 := hid (bel_kept HB0.out hk4 (by omega)); clear hr4 hk4)
    | (go_at_call 98; refine (HE.out _ _ (HR3.out.below (below_alloc _ _))).mono ?_; rintro e w7 ⟨rfl, hw7⟩; have hw7 := hw7.symm; subst hw7)
    | (go_at_call 83; refine (HK.out _).mono ?_; rintro e w8 ⟨rfl, hb8⟩; have HV8 := hid ((hb8.block _ (by show _ < (w6.heap.push _).size; have := lt_of_block HV3.out; simp; omega)).trans ((Below.heap_alloc w6 _ _ (lt_of_block HV3.out)).trans HV3.out)); have HX8 := hid (var_a hb8); have HB8 := hid (HB3.out.next ((below_alloc _ _).next hb8)); obtain ⟨q0, q1, q2⟩ := three_cells HV8.out; have hfr := frees HV8.out; obtain ⟨r0, r1, r2⟩ := three_cells HX8.out; clear hb8))
  refine bodyPost_ret (v := .tuple #[.agg #[.int .i64 x1, .int .i64 x2, .int .i64 x3], .int .i64 0]) (by simp [results, Tryz.results51, go_sem, q0, q1, q2]) rfl ⟨rfl, ?_⟩
  exact set3 HB8.out (Nat.le_refl _) _ _ _
theorem cart_split (t : ByteArray) (hn : isCart t) : t.data.toList = [99, 97, 114, 116] ++ (t.extract 4 t.size).data.toList := by
  have hl := len_list t
  rw [ext_list, List.take_of_length_le (l := t.data.toList) (by omega), ← hn, List.take_append_drop]
theorem read_ok (b : ByteArray) (x y z : Nat) (hb : b.size ≤ 150000000000000) (h : okR b x y z) (w : World) : Calls Tryz.prog 51 #[.string b] w fun e w' => e = .returned (.tuple #[.agg #[.int .i64 x, .int .i64 y, .int .i64 z], .int .i64 0]) ∧ Below w.heap.size w w' := by
  obtain ⟨h1, h2⟩ := h
  have hx : x < 65536 := by have := h2.1.1.2; omega
  have hy : y < 65536 := by have := h2.1.2.1.2; omega
  have hz : z < 65536 := by have := h2.1.2.2.2; omega
  obtain ⟨t, ht⟩ : ∃ t, t = st (superL x y z) := ⟨_, rfl⟩
  have htl : t.data.toList = [99, 97, 114, 116] ++ (fEnc x 2 ++ fEnc y 2 ++ fEnc z 2) := by rw [ht, st_list, superL]
  rw [← ht] at h1
  have hc : isCart t := by unfold isCart; rw [htl]; rfl
  have hs := cart_split t hc
  rw [htl] at hs
  have hn := (List.append_cancel_left hs).symm
  clear ht htl hs
  obtain ⟨e0, e1, e2, e3⟩ := nums_of x y z hx hy hz _ hn
  have k := read_fine b t _ _ _ _ _ _ _ _ _ _ _ hb h1 hc rfl rfl rfl rfl rfl rfl rfl rfl rfl rfl rfl e0 (by rw [e1, e2, e3]; exact h2) w
  rw [e1, e2, e3] at k
  exact k
theorem read_bad (b : ByteArray) (hb : b.size ≤ 150000000000000) (h : ¬ ∃ x y z, okR b x y z) (w : World) : Calls Tryz.prog 51 #[.string b] w fun e w' => e = .returned (.tuple #[zero3, .int .i64 60]) ∧ Below w.heap.size w w' := by
  by_cases h1 : (unV b).2 ≠ 0
  · exact read_e b hb h1 w
  · have h1 : (unV b).2 = 0 := by omega
    obtain ⟨t, ht⟩ : ∃ t, unV b = (t, 0) := ⟨(unV b).1, by rw [← h1]⟩
    by_cases h2 : isCart t
    · by_cases h3 : endV (fxS (fxS (fxS (t.extract 4 t.size) 0) (fxE (t.extract 4 t.size) 0)) (fxE (fxS (t.extract 4 t.size) 0) (fxE (t.extract 4 t.size) 0))) (fxE (fxS (fxS (t.extract 4 t.size) 0) (fxE (t.extract 4 t.size) 0)) (fxE (fxS (t.extract 4 t.size) 0) (fxE (t.extract 4 t.size) 0))) = 0
      · obtain ⟨k1, k2, k3, k4⟩ := nums6 _ h3
        refine read_chk b t _ _ _ _ _ _ _ _ _ _ _ hb ht h2 rfl rfl rfl rfl rfl rfl rfl rfl rfl rfl rfl h3 (fun ho => h ⟨_, _, _, ?_, ho⟩) w
        rw [ht]
        refine Prod.ext ?_ rfl
        show t = _
        rw [superL, ← k1, ← cart_split t h2, st_toList]
      · exact read_end b t _ _ _ _ _ _ _ _ _ _ _ hb ht h2 rfl rfl rfl rfl rfl rfl rfl rfl rfl rfl rfl h3 w
    · exact read_no b t hb ht h2 w
end Go.Proofs.YtopebghandojbaaGreat.Sh
