import Derived.Test.YtokjlgebkihimaaGreatZm
import Derived.Deep.RegionHeld3
namespace Go.Proofs.YtokjlgebkihimaaGreat.Sh
open Go.RowKit

set_option maxRecDepth 100000 in
theorem ret_agg3 {a b c a' b' c' : Int} (h1 : a = a') (h2 : b = b') (h3 : c = c') : Ending.returned (.agg #[.int .i64 a, .int .i64 b, .int .i64 c]) = .returned (.agg #[.int .i64 a', .int .i64 b', .int .i64 c']) := by rw [h1, h2, h3]
set_option maxRecDepth 100000 in
set_option maxHeartbeats 4000000 in
theorem limited_any (B J I : Int) (w : World) : Calls Tryz.prog 91 #[.agg #[.int .i64 B, .int .i64 J, .int .i64 I]] w fun e w' => e = .returned (.agg #[.int .i64 (min (max B 16) 1024), .int .i64 (min (max J 8) 256), .int .i64 (min (max I 1) 64)]) ∧ Below w.heap.size w w' := by
  go_enter Tryz.func91, Tryz.ntmps91
  go_wp2
  all_goals
    refine bodyPost_ret (v := .agg #[.int .i64 (min (max B 16) 1024), .int .i64 (min (max J 8) 256), .int .i64 (min (max I 1) 64)]) (by (simp [results, Tryz.results91, go_sem]) <;> omega) rfl ⟨rfl, ?_⟩
    exact ((Below.refl _ _).alloc (Nat.le_refl _) _).alloc (by simp) _
set_option maxRecDepth 100000 in
theorem regions_any (B J I : Int) (hB : 16 ≤ B ∧ B ≤ 1024) (hJ : 8 ≤ J ∧ J ≤ 256) (hI : 1 ≤ I ∧ I ≤ 64) (w : World) : Calls Tryz.prog 63 #[.agg #[.int .i64 B, .int .i64 J, .int .i64 I]] w fun e w' => e = .returned (.agg #[.int .i64 1, .int .i64 (1 + J), .int .i64 (2 + J), .int .i64 (2 + J + (I + 3) / 4), .int .i64 (B - (2 + J + (I + 3) / 4))]) ∧ Below w.heap.size w w' := by
  obtain ⟨hB1, hB2⟩ := hB
  obtain ⟨hJ1, hJ2⟩ := hJ
  obtain ⟨hI1, hI2⟩ := hI
  go_enter Tryz.func63, Tryz.ntmps63
  go_wp2
  refine bodyPost_ret (v := .agg #[.int .i64 1, .int .i64 (1 + J), .int .i64 (2 + J), .int .i64 (2 + J + (I + 3) / 4), .int .i64 (B - (2 + J + (I + 3) / 4))]) (by simp [results, Tryz.results63, go_sem]; omega) rfl ⟨rfl, ?_⟩
  exact ((Below.refl _ _).alloc (Nat.le_refl _) _).alloc (by simp) _
end Go.Proofs.YtokjlgebkihimaaGreat.Sh
namespace Go.Proofs.YtokjlgebkihimaaGreat.Sh
open Go.RowKit

/-- is each number of a shape within its limits? -/
def inS (B J I : Int) : Prop := (16 ≤ B ∧ B ≤ 1024) ∧ (8 ≤ J ∧ J ≤ 256) ∧ (1 ≤ I ∧ I ≤ 64)
/-- is a shape one? -/
def okS (B J I : Int) : Prop := inS B J I ∧ 2 + J + (I + 3) / 4 + 4 ≤ B
set_option maxRecDepth 100000 in
theorem limited_in (B J I : Int) (h : inS B J I) (w : World) : Calls Tryz.prog 91 #[.agg #[.int .i64 B, .int .i64 J, .int .i64 I]] w fun e w' => e = .returned (.agg #[.int .i64 B, .int .i64 J, .int .i64 I]) ∧ Below w.heap.size w w' := by
  have k := limited_any B J I w
  unfold inS at h
  rw [show min (max B 16) 1024 = B by omega, show min (max J 8) 256 = J by omega, show min (max I 1) 64 = I by omega] at k
  exact k
set_option maxRecDepth 100000 in
theorem limited_b (B J I : Int) (h : ¬ (16 ≤ B ∧ B ≤ 1024)) (w : World) : Calls Tryz.prog 91 #[.agg #[.int .i64 B, .int .i64 J, .int .i64 I]] w fun e w' => (∃ B' J' I', e = .returned (.agg #[.int .i64 B', .int .i64 J', .int .i64 I']) ∧ (B == B') = false) ∧ Below w.heap.size w w' :=
  (limited_any B J I w).mono fun e w' k => ⟨⟨_, _, _, k.1, by simp; omega⟩, k.2⟩
set_option maxRecDepth 100000 in
theorem limited_j (B J I : Int) (h : 16 ≤ B ∧ B ≤ 1024) (h2 : ¬ (8 ≤ J ∧ J ≤ 256)) (w : World) : Calls Tryz.prog 91 #[.agg #[.int .i64 B, .int .i64 J, .int .i64 I]] w fun e w' => (∃ J' I', e = .returned (.agg #[.int .i64 B, .int .i64 J', .int .i64 I']) ∧ (J == J') = false) ∧ Below w.heap.size w w' := by
  have k := limited_any B J I w
  rw [show min (max B 16) 1024 = B by omega] at k
  exact k.mono fun e w' k => ⟨⟨_, _, k.1, by simp; omega⟩, k.2⟩
set_option maxRecDepth 100000 in
theorem limited_i (B J I : Int) (h : 16 ≤ B ∧ B ≤ 1024) (h2 : 8 ≤ J ∧ J ≤ 256) (h3 : ¬ (1 ≤ I ∧ I ≤ 64)) (w : World) : Calls Tryz.prog 91 #[.agg #[.int .i64 B, .int .i64 J, .int .i64 I]] w fun e w' => (∃ I', e = .returned (.agg #[.int .i64 B, .int .i64 J, .int .i64 I']) ∧ (I == I') = false) ∧ Below w.heap.size w w' := by
  have k := limited_any B J I w
  rw [show min (max B 16) 1024 = B by omega, show min (max J 8) 256 = J by omega] at k
  exact k.mono fun e w' k => ⟨⟨_, k.1, by simp; omega⟩, k.2⟩
set_option maxRecDepth 100000 in
theorem run_field5 (a b c d e : Value) (w : World) : (Instr.field 68 (.agg #[a, b, c, d, e]) 4).run Tryz.prog w = .ok e w := by
  simp [Instr.field, go_sem, asAgg]
set_option maxRecDepth 100000 in
theorem three_cells {w : World} {g : Nat} {a b c : Value} {t : TypeId} (hh : w.heap[g]? = some (.cells #[a, b, c] t (0, 0))) : w.cell? ⟨g, 0, none⟩ = some a ∧ w.cell? ⟨g, 1, none⟩ = some b ∧ w.cell? ⟨g, 2, none⟩ = some c := by
  refine ⟨?_, ?_, ?_⟩ <;> simp [World.cell?, hh]
set_option maxRecDepth 100000 in
theorem undrew {w w' : World} (h : Below w.drew.heap.size w.drew w') : Below w.heap.size w w' := ⟨h.os, h.tape, h.output, h.size, h.block⟩
set_option maxRecDepth 100000 in
theorem var_ad {w w5 : World} {o : Obj} (h : Below ((w.alloc o).drew).heap.size (w.alloc o).drew w5) : w5.heap[w.heap.size]? = some o :=
  (h.block _ (by show _ < (w.heap.push o).size; simp)).trans (by show (w.heap.push o)[_]? = _; simp)
set_option maxRecDepth 100000 in
theorem var_a {w w5 : World} {o : Obj} (h : Below (w.alloc o).heap.size (w.alloc o) w5) : w5.heap[w.heap.size]? = some o :=
  (h.block _ (by show _ < (w.heap.push o).size; simp)).trans (by show (w.heap.push o)[_]? = _; simp)
set_option maxRecDepth 100000 in
theorem bel_ad {w w5 : World} {o : Obj} (h : Below ((w.alloc o).drew).heap.size (w.alloc o).drew w5) : Below w.heap.size w w5 := (below_alloc w o).next (undrew h)
set_option maxRecDepth 100000 in
set_option maxHeartbeats 1000000 in
theorem check_out (B J I : Int) (h : ¬ inS B J I) (w : World) : Calls Tryz.prog 62 #[.agg #[.int .i64 B, .int .i64 J, .int .i64 I]] w fun e w' => e = .returned (.int .i64 60) ∧ Below w.heap.size w w' := by
  by_cases h1 : 16 ≤ B ∧ B ≤ 1024
  · by_cases h2 : 8 ≤ J ∧ J ≤ 256
    · have h3 : ¬ (1 ≤ I ∧ I ≤ 64) := fun h3 => h ⟨h1, h2, h3⟩
      have HL := hid (fun w => limited_i B J I h1 h2 h3 w)
      clear h h1 h2 h3
      go_enter Tryz.func62, Tryz.ntmps62
      go_wp2
      go_region_with (first
        | (go_at_call 91; refine (HL.out _).mono ?_; rintro e w1 ⟨⟨I', rfl, hne⟩, hb1⟩; obtain ⟨q0, q1, q2⟩ := three_cells (var_ad hb1); have HB := hid (bel_ad hb1); clear hb1))
      all_goals
        go_wp2
        go_ret
        exact ⟨rfl, HB.out⟩
    · have HL := hid (fun w => limited_j B J I h1 h2 w)
      clear h h1 h2
      go_enter Tryz.func62, Tryz.ntmps62
      go_wp2
      go_region_with (first
        | (go_at_call 91; refine (HL.out _).mono ?_; rintro e w1 ⟨⟨J', I', rfl, hne⟩, hb1⟩; obtain ⟨q0, q1, q2⟩ := three_cells (var_ad hb1); have HB := hid (bel_ad hb1); clear hb1))
      all_goals
        go_wp2
        go_ret
        exact ⟨rfl, HB.out⟩
  · have HL := hid (fun w => limited_b B J I h1 w)
    clear h h1
    go_enter Tryz.func62, Tryz.ntmps62
    go_wp2
    go_region_with (first
      | (go_at_call 91; refine (HL.out _).mono ?_; rintro e w1 ⟨⟨B', J', I', rfl, hne⟩, hb1⟩; obtain ⟨q0, q1, q2⟩ := three_cells (var_ad hb1); have HB := hid (bel_ad hb1); clear hb1))
    all_goals
      go_wp2
      go_ret
      exact ⟨rfl, HB.out⟩
set_option maxRecDepth 100000 in
set_option maxHeartbeats 1000000 in
theorem check_none (B J I : Int) (h : inS B J I) (hz : ¬ 2 + J + (I + 3) / 4 + 4 ≤ B) (w : World) : Calls Tryz.prog 62 #[.agg #[.int .i64 B, .int .i64 J, .int .i64 I]] w fun e w' => e = .returned (.int .i64 60) ∧ Below w.heap.size w w' := by
  have HL := hid (fun w => limited_in B J I h w)
  have HR := hid (fun w => regions_any B J I h.1 h.2.1 h.2.2 w)
  obtain ⟨D, hD⟩ : ∃ D, D = B - (2 + J + (I + 3) / 4) := ⟨_, rfl⟩
  rw [← hD] at HR
  have hlt : D < 4 := by omega
  obtain ⟨E, hE⟩ : ∃ E, E = 2 + J + (I + 3) / 4 := ⟨_, rfl⟩
  rw [← hE] at HR
  clear hD hE hz h
  have hfl := run_field5
  go_enter Tryz.func62, Tryz.ntmps62
  go_wp2
  go_region_held3 (fun w' => w'.cell? ⟨w.heap.size, 0, none⟩ = some (.int .i64 B) ∧ w'.cell? ⟨w.heap.size, 1, none⟩ = some (.int .i64 J) ∧ w'.cell? ⟨w.heap.size, 2, none⟩ = some (.int .i64 I)) (first | exact ⟨q0, q1, q2⟩ | go_keep) (first
    | (go_at_call 91; refine (HL.out _).mono ?_; rintro e w1 ⟨rfl, hb1⟩; obtain ⟨q0, q1, q2⟩ := three_cells (var_ad hb1); have HB := hid (bel_ad hb1); have HV := hid (var_ad hb1); clear hb1)
    | (go_at_call 63; refine (HR.out _).mono ?_; rintro e w2 ⟨rfl, hb2⟩; clear q0 q1 q2; obtain ⟨q0, q1, q2⟩ := three_cells ((hb2.block _ (lt_of_block HV.out)).trans HV.out); have HB2 := hid (HB.out.next hb2); clear hb2))
  all_goals
    go_wp2
    go_ret
    exact ⟨rfl, HB2.out⟩
set_option maxRecDepth 100000 in
set_option maxHeartbeats 1000000 in
theorem check_ok (B J I : Int) (h : okS B J I) (w : World) : Calls Tryz.prog 62 #[.agg #[.int .i64 B, .int .i64 J, .int .i64 I]] w fun e w' => e = .returned (.int .i64 0) ∧ Below w.heap.size w w' := by
  obtain ⟨h, hz⟩ := h
  have HL := hid (fun w => limited_in B J I h w)
  have HR := hid (fun w => regions_any B J I h.1 h.2.1 h.2.2 w)
  obtain ⟨D, hD⟩ : ∃ D, D = B - (2 + J + (I + 3) / 4) := ⟨_, rfl⟩
  rw [← hD] at HR
  have hlt : ¬ D < 4 := by omega
  obtain ⟨E, hE⟩ : ∃ E, E = 2 + J + (I + 3) / 4 := ⟨_, rfl⟩
  rw [← hE] at HR
  clear hD hE hz h
  have hfl := run_field5
  go_enter Tryz.func62, Tryz.ntmps62
  go_wp2
  go_region_held3 (fun w' => w'.cell? ⟨w.heap.size, 0, none⟩ = some (.int .i64 B) ∧ w'.cell? ⟨w.heap.size, 1, none⟩ = some (.int .i64 J) ∧ w'.cell? ⟨w.heap.size, 2, none⟩ = some (.int .i64 I)) (first | exact ⟨q0, q1, q2⟩ | go_keep) (first
    | (go_at_call 91; refine (HL.out _).mono ?_; rintro e w1 ⟨rfl, hb1⟩; obtain ⟨q0, q1, q2⟩ := three_cells (var_ad hb1); have HB := hid (bel_ad hb1); have HV := hid (var_ad hb1); clear hb1)
    | (go_at_call 63; refine (HR.out _).mono ?_; rintro e w2 ⟨rfl, hb2⟩; clear q0 q1 q2; obtain ⟨q0, q1, q2⟩ := three_cells ((hb2.block _ (lt_of_block HV.out)).trans HV.out); have HB2 := hid (HB.out.next hb2); clear hb2))
  all_goals
    go_wp2
    go_ret
    exact ⟨rfl, HB2.out⟩
set_option maxRecDepth 100000 in
theorem check_bad (B J I : Int) (h : ¬ okS B J I) (w : World) : Calls Tryz.prog 62 #[.agg #[.int .i64 B, .int .i64 J, .int .i64 I]] w fun e w' => e = .returned (.int .i64 60) ∧ Below w.heap.size w w' := by
  by_cases h1 : inS B J I
  · exact check_none B J I h1 (fun h2 => h ⟨h1, h2⟩) w
  · exact check_out B J I h1 w
end Go.Proofs.YtokjlgebkihimaaGreat.Sh
namespace Go.Proofs.YtokjlgebkihimaaGreat.Sh
open Go.RowKit

set_option maxRecDepth 100000 in
theorem var_2 {w w5 : World} {o1 o2 : Obj} (h : Below ((w.alloc o1).alloc o2).heap.size ((w.alloc o1).alloc o2) w5) : w5.heap[w.heap.size]? = some o1 ∧ w5.heap[w.heap.size + 1]? = some o2 := by
  constructor
  · exact (h.block _ (by show _ < ((w.heap.push o1).push o2).size; simp; omega)).trans (by show ((w.heap.push o1).push o2)[_]? = _; rw [Array.getElem?_push, if_neg (by simp), Array.getElem?_push, if_pos rfl])
  · exact (h.block _ (by show _ < ((w.heap.push o1).push o2).size; simp)).trans (by show ((w.heap.push o1).push o2)[_]? = _; rw [Array.getElem?_push, if_pos (by simp)])
set_option maxRecDepth 100000 in
theorem bel_2 {w w5 : World} {o1 o2 : Obj} (h : Below ((w.alloc o1).alloc o2).heap.size ((w.alloc o1).alloc o2) w5) : Below w.heap.size w w5 := ((below_alloc w o1).next (below_alloc _ o2)).next h
set_option maxRecDepth 100000 in
theorem bel_drewN {B : Nat} {w w' : World} (h : Below B w w') (n : Nat) : Below B w (w'.drewN n) := ⟨h.os, h.tape, h.output, h.size, h.block⟩
set_option maxRecDepth 100000 in
theorem frees {w : World} {g : Nat} {cs : Array Value} {t : TypeId} (hh : w.heap[g]? = some (.cells cs t (0, 0))) (i : Nat) : w.frozen? ⟨g, i, none⟩ = false := by simp [World.frozen?, hh]
set_option maxRecDepth 100000 in
theorem five_cells {w : World} {g : Nat} {a b c d e : Value} {t : TypeId} (hh : w.heap[g]? = some (.cells #[a, b, c, d, e] t (0, 0))) : w.cell? ⟨g, 0, none⟩ = some a ∧ w.cell? ⟨g, 1, none⟩ = some b ∧ w.cell? ⟨g, 2, none⟩ = some c ∧ w.cell? ⟨g, 3, none⟩ = some d ∧ w.cell? ⟨g, 4, none⟩ = some e := by
  refine ⟨?_, ?_, ?_, ?_, ?_⟩ <;> simp [World.cell?, hh]
/-- a shape's regions -/
def regS (B J I : Int) : Value := .agg #[.int .i64 1, .int .i64 (1 + J), .int .i64 (2 + J), .int .i64 (2 + J + (I + 3) / 4), .int .i64 (B - (2 + J + (I + 3) / 4))]
set_option maxRecDepth 100000 in
set_option maxHeartbeats 1000000 in
theorem of_ok (B J I : Int) (h : okS B J I) (w : World) : Calls Tryz.prog 28 #[.agg #[.int .i64 B, .int .i64 J, .int .i64 I]] w fun e w' => e = .returned (.tuple #[regS B J I, .int .i64 0]) ∧ Below w.heap.size w w' := by
  have HC := hid (fun w => check_ok B J I h w)
  have HR := hid (fun w => regions_any B J I h.1.1 h.1.2.1 h.1.2.2 w)
  unfold regS
  obtain ⟨D, hD⟩ : ∃ D, D = B - (2 + J + (I + 3) / 4) := ⟨_, rfl⟩
  obtain ⟨E, hE⟩ : ∃ E, E = 2 + J + (I + 3) / 4 := ⟨_, rfl⟩
  rw [← hD] at HR ⊢
  rw [← hE] at HR ⊢
  clear hD hE h
  go_enter Tryz.func28, Tryz.ntmps28
  go_wp2_with (first
    | (go_at_call 62; refine (HC.out _).mono ?_; rintro e w1 ⟨rfl, hb1⟩; obtain ⟨v1, v2⟩ := var_2 hb1; have HV := hid v2; have HB1 := hid (bel_2 hb1); obtain ⟨q0, q1, q2⟩ := three_cells v1; clear hb1 v1 v2)
    | (go_at_call 63; refine (HR.out _).mono ?_; rintro e w2 ⟨rfl, hb2⟩; have v3 := (hb2.block _ (lt_of_block HV.out)).trans HV.out; have HB2 := hid (HB1.out.next hb2); have HV2 := hid v3; clear q0 q1 q2; obtain ⟨q0, q1, q2, q3, q4⟩ := five_cells v3; have hfr := frees v3; clear v3 hb2))
  refine bodyPost_ret (v := .tuple #[.agg #[.int .i64 1, .int .i64 (1 + J), .int .i64 (2 + J), .int .i64 E, .int .i64 D], .int .i64 0]) (by simp [results, Tryz.results28, go_sem, q0, q1, q2, q3, q4]) rfl ⟨rfl, ?_⟩
  exact ((((HB2.out.setCell (by simp) _).setCell (by simp) _).setCell (by simp) _).setCell (by simp) _).setCell (by simp) _
set_option maxRecDepth 100000 in
set_option maxHeartbeats 1000000 in
theorem of_bad (B J I : Int) (h : ¬ okS B J I) (w : World) : Calls Tryz.prog 28 #[.agg #[.int .i64 B, .int .i64 J, .int .i64 I]] w fun e w' => e = .returned (.tuple #[.agg #[.int .i64 0, .int .i64 0, .int .i64 0, .int .i64 0, .int .i64 0], .int .i64 60]) ∧ Below w.heap.size w w' := by
  have HC := hid (fun w => check_bad B J I h w)
  clear h
  go_enter Tryz.func28, Tryz.ntmps28
  go_wp2_with (first
    | (go_at_call 62; refine (HC.out _).mono ?_; rintro e w1 ⟨rfl, hb1⟩; obtain ⟨v1, v2⟩ := var_2 hb1; have HV := hid v2; have HB1 := hid (bel_2 hb1); obtain ⟨q0, q1, q2, q3, q4⟩ := five_cells v2; have hfr := frees v2; clear hb1 v1 v2))
  refine bodyPost_ret (v := .tuple #[.agg #[.int .i64 0, .int .i64 0, .int .i64 0, .int .i64 0, .int .i64 0], .int .i64 60]) (by simp [results, Tryz.results28, go_sem, q0, q1, q2, q3, q4]) rfl ⟨rfl, ?_⟩
  exact ((((HB1.out.setCell (by simp) _).setCell (by simp) _).setCell (by simp) _).setCell (by simp) _).setCell (by simp) _
end Go.Proofs.YtokjlgebkihimaaGreat.Sh
