import Derived.Test.YtjphfpfagnhelaaOe
import Derived.Test.YtjphfpfagnhelaaMg
namespace Go.Proofs.Ytjphfpfagnhelaa
open Go.ChangeShapes Go.WideShapes Go.ChangeAt Go.RowKit Go.Joins Go.Deep

theorem bulk_pos {H : Type} (d : DataW H) : 1 ≤ Rows.uptoBulk d := by
  cases d with
  | lit x => cases x <;> simp [Rows.uptoBulk]
  | nil => simp [Rows.uptoBulk]
  | ptr d => simp [Rows.uptoBulk]
  | slice a b => simp [Rows.uptoBulk]
  | agg a => simp [Rows.uptoBulk]
  | iface a b => simp [Rows.uptoBulk]
  | map a => simp [Rows.uptoBulk]
  | held a => simp [Rows.uptoBulk]
theorem bulk_len {H : Type} : ∀ l : List (DataW H), l.length ≤ Rows.uptoBulkAll l
  | [] => Nat.le_refl _
  | d :: l => by
    have h1 := bulk_len l
    have h2 := bulk_pos d
    rw [Rows.uptoBulkAll, List.length_cons]
    omega
theorem bulk_mem {H : Type} : ∀ (l : List (DataW H)) (d : DataW H), d ∈ l → Rows.uptoBulk d ≤ Rows.uptoBulkAll l
  | [], d, h => by simp at h
  | x :: l, d, h => by
    rw [Rows.uptoBulkAll]
    rcases List.mem_cons.1 h with rfl | h
    · omega
    · have := bulk_mem l d h
      omega
set_option maxRecDepth 100000 in
theorem open_entries2 {H : Type} {enc : TypeId × Value → H} {W : World} {fuel : Nat} {v : Value} {x : DataW H × List MemPlace}
    (h : DataW.trod enc Try.prog W 0 (fun _ => true) true fuel 22 [v] = some x) : ∃ l, ELie W v l ∧ (∀ y ∈ l, y.Ok) ∧ l.length ≤ Rows.uptoBulk x.1 := by
  rcases open_slice Try.underlying22 h with ⟨h0, hx⟩ | ⟨a, len', cap', m, n, D, Pl, hcs, hb, hl, hm, hmm, hx, hel⟩
  · simp at h0
    subst h0
    exact ⟨[], ELie.nil W, fun y hy => by simp at hy, by simp⟩
  · simp at hcs
    subst hcs
    obtain ⟨l, hl2, hok⟩ := open_entries h
    refine ⟨l, hl2, hok, ?_⟩
    obtain ⟨ao, cap, e, _⟩ := hl2
    have e2 : len' = l.length := by cases e; rfl
    rw [hx, ← e2]
    have := bulk_len ((List.range len').map D)
    simp only [List.length_map, List.length_range] at this
    simp only [Rows.uptoBulk]
    omega
theorem cells24 : Try.prog.cellsOf 24 = 6 := by kernel_rfl
theorem cells22' : Try.prog.cellsOf 22 = 1 := by kernel_rfl
set_option maxRecDepth 100000 in
/-- a message among the arguments -/
theorem open_msg {H : Type} {enc : TypeId × Value → H} {W : World} {base : Nat} {v : Value} {d : DataW H} {p : List MemPlace} (hv : Value.okWide Try.prog W .any base 24 v) (h : DataW.Trod enc Try.prog W 0 (fun _ => true) true 24 v d p) (hk : Rows.uptoBulk d ≤ 1048576) : ∃ m : Mg, v = m.v ∧ MOk W m ∧ i64B m.K ∧ i64B m.V ∧ i64B m.N ∧ i64B m.A ∧ i64B m.C := by
  obtain ⟨cs, rfl, hcs⟩ := okWide_struct Try.underlying24 hv
  rw [cells24] at hcs
  obtain ⟨fuel, hf⟩ := h
  obtain ⟨l⟩ := cs
  have hf2 : DataW.trod enc Try.prog W 0 (fun _ => true) true fuel 24 l = some (d, p) := by simpa [Value.cells] using hf
  obtain ⟨xs, n', _, hxy, hcl, hxl, hfl⟩ := DataW.trod_struct Try.underlying24 hf2
  have hcs' : l.length = 6 := by simpa using hcs
  match l, hcs' with
  | [v0, v1, v2, v3, v4, v5], _ =>
    match xs, hxl with
    | [y0, y1, y2, y3, y4, y5], _ =>
      have g0 := hfl 0 _ rfl
      have g1 := hfl 1 _ rfl
      have g2 := hfl 2 _ rfl
      have g3 := hfl 3 _ rfl
      have g4 := hfl 4 _ rfl
      have g5 := hfl 5 _ rfl
      simp [cells3] at g0 g1 g2 g3 g4
      simp [cells22'] at g5
      obtain ⟨a0, q0, _, b0⟩ := DataW.trod_int Try.underlying3 g0
      obtain ⟨a1, q1, _, b1⟩ := DataW.trod_int Try.underlying3 g1
      obtain ⟨a2, q2, _, b2⟩ := DataW.trod_int Try.underlying3 g2
      obtain ⟨a3, q3, _, b3⟩ := DataW.trod_int Try.underlying3 g3
      obtain ⟨a4, q4, _, b4⟩ := DataW.trod_int Try.underlying3 g4
      obtain ⟨es, e1, e2, e3⟩ := open_entries2 g5
      simp at q0 q1 q2 q3 q4
      subst q0 q1 q2 q3 q4
      refine ⟨⟨a0, a1, a2, a3, a4, v5, es⟩, rfl, ⟨e1, e2, ?_⟩, bounds_i64 b0, bounds_i64 b1, bounds_i64 b2, bounds_i64 b3, bounds_i64 b4⟩
      have hb : Rows.uptoBulk y5.1 ≤ Rows.uptoBulk d := by
        have e0 : d = .agg [y0.1, y1.1, y2.1, y3.1, y4.1, y5.1] := by
          have := congrArg Prod.fst hxy
          simpa using this
        rw [e0]
        simp only [Rows.uptoBulk, Rows.uptoBulkAll]
        omega
      simp only
      omega
end Go.Proofs.Ytjphfpfagnhelaa
