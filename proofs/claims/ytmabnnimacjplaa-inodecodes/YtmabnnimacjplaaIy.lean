import Derived.Test.YtmabnnimacjplaaIt
namespace Go.Proofs.Ytmabnnimacjplaa
open Go.ChangeShapes Go.WideShapes Go.ChangeAt Go.RowKit Go.Joins Go.Deep

theorem cells22 : Try.prog.cellsOf 22 = 6 := by kernel_rfl
theorem cells24 : Try.prog.cellsOf 24 = 11 := by kernel_rfl
set_option maxRecDepth 100000 in
theorem open_ino {H : Type} {enc : TypeId × Value → H} {W : World} {base : Nat} {v : Value} {d : DataW H} {p : List MemPlace} (hv : Value.okWide Try.prog W .any base 24 v) (h : DataW.Trod enc Try.prog W 0 (fun _ => true) true 24 v d p) : ∃ n : Ino, v = n.v := by
  obtain ⟨cs, rfl, hcs⟩ := okWide_struct Try.underlying24 hv
  rw [cells24] at hcs
  obtain ⟨fuel, hf⟩ := h
  obtain ⟨xs, n', _, hxy, hcl, hxl, hfl⟩ := DataW.trod_struct Try.underlying24 hf
  obtain ⟨l⟩ := cs
  match l, hcs with
  | [v0, v1, v2, v3, v4, v5, v6, v7, v8, v9, v10], _ =>
    match xs, hxl with
    | [y0, y1, y2, y3, y4, y5], _ =>
      have g0 := hfl 0 _ rfl
      have g1 := hfl 1 _ rfl
      have g2 := hfl 2 _ rfl
      have g3 := hfl 3 _ rfl
      have g4 := hfl 4 _ rfl
      have g5 := hfl 5 _ rfl
      simp [Value.cells, cells3] at g0 g1 g2 g4 g5
      simp [Value.cells, cells22] at g3
      obtain ⟨zs, m, _, _, _, hzl, hz⟩ := DataW.trod_array Try.underlying22 g3
      match zs, hzl with
      | [z0, z1, z2, z3, z4, z5], _ =>
        have k0 := hz 0 (by decide)
        have k1 := hz 1 (by decide)
        have k2 := hz 2 (by decide)
        have k3 := hz 3 (by decide)
        have k4 := hz 4 (by decide)
        have k5 := hz 5 (by decide)
        simp [cells3] at k0 k1 k2 k3 k4 k5
        obtain ⟨a0, q0, _, _⟩ := DataW.trod_int Try.underlying3 g0
        obtain ⟨a1, q1, _, _⟩ := DataW.trod_int Try.underlying3 g1
        obtain ⟨a2, q2, _, _⟩ := DataW.trod_int Try.underlying3 g2
        obtain ⟨a3, q3, _, _⟩ := DataW.trod_int Try.underlying3 k0
        obtain ⟨a4, q4, _, _⟩ := DataW.trod_int Try.underlying3 k1
        obtain ⟨a5, q5, _, _⟩ := DataW.trod_int Try.underlying3 k2
        obtain ⟨a6, q6, _, _⟩ := DataW.trod_int Try.underlying3 k3
        obtain ⟨a7, q7, _, _⟩ := DataW.trod_int Try.underlying3 k4
        obtain ⟨a8, q8, _, _⟩ := DataW.trod_int Try.underlying3 k5
        obtain ⟨a9, q9, _, _⟩ := DataW.trod_int Try.underlying3 g4
        obtain ⟨a10, q10, _, _⟩ := DataW.trod_int Try.underlying3 g5
        simp at q0 q1 q2 q3 q4 q5 q6 q7 q8 q9 q10
        subst q0 q1 q2 q3 q4 q5 q6 q7 q8 q9 q10
        exact ⟨⟨a0, a1, a2, a3, a4, a5, a6, a7, a8, a9, a10⟩, rfl⟩
end Go.Proofs.Ytmabnnimacjplaa
