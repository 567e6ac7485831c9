import Derived.Test.YtjphfpfagnhelaaFa
import Derived.Lib.SmallJoins
import Derived.Deep.Slices
import Derived.JoinedCond
import Derived.ChangeOld
import Derived.Carry
namespace Go.Proofs.Ytjphfpfagnhelaa
open Go.ChangeShapes Go.WideShapes Go.ChangeAt Go.RowKit Go.Joins Go.Deep

theorem laidOut : laidOutB Try.prog = true := by kernel_rfl
theorem cells3 : Try.prog.cellsOf 3 = 1 := by kernel_rfl
theorem cells9 : Try.prog.cellsOf 9 = 1 := by kernel_rfl
theorem cells23 : Try.prog.cellsOf 52 = 6 := by kernel_rfl
theorem cells25 : Try.prog.cellsOf 54 = 9 := by kernel_rfl
theorem cells41 : Try.prog.cellsOf 22 = 1 := by kernel_rfl
set_option maxRecDepth 100000 in
/-- the cells of an entry -/
theorem trod25 {H : Type} {enc : TypeId × Value → H} {W : World} {fuel : Nat} {cs : List Value} {x : DataW H × List MemPlace} (hcs : cs.length = 9)
    (hf : DataW.trod enc Try.prog W 0 (fun _ => true) true fuel 54 cs = some x) : ∃ n : Ent, cs = n.cs ∧ n.Ok := by
  obtain ⟨xs, n', _, hxy, hcl, hxl, hfl⟩ := DataW.trod_struct Try.underlying54 hf
  match cs, hcs with
  | [v0, v1, v2, v3, v4, v5, v6, v7, v8], _ =>
    match xs, hxl with
    | [y0, y1, y2, y3], _ =>
      have g0 := hfl 0 _ rfl
      have g1 := hfl 1 _ rfl
      have g2 := hfl 2 _ rfl
      have g3 := hfl 3 _ rfl
      simp [cells3] at g0 g1 g2
      simp [cells23] at g3
      obtain ⟨zs, m, _, _, _, hzl, hz⟩ := DataW.trod_struct Try.underlying52 g3
      match zs, hzl with
      | [z0, z1, z2, z3, z4, z5], _ =>
        have k0 := hz 0 _ rfl
        have k1 := hz 1 _ rfl
        have k2 := hz 2 _ rfl
        have k3 := hz 3 _ rfl
        have k4 := hz 4 _ rfl
        have k5 := hz 5 _ rfl
        simp [cells3] at k0 k1 k2
        simp [cells9] at k3 k4 k5
        obtain ⟨a0, q0, _, b0⟩ := DataW.trod_int Try.underlying3 g0
        obtain ⟨a1, q1, _, b1⟩ := DataW.trod_int Try.underlying3 g1
        obtain ⟨a2, q2, _, b2⟩ := DataW.trod_int Try.underlying3 g2
        obtain ⟨a3, q3, _, b3⟩ := DataW.trod_int Try.underlying3 k0
        obtain ⟨a4, q4, _, b4⟩ := DataW.trod_int Try.underlying3 k1
        obtain ⟨a5, q5, _, b5⟩ := DataW.trod_int Try.underlying3 k2
        obtain ⟨a6, q6, _, b6⟩ := DataW.trod_string Try.underlying9 k3
        obtain ⟨a7, q7, _, b7⟩ := DataW.trod_string Try.underlying9 k4
        obtain ⟨a8, q8, _, b8⟩ := DataW.trod_string Try.underlying9 k5
        simp at q0 q1 q2 q3 q4 q5 q6 q7 q8
        subst q0 q1 q2 q3 q4 q5 q6 q7 q8
        exact ⟨⟨a0, a1, a2, a3, a4, a5, a6, a7, a8⟩, rfl, bounds_i64 b0, bounds_i64 b1, bounds_i64 b2, bounds_i64 b3, bounds_i64 b4, bounds_i64 b5⟩
instance : Inhabited Ent := ⟨Ent.zero⟩
set_option maxRecDepth 100000 in
theorem open_ent {H : Type} {enc : TypeId × Value → H} {W : World} {base : Nat} {v : Value} {d : DataW H} {p : List MemPlace} (hv : Value.okWide Try.prog W .any base 54 v) (h : DataW.Trod enc Try.prog W 0 (fun _ => true) true 54 v d p) : ∃ n : Ent, v = n.v ∧ n.Ok := by
  obtain ⟨cs, rfl, hcs⟩ := okWide_struct Try.underlying54 hv
  rw [cells25] at hcs
  obtain ⟨fuel, hf⟩ := h
  obtain ⟨l⟩ := cs
  obtain ⟨n, e, hn⟩ := trod25 (cs := l) (by simpa using hcs) (by simpa [Value.cells] using hf)
  subst e
  exact ⟨n, rfl, hn⟩
theorem range_get {α : Type} (f : Nat → α) (n i : Nat) (h : i < ((List.range n).map f).length) : ((List.range n).map f)[i] = f i := by simp
set_option maxRecDepth 100000 in
theorem open_entries {H : Type} {enc : TypeId × Value → H} {W : World} {fuel : Nat} {ao : Option Addr} {len cap : Nat} {x : DataW H × List MemPlace}
    (h : DataW.trod enc Try.prog W 0 (fun _ => true) true fuel 22 [.slice ao len cap] = some x) : ∃ l, ELie W (.slice ao len cap) l ∧ ∀ y ∈ l, y.Ok := by
  rcases open_slice Try.underlying22 h with ⟨h0, hx⟩ | ⟨a, len', cap', m, n, D, Pl, hcs, hb, hl, hm, hmm, hx, hel⟩
  · simp at h0
    obtain ⟨rfl, rfl, rfl⟩ := h0
    exact ⟨[], ELie.nil W, fun y hy => by simp at hy⟩
  · simp at hcs
    obtain ⟨rfl, rfl, rfl⟩ := hcs
    have hlm : len ≤ m := by rw [hmm]; split <;> omega
    have each : ∀ i, i < len → ∃ y : Ent, y.Ok ∧ ∀ k, k < 9 → W.cell? (a.add (i * 9 + k)) = y.cs[k]? := by
      intro i hi
      obtain ⟨cs', h1, h2⟩ := hel i (by omega)
      rw [cells25] at h1
      obtain ⟨_, hlen, hcell⟩ := World.cells?_some h1
      obtain ⟨y, rfl, hy⟩ := trod25 hlen h2
      refine ⟨y, hy, fun k hk => ?_⟩
      have := hcell k hk
      rw [Deep.add_add] at this
      exact this
    obtain ⟨it, hit⟩ := choose_lt each
    refine ⟨(List.range len).map it, ⟨some a, cap, by simp, by simpa using hl, hm, fun i hi => ?_⟩, fun y hy => ?_⟩
    · rw [range_get]
      have hi' : i < len := by simpa using hi
      have hat := (hit i hi').2
      obtain ⟨b, off, sp⟩ := a
      have a00 : W.cell? (Addr.add ⟨b, off, sp⟩ (0 * 9 + 0)) = some (.int .i64 (it 0).V) := (hit 0 (by omega)).2 0 (by decide)
      have hsp : sp = none := by simpa [Addr.add] using World.cell?_spot a00
      subst hsp
      have hblk : b < W.heap.size := by
        obtain ⟨cs', h1, _⟩ := hel i (by omega)
        rw [cells25, add_at] at h1
        exact World.cells?_block h1 (by decide)
      have at_ : ∀ k, k < 9 → W.cell? ⟨b, off + i * 9 + k, none⟩ = (it i).cs[k]? := fun k hk => by
        have := hat k hk
        rw [add_at, ← Nat.add_assoc] at this
        exact this
      exact ⟨b, off, rfl, hblk, at_ 0 (by decide), at_ 1 (by decide), at_ 2 (by decide), at_ 3 (by decide), at_ 4 (by decide), at_ 5 (by decide), at_ 6 (by decide), at_ 7 (by decide), at_ 8 (by decide)⟩
    · simp only [List.mem_map, List.mem_range] at hy
      obtain ⟨i, hi, rfl⟩ := hy
      exact (hit i hi).1
end Go.Proofs.Ytjphfpfagnhelaa
