import Derived.Test.YtjnhibpebikkmaaGreatGp
import Derived.Lib.SmallJoins
import Derived.Deep.Slices
import Derived.JoinedCond
import Derived.ChangeOld
import Derived.Carry
namespace Go.Proofs.YtjnhibpebikkmaaGreat
open Go.ChangeShapes Go.WideShapes Go.ChangeAt Go.RowKit Go.Joins Go.Deep

theorem laidOut : laidOutB Tryz.prog = true := by kernel_rfl
theorem cells3 : Tryz.prog.cellsOf 3 = 1 := by kernel_rfl
theorem cells9 : Tryz.prog.cellsOf 9 = 1 := by kernel_rfl
theorem cells23 : Tryz.prog.cellsOf 23 = 3 := by kernel_rfl
theorem cells31 : Tryz.prog.cellsOf 31 = 6 := by kernel_rfl
theorem cells33 : Tryz.prog.cellsOf 33 = 11 := by kernel_rfl
theorem cells35 : Tryz.prog.cellsOf 35 = 16 := by kernel_rfl
/-- a step, as it is read -/
structure Stp where
  k : Int
  i : Int
  a : Int
  n : Int
  d : ByteArray
  o : Ino
instance : Inhabited Stp := ⟨⟨0, 0, 0, 0, ⟨#[]⟩, ⟨0, 0, 0, 0, 0, 0, 0, 0, 0, 0, 0⟩⟩⟩
theorem range_get {α : Type} (it : Nat → α) (n i : Nat) (h : i < ((List.range n).map it).length) : ((List.range n).map it)[i] = it i := by simp
/-- a step lies there -/
def SAt (w : World) (gb o : Nat) (s : Stp) : Prop := w.cell? ⟨gb, o + 0, none⟩ = some (.int .i64 s.k) ∧ w.cell? ⟨gb, o + 1, none⟩ = some (.int .i64 s.i) ∧ w.cell? ⟨gb, o + 2, none⟩ = some (.int .i64 s.a) ∧ w.cell? ⟨gb, o + 3, none⟩ = some (.int .i64 s.n) ∧ w.cell? ⟨gb, o + 4, none⟩ = some (.string s.d) ∧ w.cell? ⟨gb, o + 5, none⟩ = some (.int .i64 s.o.k) ∧ w.cell? ⟨gb, o + 6, none⟩ = some (.int .i64 s.o.l) ∧ w.cell? ⟨gb, o + 7, none⟩ = some (.int .i64 s.o.z) ∧ w.cell? ⟨gb, o + 8, none⟩ = some (.int .i64 s.o.a) ∧ w.cell? ⟨gb, o + 9, none⟩ = some (.int .i64 s.o.b) ∧ w.cell? ⟨gb, o + 10, none⟩ = some (.int .i64 s.o.c) ∧ w.cell? ⟨gb, o + 11, none⟩ = some (.int .i64 s.o.d) ∧ w.cell? ⟨gb, o + 12, none⟩ = some (.int .i64 s.o.e) ∧ w.cell? ⟨gb, o + 13, none⟩ = some (.int .i64 s.o.f) ∧ w.cell? ⟨gb, o + 14, none⟩ = some (.int .i64 s.o.s) ∧ w.cell? ⟨gb, o + 15, none⟩ = some (.int .i64 s.o.t)
theorem SAt.same {w w' : World} {gb o : Nat} {s : Stp} (h : SAt w gb o s) (k : w'.heap[gb]? = w.heap[gb]?) : SAt w' gb o s := by
  unfold SAt at h ⊢
  simp only [cell_same k]
  exact h
/-- a slice reads as steps -/
def TLie (w : World) (v : Value) (l : List Stp) : Prop :=
  ∃ ao cap, v = .slice ao l.length cap ∧ l.length ≤ cap ∧ cap ≤ maxLen ∧ ∀ i (hi : i < l.length), ∃ gb off, ao = some ⟨gb, off, none⟩ ∧ gb < w.heap.size ∧ SAt w gb (off + i * 16) l[i]
/-- a slice reads as texts -/
def SLie (w : World) (v : Value) (l : List ByteArray) : Prop :=
  ∃ ao cap, v = .slice ao l.length cap ∧ l.length ≤ cap ∧ cap ≤ maxLen ∧ ∀ i (hi : i < l.length), ∃ gb off, ao = some ⟨gb, off, none⟩ ∧ gb < w.heap.size ∧ w.cell? ⟨gb, off + i, none⟩ = some (.string l[i])
set_option maxRecDepth 100000 in
theorem open_node {H : Type} {enc : TypeId × Value → H} {W : World} {fuel : Nat} {v0 v1 v2 v3 v4 v5 v6 v7 v8 v9 v10 : Value} {x : DataW H × List MemPlace}
    (h : DataW.trod enc Tryz.prog W 0 (fun _ => true) true fuel 33 [v0, v1, v2, v3, v4, v5, v6, v7, v8, v9, v10] = some x) : ∃ n : Ino, v0 = .int .i64 n.k ∧ v1 = .int .i64 n.l ∧ v2 = .int .i64 n.z ∧ v3 = .int .i64 n.a ∧ v4 = .int .i64 n.b ∧ v5 = .int .i64 n.c ∧ v6 = .int .i64 n.d ∧ v7 = .int .i64 n.e ∧ v8 = .int .i64 n.f ∧ v9 = .int .i64 n.s ∧ v10 = .int .i64 n.t := by
  obtain ⟨xs, n', _, hxy, hcl, hxl, hfl⟩ := DataW.trod_struct Tryz.underlying33 h
  match xs, hxl with
  | [y0, y1, y2, y3, y4, y5], _ =>
    have g0 := hfl 0 _ rfl
    have g1 := hfl 1 _ rfl
    have g2 := hfl 2 _ rfl
    have g3 := hfl 3 _ rfl
    have g4 := hfl 4 _ rfl
    have g5 := hfl 5 _ rfl
    simp [cells3] at g0 g1 g2 g4 g5
    simp [cells31] at g3
    obtain ⟨zs, m, _, _, _, hzl, hz⟩ := DataW.trod_array Tryz.underlying31 g3
    match zs, hzl with
    | [z0, z1, z2, z3, z4, z5], _ =>
      have k0 := hz 0 (by decide)
      have k1 := hz 1 (by decide)
      have k2 := hz 2 (by decide)
      have k3 := hz 3 (by decide)
      have k4 := hz 4 (by decide)
      have k5 := hz 5 (by decide)
      simp [cells3] at k0 k1 k2 k3 k4 k5
      obtain ⟨a0, q0, _, _⟩ := DataW.trod_int Tryz.underlying3 g0
      obtain ⟨a1, q1, _, _⟩ := DataW.trod_int Tryz.underlying3 g1
      obtain ⟨a2, q2, _, _⟩ := DataW.trod_int Tryz.underlying3 g2
      obtain ⟨a3, q3, _, _⟩ := DataW.trod_int Tryz.underlying3 k0
      obtain ⟨a4, q4, _, _⟩ := DataW.trod_int Tryz.underlying3 k1
      obtain ⟨a5, q5, _, _⟩ := DataW.trod_int Tryz.underlying3 k2
      obtain ⟨a6, q6, _, _⟩ := DataW.trod_int Tryz.underlying3 k3
      obtain ⟨a7, q7, _, _⟩ := DataW.trod_int Tryz.underlying3 k4
      obtain ⟨a8, q8, _, _⟩ := DataW.trod_int Tryz.underlying3 k5
      obtain ⟨a9, q9, _, _⟩ := DataW.trod_int Tryz.underlying3 g4
      obtain ⟨a10, q10, _, _⟩ := DataW.trod_int Tryz.underlying3 g5
      simp at q0 q1 q2 q3 q4 q5 q6 q7 q8 q9 q10
      subst q0 q1 q2 q3 q4 q5 q6 q7 q8 q9 q10
      exact ⟨⟨a0, a1, a2, a3, a4, a5, a6, a7, a8, a9, a10⟩, rfl, rfl, rfl, rfl, rfl, rfl, rfl, rfl, rfl, rfl, rfl⟩
set_option maxRecDepth 100000 in
theorem open_step {H : Type} {enc : TypeId × Value → H} {W : World} {fuel : Nat} {v0 v1 v2 v3 v4 v5 v6 v7 v8 v9 v10 v11 v12 v13 v14 v15 : Value} {x : DataW H × List MemPlace}
    (h : DataW.trod enc Tryz.prog W 0 (fun _ => true) true fuel 35 [v0, v1, v2, v3, v4, v5, v6, v7, v8, v9, v10, v11, v12, v13, v14, v15] = some x) : ∃ s : Stp, v0 = .int .i64 s.k ∧ v1 = .int .i64 s.i ∧ v2 = .int .i64 s.a ∧ v3 = .int .i64 s.n ∧ v4 = .string s.d ∧ v5 = .int .i64 s.o.k ∧ v6 = .int .i64 s.o.l ∧ v7 = .int .i64 s.o.z ∧ v8 = .int .i64 s.o.a ∧ v9 = .int .i64 s.o.b ∧ v10 = .int .i64 s.o.c ∧ v11 = .int .i64 s.o.d ∧ v12 = .int .i64 s.o.e ∧ v13 = .int .i64 s.o.f ∧ v14 = .int .i64 s.o.s ∧ v15 = .int .i64 s.o.t := by
  obtain ⟨xs, n', _, hxy, hcl, hxl, hf⟩ := DataW.trod_struct Tryz.underlying35 h
  match xs, hxl with
  | [y0, y1, y2, y3, y4, y5], _ =>
    have g0 := hf 0 _ rfl
    have g1 := hf 1 _ rfl
    have g2 := hf 2 _ rfl
    have g3 := hf 3 _ rfl
    have g4 := hf 4 _ rfl
    have g5 := hf 5 _ rfl
    simp [cells3] at g0 g1 g2 g3
    simp [cells9] at g4
    simp [cells33] at g5
    obtain ⟨K, q0, _, _⟩ := DataW.trod_int Tryz.underlying3 g0
    obtain ⟨I, q1, _, _⟩ := DataW.trod_int Tryz.underlying3 g1
    obtain ⟨A, q2, _, _⟩ := DataW.trod_int Tryz.underlying3 g2
    obtain ⟨N, q3, _, _⟩ := DataW.trod_int Tryz.underlying3 g3
    obtain ⟨D, q4, _, _⟩ := DataW.trod_string Tryz.underlying9 g4
    simp at q0 q1 q2 q3 q4
    subst q0 q1 q2 q3 q4
    obtain ⟨nd, hn⟩ := open_node g5
    exact ⟨⟨K, I, A, N, D, nd⟩, rfl, rfl, rfl, rfl, rfl, hn⟩
set_option maxRecDepth 100000 in
theorem open_steps {H : Type} {enc : TypeId × Value → H} {W : World} {fuel : Nat} {ao : Option Addr} {len cap : Nat} {x : DataW H × List MemPlace}
    (h : DataW.trod enc Tryz.prog W 0 (fun _ => true) true fuel 25 [.slice ao len cap] = some x) : ∃ l, TLie W (.slice ao len cap) l := by
  rcases open_slice Tryz.underlying25 h with ⟨h0, hx⟩ | ⟨a, len', cap', m, n, D, Pl, hcs, hb, hl, hm, hmm, hx, hel⟩
  · simp at h0
    obtain ⟨rfl, rfl, rfl⟩ := h0
    exact ⟨[], none, 0, rfl, Nat.le_refl _, by decide, fun i hi => by simp at hi⟩
  · simp at hcs
    obtain ⟨rfl, rfl, rfl⟩ := hcs
    have hlm : len ≤ m := by rw [hmm]; split <;> omega
    have each : ∀ i, i < len → ∃ y : Stp, W.cell? (a.add (i * 16 + 0)) = some (.int .i64 y.k) ∧ W.cell? (a.add (i * 16 + 1)) = some (.int .i64 y.i) ∧ W.cell? (a.add (i * 16 + 2)) = some (.int .i64 y.a) ∧ W.cell? (a.add (i * 16 + 3)) = some (.int .i64 y.n) ∧ W.cell? (a.add (i * 16 + 4)) = some (.string y.d) ∧ W.cell? (a.add (i * 16 + 5)) = some (.int .i64 y.o.k) ∧ W.cell? (a.add (i * 16 + 6)) = some (.int .i64 y.o.l) ∧ W.cell? (a.add (i * 16 + 7)) = some (.int .i64 y.o.z) ∧ W.cell? (a.add (i * 16 + 8)) = some (.int .i64 y.o.a) ∧ W.cell? (a.add (i * 16 + 9)) = some (.int .i64 y.o.b) ∧ W.cell? (a.add (i * 16 + 10)) = some (.int .i64 y.o.c) ∧ W.cell? (a.add (i * 16 + 11)) = some (.int .i64 y.o.d) ∧ W.cell? (a.add (i * 16 + 12)) = some (.int .i64 y.o.e) ∧ W.cell? (a.add (i * 16 + 13)) = some (.int .i64 y.o.f) ∧ W.cell? (a.add (i * 16 + 14)) = some (.int .i64 y.o.s) ∧ W.cell? (a.add (i * 16 + 15)) = some (.int .i64 y.o.t) := by
      intro i hi
      obtain ⟨cs', h1, h2⟩ := hel i (by omega)
      rw [cells35] at h1
      obtain ⟨_, hlen, hcell⟩ := World.cells?_some h1
      match cs', hlen with
      | [v0, v1, v2, v3, v4, v5, v6, v7, v8, v9, v10, v11, v12, v13, v14, v15], _ =>
        obtain ⟨y, hy⟩ := open_step h2
        obtain ⟨rfl, rfl, rfl, rfl, rfl, rfl, rfl, rfl, rfl, rfl, rfl, rfl, rfl, rfl, rfl, rfl⟩ := hy
        have e0 := hcell 0 (by omega)
        have e1 := hcell 1 (by omega)
        have e2 := hcell 2 (by omega)
        have e3 := hcell 3 (by omega)
        have e4 := hcell 4 (by omega)
        have e5 := hcell 5 (by omega)
        have e6 := hcell 6 (by omega)
        have e7 := hcell 7 (by omega)
        have e8 := hcell 8 (by omega)
        have e9 := hcell 9 (by omega)
        have e10 := hcell 10 (by omega)
        have e11 := hcell 11 (by omega)
        have e12 := hcell 12 (by omega)
        have e13 := hcell 13 (by omega)
        have e14 := hcell 14 (by omega)
        have e15 := hcell 15 (by omega)
        rw [Deep.add_add] at e0 e1 e2 e3 e4 e5 e6 e7 e8 e9 e10 e11 e12 e13 e14 e15
        exact ⟨y, by simpa using e0, by simpa using e1, by simpa using e2, by simpa using e3, by simpa using e4, by simpa using e5, by simpa using e6, by simpa using e7, by simpa using e8, by simpa using e9, by simpa using e10, by simpa using e11, by simpa using e12, by simpa using e13, by simpa using e14, by simpa using e15⟩
    obtain ⟨it, hit⟩ := choose_lt each
    refine ⟨(List.range len).map it, some a, cap, by simp, by simpa using hl, hm, fun i hi => ?_⟩
    rw [range_get]
    have hi' : i < len := by simpa using hi
    have hh := hit i hi'
    have a00 := (hit 0 (by omega)).1
    obtain ⟨b, off, sp⟩ := a
    have hsp : sp = none := by simpa [Addr.add] using World.cell?_spot a00
    subst hsp
    have hadd : ∀ j, (⟨b, off, none⟩ : Addr).add j = ⟨b, off + j, none⟩ := fun j => by unfold Addr.add; split <;> simp_all
    have hblk : b < W.heap.size := by
      obtain ⟨cs', h1, _⟩ := hel i (by omega)
      rw [cells35, hadd] at h1
      exact World.cells?_block h1 (by decide)
    refine ⟨b, off, rfl, hblk, ?_⟩
    unfold SAt
    simp only [hadd, ← Nat.add_assoc] at hh
    exact hh
/-- a slice of strings -/
theorem open_strings {H : Type} {enc : TypeId × Value → H} {W : World} {fuel : Nat} {ao : Option Addr} {len cap : Nat} {x : DataW H × List MemPlace}
    (h : DataW.trod enc Tryz.prog W 0 (fun _ => true) true fuel 24 [.slice ao len cap] = some x) : ∃ l, SLie W (.slice ao len cap) l := by
  rcases open_slice Tryz.underlying24 h with ⟨h0, hx⟩ | ⟨a, len', cap', m, n, D, Pl, hcs, hb, hl, hm, hmm, hx, hel⟩
  · simp at h0
    obtain ⟨rfl, rfl, rfl⟩ := h0
    exact ⟨[], none, 0, rfl, Nat.le_refl _, by decide, fun i hi => by simp at hi⟩
  · simp at hcs
    obtain ⟨rfl, rfl, rfl⟩ := hcs
    have hlm : len ≤ m := by rw [hmm]; split <;> omega
    have each : ∀ i, i < len → ∃ y : ByteArray, W.cell? (a.add i) = some (.string y) := by
      intro i hi
      obtain ⟨cs', h1, h2⟩ := hel i (by omega)
      rw [cells9] at h1
      obtain ⟨_, hlen, hcell⟩ := World.cells?_some h1
      match cs', hlen with
      | [v0], _ =>
        have e0 := hcell 0 (by omega)
        rw [Deep.add_add] at e0
        obtain ⟨s, q1, q2, ws⟩ := DataW.trod_string Tryz.underlying9 h2
        simp at q1
        subst q1
        exact ⟨s, by simpa using e0⟩
    obtain ⟨it, hit⟩ := choose_lt each
    refine ⟨(List.range len).map it, some a, cap, by simp, by simpa using hl, hm, fun i hi => ?_⟩
    rw [range_get]
    have hi' : i < len := by simpa using hi
    have a0 := hit i hi'
    have a00 := hit 0 (by omega)
    obtain ⟨b, off, sp⟩ := a
    have hsp : sp = none := by simpa [Addr.add] using World.cell?_spot a00
    subst hsp
    have hadd : ∀ j, (⟨b, off, none⟩ : Addr).add j = ⟨b, off + j, none⟩ := fun j => by unfold Addr.add; split <;> simp_all
    have hblk : b < W.heap.size := by
      obtain ⟨cs', h1, _⟩ := hel i (by omega)
      rw [cells9, hadd] at h1
      exact World.cells?_block h1 (by decide)
    rw [hadd] at a0
    exact ⟨b, off, rfl, hblk, a0⟩
end Go.Proofs.YtjnhibpebikkmaaGreat
