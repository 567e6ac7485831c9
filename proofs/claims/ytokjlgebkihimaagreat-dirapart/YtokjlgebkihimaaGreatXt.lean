import Derived.Test.YtokjlgebkihimaaGreatXe
import Derived.Lib.SmallJoins
import Derived.Deep.Slices
import Derived.JoinedCond
import Derived.ChangeOld
import Derived.Carry
namespace Go.Proofs.YtokjlgebkihimaaGreat
open Go.ChangeShapes Go.WideShapes Go.ChangeAt Go.RowKit Go.Joins Go.Deep

theorem laidOut : laidOutB Tryz.prog = true := by kernel_rfl
theorem cells3 : Tryz.prog.cellsOf 3 = 1 := by kernel_rfl
theorem cells9 : Tryz.prog.cellsOf 9 = 1 := by kernel_rfl
theorem cells40 : Tryz.prog.cellsOf 40 = 4 := by kernel_rfl
/-- a step: what, which directory, for which inode, which name -/
structure Stp where
  k : Int
  d : Int
  t : Int
  n : ByteArray
theorem range_get {α : Type} (it : Nat → α) (n i : Nat) (h : i < ((List.range n).map it).length) : ((List.range n).map it)[i] = it i := by simp
/-- a step lies there -/
def SAt (w : World) (g o : Nat) (s : Stp) : Prop := w.cell? ⟨g, o, none⟩ = some (.int .i64 s.k) ∧ w.cell? ⟨g, o + 1, none⟩ = some (.int .i64 s.d) ∧ w.cell? ⟨g, o + 2, none⟩ = some (.int .i64 s.t) ∧ w.cell? ⟨g, o + 3, none⟩ = some (.string s.n)
/-- a slice that reads as steps -/
def TLie (w : World) (v : Value) (l : List Stp) : Prop :=
  ∃ ao cap, v = .slice ao l.length cap ∧ l.length ≤ cap ∧ cap ≤ maxLen ∧ ∀ i (hi : i < l.length), ∃ gb off, ao = some ⟨gb, off, none⟩ ∧ gb < w.heap.size ∧ SAt w gb (off + i * 4) l[i] ∧ l[i].n.size ≤ maxLen
theorem add_at (b off j : Nat) : (⟨b, off, none⟩ : Addr).add j = ⟨b, off + j, none⟩ := by unfold Addr.add; split <;> simp_all
theorem SAt.same {w w' : World} {g o : Nat} {s : Stp} (h : SAt w g o s) (k : w'.heap[g]? = w.heap[g]?) : SAt w' g o s := by
  obtain ⟨c0, c1, c2, c3⟩ := h
  have hc : ∀ o, w'.cell? ⟨g, o, none⟩ = w.cell? ⟨g, o, none⟩ := fun o => by simp [World.cell?, k]
  exact ⟨(hc _).trans c0, (hc _).trans c1, (hc _).trans c2, (hc _).trans c3⟩
def Stp.cs (s : Stp) : List Value := [.int .i64 s.k, .int .i64 s.d, .int .i64 s.t, .string s.n]
set_option maxRecDepth 100000 in
/-- the cells of a step -/
theorem trod40 {H : Type} {enc : TypeId × Value → H} {W : World} {fuel : Nat} {cs : List Value} {x : DataW H × List MemPlace} (hcs : cs.length = 4)
    (hf : DataW.trod enc Tryz.prog W 0 (fun _ => true) true fuel 40 cs = some x) : ∃ s : Stp, cs = s.cs ∧ s.n.size ≤ maxLen := by
  obtain ⟨xs, n', _, hxy, hcl, hxl, hfl⟩ := DataW.trod_struct Tryz.underlying40 hf
  match cs, hcs with
  | [v0, v1, v2, v3], _ =>
    match xs, hxl with
    | [y0, y1, y2, y3], _ =>
      have g0 := hfl 0 _ rfl
      have g1 := hfl 1 _ rfl
      have g2 := hfl 2 _ rfl
      have g3 := hfl 3 _ rfl
      simp [cells3] at g0 g1 g2
      simp [cells9] at g3
      obtain ⟨a0, q0, _, b0⟩ := DataW.trod_int Tryz.underlying3 g0
      obtain ⟨a1, q1, _, b1⟩ := DataW.trod_int Tryz.underlying3 g1
      obtain ⟨a2, q2, _, b2⟩ := DataW.trod_int Tryz.underlying3 g2
      obtain ⟨a3, q3, _, b3⟩ := DataW.trod_string Tryz.underlying9 g3
      simp at q0 q1 q2 q3
      subst q0 q1 q2 q3
      exact ⟨⟨a0, a1, a2, a3⟩, rfl, b3⟩
set_option maxRecDepth 100000 in
theorem open_steps {H : Type} {enc : TypeId × Value → H} {W : World} {fuel : Nat} {ao : Option Addr} {len cap : Nat} {x : DataW H × List MemPlace}
    (h : DataW.trod enc Tryz.prog W 0 (fun _ => true) true fuel 25 [.slice ao len cap] = some x) : ∃ l, TLie W (.slice ao len cap) l := by
  rcases open_slice Tryz.underlying25 h with ⟨h0, hx⟩ | ⟨a, len', cap', m, n, D, Pl, hcs, hb, hl, hm, hmm, hx, hel⟩
  · simp at h0
    obtain ⟨rfl, rfl, rfl⟩ := h0
    exact ⟨[], none, 0, rfl, Nat.le_refl _, by decide, fun i hi => by simp at hi⟩
  · simp at hcs
    obtain ⟨rfl, rfl, rfl⟩ := hcs
    have hlm : len ≤ m := by rw [hmm]; split <;> omega
    have each : ∀ i, i < len → ∃ y : Stp, (∀ q, q < 4 → W.cell? (a.add (i * 4 + q)) = y.cs[q]?) ∧ y.n.size ≤ maxLen := by
      intro i hi
      obtain ⟨cs', h1, h2⟩ := hel i (by omega)
      rw [cells40] at h1
      obtain ⟨_, hlen, hcell⟩ := World.cells?_some h1
      obtain ⟨y, rfl, hy3⟩ := trod40 hlen h2
      refine ⟨y, fun q hq => ?_, hy3⟩
      have := hcell q hq
      rw [Deep.add_add] at this
      exact this
    have : Nonempty Stp := ⟨⟨0, 0, 0, ByteArray.empty⟩⟩
    have : Inhabited Stp := ⟨⟨0, 0, 0, ByteArray.empty⟩⟩
    obtain ⟨it, hit⟩ := choose_lt each
    refine ⟨(List.range len).map it, some a, cap, by simp, by simpa using hl, hm, fun i hi => ?_⟩
    rw [range_get]
    have hi' : i < len := by simpa using hi
    obtain ⟨hat, e3⟩ := hit i hi'
    obtain ⟨b, off, sp⟩ := a
    have a00 : W.cell? (Addr.add ⟨b, off, sp⟩ (0 * 4 + 0)) = some (.int .i64 (it 0).k) := (hit 0 (by omega)).1 0 (by decide)
    have hsp : sp = none := by simpa [Addr.add] using World.cell?_spot a00
    subst hsp
    have hblk : b < W.heap.size := by
      obtain ⟨cs', h1, _⟩ := hel i (by omega)
      rw [cells40, add_at] at h1
      exact World.cells?_block h1 (by decide)
    have at_ : ∀ q, q < 4 → W.cell? ⟨b, off + i * 4 + q, none⟩ = (it i).cs[q]? := fun q hq => by
      have := hat q hq
      rw [add_at, ← Nat.add_assoc] at this
      exact this
    exact ⟨b, off, rfl, hblk, ⟨at_ 0 (by decide), at_ 1 (by decide), at_ 2 (by decide), at_ 3 (by decide)⟩, e3⟩
end Go.Proofs.YtokjlgebkihimaaGreat
