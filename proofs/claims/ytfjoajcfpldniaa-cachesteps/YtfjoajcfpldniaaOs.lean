import Derived.Test.YtfjoajcfpldniaaCa
import Derived.Lib.SmallJoins
import Derived.Deep.Slices
import Derived.JoinedCond
import Derived.ChangeOld
import Derived.Carry
namespace Go.Proofs.Ytfjoajcfpldniaa
open Go.ChangeShapes Go.WideShapes Go.ChangeAt Go.RowKit Go.Joins Go.Deep

theorem laidOut : laidOutB Try.prog = true := by kernel_rfl
theorem cells32 : Try.prog.cellsOf 32 = 3 := by kernel_rfl
theorem cells3 : Try.prog.cellsOf 3 = 1 := by kernel_rfl
theorem cells9 : Try.prog.cellsOf 9 = 1 := by kernel_rfl
/-- a step, as it is read -/
structure Stp where
  k : Int
  b : Int
  d : ByteArray
instance : Inhabited Stp := ⟨⟨0, 0, ⟨#[]⟩⟩⟩
theorem range_get {α : Type} (it : Nat → α) (n i : Nat) (h : i < ((List.range n).map it).length) : ((List.range n).map it)[i] = it i := by simp
/-- a slice reads as steps -/
def TLie (w : World) (v : Value) (l : List Stp) : Prop :=
  ∃ ao cap, v = .slice ao l.length cap ∧ l.length ≤ cap ∧ cap ≤ maxLen ∧ ∀ i (hi : i < l.length), ∃ gb off, ao = some ⟨gb, off, none⟩ ∧ gb < w.heap.size ∧ w.cell? ⟨gb, off + i * 3, none⟩ = some (.int .i64 l[i].k) ∧ w.cell? ⟨gb, off + i * 3 + 1, none⟩ = some (.int .i64 l[i].b) ∧ w.cell? ⟨gb, off + i * 3 + 2, none⟩ = some (.string l[i].d) ∧ inI l[i].b
set_option maxRecDepth 100000 in
theorem open_steps {H : Type} {enc : TypeId × Value → H} {W : World} {fuel : Nat} {ao : Option Addr} {len cap : Nat} {x : DataW H × List MemPlace}
    (h : DataW.trod enc Try.prog W 0 (fun _ => true) true fuel 22 [.slice ao len cap] = some x) : ∃ l, TLie W (.slice ao len cap) l := by
  rcases open_slice Try.underlying22 h with ⟨h0, hx⟩ | ⟨a, len', cap', m, n, D, Pl, hcs, hb, hl, hm, hmm, hx, hel⟩
  · simp at h0
    obtain ⟨rfl, rfl, rfl⟩ := h0
    exact ⟨[], none, 0, rfl, Nat.le_refl _, by decide, fun i hi => by simp at hi⟩
  · simp at hcs
    obtain ⟨rfl, rfl, rfl⟩ := hcs
    have hlm : len ≤ m := by rw [hmm]; split <;> omega
    have each : ∀ i, i < len → ∃ y : Stp, W.cell? (a.add (i * 3)) = some (.int .i64 y.k) ∧ W.cell? (a.add (i * 3 + 1)) = some (.int .i64 y.b) ∧ W.cell? (a.add (i * 3 + 2)) = some (.string y.d) ∧ inI y.b := by
      intro i hi
      obtain ⟨cs', h1, h2⟩ := hel i (by omega)
      rw [cells32] at h1
      obtain ⟨_, hlen, hcell⟩ := World.cells?_some h1
      obtain ⟨xs, n', _, hxy, hcl, hxl, hf⟩ := DataW.trod_struct Try.underlying32 h2
      match cs', hlen with
      | [v0, v1, v2], _ =>
        match xs, hxl with
        | [y0, y1, y2], _ =>
          have g0 := hf 0 _ rfl
          have g1 := hf 1 _ rfl
          have g2 := hf 2 _ rfl
          simp [cells3] at g0 g1
          simp [cells9] at g2
          have e0 := hcell 0 (by omega)
          have e1 := hcell 1 (by omega)
          have e2 := hcell 2 (by omega)
          rw [Deep.add_add] at e0 e1 e2
          obtain ⟨K, q0, _, wK⟩ := DataW.trod_int Try.underlying3 g0
          obtain ⟨I, q1, _, wI⟩ := DataW.trod_int Try.underlying3 g1
          obtain ⟨s, q2, _, ws⟩ := DataW.trod_string Try.underlying9 g2
          simp at q0 q1 q2
          subst q0 q1 q2
          exact ⟨⟨K, I, s⟩, by simpa using e0, by simpa using e1, by simpa using e2, bounds_i wI⟩
    obtain ⟨it, hit⟩ := choose_lt each
    refine ⟨(List.range len).map it, some a, cap, by simp, by simpa using hl, hm, fun i hi => ?_⟩
    rw [range_get]
    have hi' : i < len := by simpa using hi
    obtain ⟨a0, a1, a2, a3⟩ := hit i hi'
    have a00 := (hit 0 (by omega)).1
    obtain ⟨b, off, sp⟩ := a
    have hsp : sp = none := by simpa [Addr.add] using World.cell?_spot a00
    subst hsp
    have hadd : ∀ j, (⟨b, off, none⟩ : Addr).add j = ⟨b, off + j, none⟩ := fun j => by unfold Addr.add; split <;> simp_all
    have hblk : b < W.heap.size := by
      obtain ⟨cs', h1, _⟩ := hel i (by omega)
      rw [cells32, hadd] at h1
      exact World.cells?_block h1 (by decide)
    rw [hadd] at a0 a1 a2
    exact ⟨b, off, rfl, hblk, a0, by rw [Nat.add_assoc]; exact a1, by rw [Nat.add_assoc]; exact a2, a3⟩
end Go.Proofs.Ytfjoajcfpldniaa
