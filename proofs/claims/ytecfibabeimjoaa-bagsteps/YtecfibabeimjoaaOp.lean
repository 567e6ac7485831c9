import Derived.Test.YtecfibabeimjoaaBa
import Derived.Lib.SmallJoins
import Derived.Deep.Slices
import Derived.JoinedCond
import Derived.ChangeOld
import Derived.Carry
namespace Go.Proofs.Ytecfibabeimjoaa
open Go.ChangeShapes Go.WideShapes Go.ChangeAt Go.RowKit Go.Joins Go.Deep

theorem cells34 : Try.prog.cellsOf 34 = 5 := by kernel_rfl
/-- a step, as it is read -/
structure Stp where
  K : Int
  I : Int
  m : Msg
instance : Inhabited Stp := ⟨⟨0, 0, default⟩⟩
theorem bounds_i {n : Int} (h : (Lit.int .i64 n).wf = true) : inI n := by
  have e1 : IntKind.i64.min = -9223372036854775808 := by decide
  have e2 : IntKind.i64.max = 9223372036854775807 := by decide
  simp only [Lit.wf, e1, e2, Bool.and_eq_true, decide_eq_true_eq] at h
  exact h
theorem open_msg {H : Type} {enc : TypeId × Value → H} {W : World} {fuel : Nat} {v0 v1 v2 : Value} {x : DataW H × List MemPlace}
    (h : DataW.trod enc Try.prog W 0 (fun _ => true) true fuel 32 [v0, v1, v2] = some x) : ∃ m : Msg, v0 = .int .i64 m.f ∧ v1 = .int .i64 m.t ∧ v2 = .string m.s ∧ okM m := by
  obtain ⟨xs, n', _, hxy, hcl, hxl, hf⟩ := DataW.trod_struct Try.underlying32 h
  match xs, hxl with
  | [y0, y1, y2], _ =>
    have g0 := hf 0 _ rfl
    have g1 := hf 1 _ rfl
    have g2 := hf 2 _ rfl
    simp [cells3] at g0 g1
    simp [cells9] at g2
    obtain ⟨a, q0, _, wa⟩ := DataW.trod_int Try.underlying3 g0
    obtain ⟨b, q1, _, wb⟩ := DataW.trod_int Try.underlying3 g1
    obtain ⟨s, q2, _, ws⟩ := DataW.trod_string Try.underlying9 g2
    simp at q0 q1 q2
    subst q0 q1 q2
    exact ⟨⟨a, b, s⟩, rfl, rfl, rfl, bounds_i wa, bounds_i wb, ws⟩
/-- steps, as they lie -/
def SLie (W : World) (ao : Option Addr) (len : Nat) (it : Nat → Stp) : Prop :=
  ∀ i, i < len → ∃ b off, ao = some ⟨b, off, none⟩ ∧ b < W.heap.size ∧ W.cell? ⟨b, off + i * 5, none⟩ = some (.int .i64 (it i).K) ∧ W.cell? ⟨b, off + i * 5 + 1, none⟩ = some (.int .i64 (it i).I) ∧ W.cell? ⟨b, off + i * 5 + 2, none⟩ = some (.int .i64 (it i).m.f) ∧
    W.cell? ⟨b, off + i * 5 + 3, none⟩ = some (.int .i64 (it i).m.t) ∧ W.cell? ⟨b, off + i * 5 + 4, none⟩ = some (.string (it i).m.s) ∧ inI (it i).I ∧ okM (it i).m
set_option maxRecDepth 100000 in
theorem open_steps {H : Type} {enc : TypeId × Value → H} {W : World} {fuel : Nat} {ao : Option Addr} {len cap : Nat} {x : DataW H × List MemPlace}
    (h : DataW.trod enc Try.prog W 0 (fun _ => true) true fuel 22 [.slice ao len cap] = some x) : ∃ it, SLie W ao len it ∧ len ≤ cap ∧ cap ≤ maxLen := by
  rcases open_slice Try.underlying22 h with ⟨h0, hx⟩ | ⟨a, len', cap', m, n, D, Pl, hcs, hb, hl, hm, hmm, hx, hel⟩
  · simp at h0
    obtain ⟨rfl, rfl, rfl⟩ := h0
    exact ⟨default, fun i hi => by omega, Nat.le_refl _, Nat.zero_le _⟩
  · simp at hcs
    obtain ⟨rfl, rfl, rfl⟩ := hcs
    have hlm : len ≤ m := by rw [hmm]; split <;> omega
    have each : ∀ i, i < len → ∃ y : Stp, W.cell? (a.add (i * 5)) = some (.int .i64 y.K) ∧ W.cell? (a.add (i * 5 + 1)) = some (.int .i64 y.I) ∧ W.cell? (a.add (i * 5 + 2)) = some (.int .i64 y.m.f) ∧ W.cell? (a.add (i * 5 + 3)) = some (.int .i64 y.m.t) ∧ W.cell? (a.add (i * 5 + 4)) = some (.string y.m.s) ∧ inI y.I ∧ okM y.m := by
      intro i hi
      obtain ⟨cs', h1, h2⟩ := hel i (by omega)
      rw [cells34] at h1
      obtain ⟨_, hlen, hcell⟩ := World.cells?_some h1
      obtain ⟨xs, n', _, hxy, hcl, hxl, hf⟩ := DataW.trod_struct Try.underlying34 h2
      match cs', hlen with
      | [v0, v1, v2, v3, v4], _ =>
        match xs, hxl with
        | [y0, y1, y2], _ =>
          have g0 := hf 0 _ rfl
          have g1 := hf 1 _ rfl
          have g2 := hf 2 _ rfl
          simp [cells3] at g0 g1
          simp [cells32] at g2
          have e0 := hcell 0 (by omega)
          have e1 := hcell 1 (by omega)
          have e2 := hcell 2 (by omega)
          have e3 := hcell 3 (by omega)
          have e4 := hcell 4 (by omega)
          rw [Deep.add_add] at e0 e1 e2 e3 e4
          obtain ⟨K, q0, _, wK⟩ := DataW.trod_int Try.underlying3 g0
          obtain ⟨I, q1, _, wI⟩ := DataW.trod_int Try.underlying3 g1
          obtain ⟨mm, rfl, rfl, rfl, hok⟩ := open_msg g2
          simp at q0 q1
          subst q0 q1
          exact ⟨⟨K, I, mm⟩, by simpa using e0, by simpa using e1, by simpa using e2, by simpa using e3, by simpa using e4, bounds_i wI, hok⟩
    obtain ⟨it, hit⟩ := choose_lt each
    refine ⟨it, fun i hi => ?_, hl, hm⟩
    obtain ⟨a0, a1, a2, a3, a4, r⟩ := hit i hi
    have a00 := (hit 0 (by omega)).1
    obtain ⟨b, off, sp⟩ := a
    have hsp : sp = none := by simpa [Addr.add] using World.cell?_spot a00
    subst hsp
    have hadd : ∀ j, (⟨b, off, none⟩ : Addr).add j = ⟨b, off + j, none⟩ := fun j => by unfold Addr.add; split <;> simp_all
    have hblk : b < W.heap.size := by
      obtain ⟨cs', h1, _⟩ := hel i (by omega)
      rw [cells34, hadd] at h1
      exact World.cells?_block h1 (by decide)
    rw [hadd] at a0 a1 a2 a3 a4
    rw [← Nat.add_assoc] at a1 a2 a3 a4
    exact ⟨b, off, rfl, hblk, a0, a1, a2, a3, a4, r⟩
/-- messages, as they lie -/
def MLie (W : World) (ao : Option Addr) (len : Nat) (it : Nat → Msg) : Prop :=
  ∀ i, i < len → ∃ b off, ao = some ⟨b, off, none⟩ ∧ b < W.heap.size ∧ W.cell? ⟨b, off + i * 3, none⟩ = some (.int .i64 (it i).f) ∧ W.cell? ⟨b, off + i * 3 + 1, none⟩ = some (.int .i64 (it i).t) ∧ W.cell? ⟨b, off + i * 3 + 2, none⟩ = some (.string (it i).s) ∧ okM (it i)
theorem open_msgs {H : Type} {enc : TypeId × Value → H} {W : World} {fuel : Nat} {ao : Option Addr} {len cap : Nat} {x : DataW H × List MemPlace}
    (h : DataW.trod enc Try.prog W 0 (fun _ => true) true fuel 46 [.slice ao len cap] = some x) : ∃ it, MLie W ao len it ∧ len ≤ cap ∧ cap ≤ maxLen := by
  rcases open_slice Try.underlying46 h with ⟨h0, hx⟩ | ⟨a, len', cap', m, n, D, Pl, hcs, hb, hl, hm, hmm, hx, hel⟩
  · simp at h0
    obtain ⟨rfl, rfl, rfl⟩ := h0
    exact ⟨default, fun i hi => by omega, Nat.le_refl _, Nat.zero_le _⟩
  · simp at hcs
    obtain ⟨rfl, rfl, rfl⟩ := hcs
    have hlm : len ≤ m := by rw [hmm]; split <;> omega
    have each : ∀ i, i < len → ∃ y : Msg, W.cell? (a.add (i * 3)) = some (.int .i64 y.f) ∧ W.cell? (a.add (i * 3 + 1)) = some (.int .i64 y.t) ∧ W.cell? (a.add (i * 3 + 2)) = some (.string y.s) ∧ okM y := by
      intro i hi
      obtain ⟨cs', h1, h2⟩ := hel i (by omega)
      rw [cells32] at h1
      obtain ⟨_, hlen, hcell⟩ := World.cells?_some h1
      match cs', hlen with
      | [v0, v1, v2], _ =>
        have e0 := hcell 0 (by omega)
        have e1 := hcell 1 (by omega)
        have e2 := hcell 2 (by omega)
        rw [Deep.add_add] at e0 e1 e2
        obtain ⟨mm, rfl, rfl, rfl, hok⟩ := open_msg h2
        exact ⟨mm, by simpa using e0, by simpa using e1, by simpa using e2, hok⟩
    obtain ⟨it, hit⟩ := choose_lt each
    refine ⟨it, fun i hi => ?_, hl, hm⟩
    obtain ⟨a0, a1, a2, r⟩ := hit i hi
    have a00 := (hit 0 (by omega)).1
    obtain ⟨b, off, sp⟩ := a
    have hsp : sp = none := by simpa [Addr.add] using World.cell?_spot a00
    subst hsp
    have hadd : ∀ j, (⟨b, off, none⟩ : Addr).add j = ⟨b, off + j, none⟩ := fun j => by unfold Addr.add; split <;> simp_all
    have hblk : b < W.heap.size := by
      obtain ⟨cs', h1, _⟩ := hel i (by omega)
      rw [cells32, hadd] at h1
      exact World.cells?_block h1 (by decide)
    rw [hadd] at a0 a1 a2
    rw [← Nat.add_assoc] at a1 a2
    exact ⟨b, off, rfl, hblk, a0, a1, a2, r⟩
end Go.Proofs.Ytecfibabeimjoaa
