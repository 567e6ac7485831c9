import Derived.Test.YtglhibmfbbbdiaaDa
import Derived.Lib.SmallJoins
import Derived.Deep.Slices
import Derived.JoinedCond
import Derived.ChangeOld
import Derived.Carry
namespace Go.Proofs.Ytglhibmfbbbdiaa
open Go.ChangeShapes Go.WideShapes Go.ChangeAt Go.RowKit Go.Joins Go.Deep

theorem cells33 : Try.prog.cellsOf 33 = 7 := by kernel_rfl
theorem cells4' : Try.prog.cellsOf 4 = 1 := by kernel_rfl
theorem cells5' : Try.prog.cellsOf 5 = 1 := by kernel_rfl
theorem cells31' : Try.prog.cellsOf 31 = 1 := by kernel_rfl
theorem cells3' : Try.prog.cellsOf 3 = 1 := by kernel_rfl
/-- a step, as it is read -/
structure Stp where
  K : Int
  A : Int
  M : Int
  O : Int
  T : Int
  c : UInt8
  pv : Value
  pl : Nat
  pk : Nat → Bool
instance : Inhabited Stp := ⟨⟨0, 0, 0, 0, 0, 0, .slice none 0 0, 0, fun _ => false⟩⟩
/-- picks, as they lie -/
def PR (W : World) (pv : Value) (len : Nat) (pk : Nat → Bool) : Prop :=
  (∃ ao pc, pv = .slice ao len pc ∧ ∀ i, i < len → ∃ b off, ao = some ⟨b, off, none⟩ ∧ b < W.heap.size ∧ W.cell? ⟨b, off + i, none⟩ = some (.bool (pk i))) ∧ len ≤ maxLen ∧ ∀ i, len ≤ i → pk i = false
theorem open_picks {H : Type} {enc : TypeId × Value → H} {W : World} {fuel : Nat} {v : Value} {x : DataW H × List MemPlace}
    (h : DataW.trod enc Try.prog W 0 (fun _ => true) true fuel 31 [v] = some x) : ∃ len pk, PR W v len pk := by
  rcases open_slice Try.underlying31 h with ⟨h0, hx⟩ | ⟨a, len, cap, m, n, D, Pl, hcs, hb, hl, hm, hmm, hx, hel⟩
  · simp at h0
    exact ⟨0, fun _ => false, ⟨none, 0, h0, fun i hi => by omega⟩, Nat.zero_le _, fun _ _ => rfl⟩
  · simp at hcs
    subst hcs
    have hlm : len ≤ m := by rw [hmm]; split <;> omega
    have each : ∀ i, i < len → ∃ b : Bool, W.cell? (a.add i) = some (.bool b) := by
      intro i hi
      obtain ⟨cs', h1, h2⟩ := hel i (by omega)
      rw [cells4'] at h1
      obtain ⟨_, hlen, hcell⟩ := World.cells?_some h1
      match cs', hlen with
      | [v0], _ =>
        have e0 := hcell 0 (by omega)
        rw [Deep.add_add] at e0
        obtain ⟨bb, q0, _⟩ := DataW.trod_bool Try.underlying4 h2
        simp at q0
        subst q0
        exact ⟨bb, by simpa using e0⟩
    obtain ⟨pk, hpk⟩ := choose_lt each
    refine ⟨len, fun i => if i < len then pk i else false, ⟨some a, cap, rfl, fun i hi => ?_⟩, by omega, fun i hi => if_neg (by omega)⟩
    have c0 := hpk i hi
    have c00 := hpk 0 (by omega)
    obtain ⟨b, off, sp⟩ := a
    have hsp : sp = none := by simpa [Addr.add] using World.cell?_spot c00
    subst hsp
    have hadd : ∀ j, (⟨b, off, none⟩ : Addr).add j = ⟨b, off + j, none⟩ := fun j => by unfold Addr.add; split <;> simp_all
    rw [hadd] at c0
    refine ⟨b, off, rfl, ?_, ?_⟩
    · obtain ⟨cs', h1, _⟩ := hel i (by omega)
      rw [cells4', hadd] at h1
      exact World.cells?_block h1 (by decide)
    · show _ = some (Value.bool (if i < len then pk i else false))
      rw [if_pos hi]; exact c0
/-- steps, as they lie -/
def SLie (W : World) (ao : Option Addr) (len : Nat) (it : Nat → Stp) : Prop :=
  ∀ i, i < len → ∃ b off, ao = some ⟨b, off, none⟩ ∧ b < W.heap.size ∧ W.cell? ⟨b, off + i * 7, none⟩ = some (.int .i64 (it i).K) ∧ W.cell? ⟨b, off + i * 7 + 1, none⟩ = some (.int .i64 (it i).A) ∧ W.cell? ⟨b, off + i * 7 + 2, none⟩ = some (.int .i64 (it i).M) ∧
    W.cell? ⟨b, off + i * 7 + 3, none⟩ = some (.int .i64 (it i).O) ∧ W.cell? ⟨b, off + i * 7 + 4, none⟩ = some (.int .i64 (it i).T) ∧ W.cell? ⟨b, off + i * 7 + 5, none⟩ = some (.int .u8 ((it i).c.toNat : Int)) ∧ W.cell? ⟨b, off + i * 7 + 6, none⟩ = some (it i).pv ∧
    PR W (it i).pv (it i).pl (it i).pk ∧ (-9223372036854775808 ≤ (it i).A ∧ (it i).A ≤ 9223372036854775807) ∧ (-9223372036854775808 ≤ (it i).M ∧ (it i).M ≤ 9223372036854775807) ∧ (-9223372036854775808 ≤ (it i).O ∧ (it i).O ≤ 9223372036854775807) ∧ (-9223372036854775808 ≤ (it i).T ∧ (it i).T ≤ 9223372036854775807)
theorem bounds_u8 {n : Int} (h : (Lit.int .u8 n).wf = true) : 0 ≤ n ∧ n < 256 := by
  have e1 : IntKind.u8.min = 0 := by decide
  have e2 : IntKind.u8.max = 255 := by decide
  simp only [Lit.wf, e1, e2, Bool.and_eq_true, decide_eq_true_eq] at h
  omega
theorem open_steps {H : Type} {enc : TypeId × Value → H} {W : World} {fuel : Nat} {ao : Option Addr} {len cap : Nat} {x : DataW H × List MemPlace}
    (h : DataW.trod enc Try.prog W 0 (fun _ => true) true fuel 22 [.slice ao len cap] = some x) : ∃ it, SLie W ao len it ∧ len ≤ cap ∧ cap ≤ maxLen := by
  rcases open_slice Try.underlying22 h with ⟨h0, hx⟩ | ⟨a, len', cap', m, n, D, Pl, hcs, hb, hl, hm, hmm, hx, hel⟩
  · simp at h0
    obtain ⟨rfl, rfl, rfl⟩ := h0
    exact ⟨default, fun i hi => by omega, Nat.le_refl _, Nat.zero_le _⟩
  · simp at hcs
    obtain ⟨rfl, rfl, rfl⟩ := hcs
    have hlm : len ≤ m := by rw [hmm]; split <;> omega
    have each : ∀ i, i < len → ∃ y : Stp, W.cell? (a.add (i * 7)) = some (.int .i64 y.K) ∧ W.cell? (a.add (i * 7 + 1)) = some (.int .i64 y.A) ∧ W.cell? (a.add (i * 7 + 2)) = some (.int .i64 y.M) ∧ W.cell? (a.add (i * 7 + 3)) = some (.int .i64 y.O) ∧ W.cell? (a.add (i * 7 + 4)) = some (.int .i64 y.T) ∧
        W.cell? (a.add (i * 7 + 5)) = some (.int .u8 (y.c.toNat : Int)) ∧ W.cell? (a.add (i * 7 + 6)) = some y.pv ∧ PR W y.pv y.pl y.pk ∧ (-9223372036854775808 ≤ y.A ∧ y.A ≤ 9223372036854775807) ∧ (-9223372036854775808 ≤ y.M ∧ y.M ≤ 9223372036854775807) ∧ (-9223372036854775808 ≤ y.O ∧ y.O ≤ 9223372036854775807) ∧ (-9223372036854775808 ≤ y.T ∧ y.T ≤ 9223372036854775807) := by
      intro i hi
      obtain ⟨cs', h1, h2⟩ := hel i (by omega)
      rw [cells33] at h1
      obtain ⟨_, hlen, hcell⟩ := World.cells?_some h1
      obtain ⟨xs, n', _, hxy, hcl, hxl, hf⟩ := DataW.trod_struct Try.underlying33 h2
      match cs', hlen with
      | [v0, v1, v2, v3, v4, v5, v6], _ =>
        match xs, hxl with
        | [y0, y1, y2, y3, y4, y5, y6], _ =>
          have g0 := hf 0 _ rfl
          have g1 := hf 1 _ rfl
          have g2 := hf 2 _ rfl
          have g3 := hf 3 _ rfl
          have g4 := hf 4 _ rfl
          have g5 := hf 5 _ rfl
          have g6 := hf 6 _ rfl
          simp [cells3'] at g0 g1 g2 g3 g4
          simp [cells5'] at g5
          simp [cells31'] at g6
          have e0 := hcell 0 (by omega)
          have e1 := hcell 1 (by omega)
          have e2 := hcell 2 (by omega)
          have e3 := hcell 3 (by omega)
          have e4 := hcell 4 (by omega)
          have e5 := hcell 5 (by omega)
          have e6 := hcell 6 (by omega)
          rw [Deep.add_add] at e0 e1 e2 e3 e4 e5 e6
          obtain ⟨K, q0, _, wK⟩ := DataW.trod_int Try.underlying3 g0
          obtain ⟨A, q1, _, wA⟩ := DataW.trod_int Try.underlying3 g1
          obtain ⟨M, q2, _, wM⟩ := DataW.trod_int Try.underlying3 g2
          obtain ⟨O, q3, _, wO⟩ := DataW.trod_int Try.underlying3 g3
          obtain ⟨T, q4, _, wT⟩ := DataW.trod_int Try.underlying3 g4
          obtain ⟨C, q5, _, wC⟩ := DataW.trod_int Try.underlying5 g5
          obtain ⟨pl, pk, hPR⟩ := open_picks g6
          simp at q0 q1 q2 q3 q4 q5
          subst q0 q1 q2 q3 q4 q5
          have hC := bounds_u8 wC
          have eC : (((UInt8.ofNat C.toNat).toNat : Nat) : Int) = C := by rw [UInt8.toNat_ofNat']; omega
          exact ⟨⟨K, A, M, O, T, UInt8.ofNat C.toNat, v6, pl, pk⟩, by simpa using e0, by simpa using e1, by simpa using e2, by simpa using e3, by simpa using e4, by rw [eC]; simpa using e5, by simpa using e6, hPR, bounds_i64 wA, bounds_i64 wM, bounds_i64 wO, bounds_i64 wT⟩
    obtain ⟨it, hit⟩ := choose_lt each
    refine ⟨it, fun i hi => ?_, hl, hm⟩
    obtain ⟨a0, a1, a2, a3, a4, a5, a6, r⟩ := hit i hi
    have a00 := (hit 0 (by omega)).1
    obtain ⟨b, off, sp⟩ := a
    have hsp : sp = none := by simpa [Addr.add] using World.cell?_spot a00
    subst hsp
    have hadd : ∀ j, (⟨b, off, none⟩ : Addr).add j = ⟨b, off + j, none⟩ := fun j => by unfold Addr.add; split <;> simp_all
    have hblk : b < W.heap.size := by
      obtain ⟨cs', h1, _⟩ := hel i (by omega)
      rw [cells33, hadd] at h1
      exact World.cells?_block h1 (by decide)
    rw [hadd] at a0 a1 a2 a3 a4 a5 a6
    rw [← Nat.add_assoc] at a1 a2 a3 a4 a5 a6
    exact ⟨b, off, rfl, hblk, a0, a1, a2, a3, a4, a5, a6, r⟩
end Go.Proofs.Ytglhibmfbbbdiaa
