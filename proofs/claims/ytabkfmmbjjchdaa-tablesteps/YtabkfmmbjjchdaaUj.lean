import Derived.Test.YtabkfmmbjjchdaaUi
namespace Go.Proofs.Ytabkfmmbjjchdaa
open Go.RowKit Go.Maps

/-- a block of cells of another type is not the program's table -/
theorem TB.cells {g N : Nat} {mb : Option Nat} {w : World} {L : List Kx} (h : TB g mb w N L) {j : Nat} {cs : Array Value} {t : TypeId} {fz : Nat × Nat} (hc : w.heap[j]? = some (.cells cs t fz)) (ht : t ≠ 60) : j ≠ g ∧ some j ≠ mb := by
  refine ⟨fun e => ?_, fun e => ?_⟩
  · subst e
    rw [h.box] at hc
    cases hc
    exact ht rfl
  · obtain ⟨n, D, ⟨es, clock, h1, _⟩, _⟩ := h.map j e.symm
    rw [h1] at hc
    cases hc
/-- the document's table under a step of the program's -/
theorem RT.kq {W : World} {r : Nat} {w w' : World} {R L : List Kx} {g N : Nat} {mb : Option Nat} (h : RT W r w R) (t : TB g mb w N L) (k : KQ g mb w w') (hg : W.heap.size ≤ g) (hm : ∀ b, mb = some b → W.heap.size ≤ b) : RT W r w' R := by
  obtain ⟨v, h1, h2⟩ := h.mem
  have hr := t.cells h1 (by decide)
  refine ⟨h.br, ⟨k.os.trans h.bel.os, k.tape.trans h.bel.tape, k.output.trans h.bel.output, Nat.le_trans h.bel.size k.size, fun j hj => ?_⟩, h.rise, ⟨v, (k.block r h.lt hr.1 hr.2).trans h1, h2.frame fun b cs fz hb => ?_⟩, h.nv⟩
  · refine (k.block j (Nat.lt_of_lt_of_le hj h.bel.size) (by omega) (fun e => ?_)).trans (h.bel.block j hj)
    have := hm j e.symm
    omega
  · have := t.cells hb (by decide)
    exact k.block b (lt_of_block hb) this.1 this.2
end Go.Proofs.Ytabkfmmbjjchdaa
