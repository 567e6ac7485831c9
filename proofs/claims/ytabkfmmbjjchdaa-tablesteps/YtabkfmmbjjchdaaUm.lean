import Derived.Test.YtabkfmmbjjchdaaUl
namespace Go.Proofs.Ytabkfmmbjjchdaa
open Go.RowKit Go.Maps

theorem RFr.nine {W : World} {r : Nat} {w w' : World} {v0 : Value} {gb : Nat} {cs : Array Value} {t : TypeId} {fz : Nat × Nat} (k : RFr W r w w') (hr : w.heap[r]? = some (.cells #[v0] 28 (0, 0))) (hg : w.heap[gb]? = some (.cells cs t fz)) (h1 : t ≠ 28) (h2 : t ≠ 46) : w'.heap[gb]? = w.heap[gb]? :=
  k.block gb (lt_of_block hg) (fun e => by rw [e, hr] at hg; cases hg; exact h1 rfl) (.inr fun cs' fz' e => by rw [hg] at e; cases e; exact h2 rfl)
theorem Nine.rfr {W : World} {r : Nat} {w w' : World} {v0 v : Value} (h : Nine w v) (k : RFr W r w w') (hr : w.heap[r]? = some (.cells #[v0] 28 (0, 0))) : Nine w' v := fun gb hg => by
  obtain ⟨cs, fz, e⟩ := h gb hg
  exact ⟨cs, fz, (k.nine hr e (by decide) (by decide)).trans e⟩
theorem SLie.rfr {W : World} {r : Nat} {w w' : World} {v0 v : Value} {l : List ByteArray} (hs : SLie w v l) (h : Nine w v) (k : RFr W r w w') (hr : w.heap[r]? = some (.cells #[v0] 28 (0, 0))) : SLie w' v l := by
  obtain ⟨ao, cap, rfl, h1, h2, hz, h3⟩ := hs
  refine ⟨ao, cap, rfl, h1, h2, hz, fun i hi => ?_⟩
  obtain ⟨gb, off, e1, hg, c0⟩ := h3 i hi
  subst e1
  obtain ⟨cs, fz, e⟩ := h gb rfl
  refine ⟨gb, off, rfl, Nat.lt_of_lt_of_le hg k.size, ?_⟩
  rw [cellSame (k.nine hr e (by decide) (by decide))]
  exact c0
/-- the program's table under a step of the document's -/
theorem TB.rfr {W : World} {r : Nat} {w w' : World} {v0 : Value} {L : List Kx} {g N : Nat} {mb : Option Nat} (t : TB g mb w N L) (hn : ∀ x ∈ L, Nine w x.nv) (k : RFr W r w w') (hr : w.heap[r]? = some (.cells #[v0] 28 (0, 0))) : TB g mb w' N L := by
  refine ⟨(k.nine hr t.box (by decide) (by decide)).trans t.box, t.non, fun b hb => ?_, fun x hx => (t.nv x hx).rfr (hn x hx) k hr⟩
  have hm := t.map b hb
  have hlt := hm.lt
  refine hm.same ?_
  obtain ⟨n, D, ⟨es, clock, h1, _⟩, _⟩ := hm
  exact k.block b hlt (fun e => by rw [e, hr] at h1; cases h1) (.inr fun cs fz e => by rw [h1] at e; cases e)
end Go.Proofs.Ytabkfmmbjjchdaa
