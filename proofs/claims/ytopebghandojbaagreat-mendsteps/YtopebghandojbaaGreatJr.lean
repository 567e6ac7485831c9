import Derived.Test.YtopebghandojbaaGreatJi
namespace Go.Proofs.YtopebghandojbaaGreat
open Go.RowKit Go.Maps
/-- a row of numbers of the call's own, maybe cut at its front -/
def ORow (w : World) (v : Value) (l : List Int) : Prop :=
  (v = .slice none 0 0 ∧ l = []) ∨ ∃ b off cap cur, v = .slice (some ⟨b, off, none⟩) l.length cap ∧ w.heap[b]? = some (.cells cur 3 (0, 0)) ∧ l.length ≤ cap ∧ cap ≤ maxLen ∧ off + cap ≤ cur.size ∧ ∀ i (hi : i < l.length), cur[off + i]? = some (.int .i64 l[i])
set_option maxRecDepth 100000 in
theorem ORow.nil (w : World) : ORow w (.slice none 0 0) [] := .inl ⟨rfl, rfl⟩
set_option maxRecDepth 100000 in
theorem ORow.same {w w' : World} {v : Value} {l : List Int} (h : ORow w v l) (k : ∀ x, v.ownBlock = some x → w'.heap[x]? = w.heap[x]?) : ORow w' v l := by
  obtain h | ⟨b, off, cap, cur, rfl, h1, h2⟩ := h
  · exact .inl h
  · exact .inr ⟨b, off, cap, cur, rfl, (k b rfl).trans h1, h2⟩
set_option maxRecDepth 100000 in
theorem ORow.own {w : World} {v : Value} {l : List Int} (h : ORow w v l) : ∀ x, v.ownBlock = some x → x < w.heap.size := by
  obtain ⟨rfl, _⟩ | ⟨b, off, cap, cur, rfl, h1, h2⟩ := h
  · intro x hx; cases hx
  · intro x hx; cases hx; exact lt_of_block h1
set_option maxRecDepth 100000 in
theorem ORow.len {w : World} {v : Value} {l : List Int} (h : ORow w v l) : ∃ ao cap, v = .slice ao l.length cap ∧ l.length ≤ cap ∧ cap ≤ maxLen := by
  obtain ⟨rfl, rfl⟩ | ⟨b, off, cap, cur, rfl, h1, h2, h3, _⟩ := h
  · exact ⟨none, 0, rfl, by simp, by decide⟩
  · exact ⟨_, cap, rfl, h2, h3⟩
set_option maxRecDepth 100000 in
theorem ORow.lie {w : World} {v : Value} {l : List Int} (h : ORow w v l) : ILie w v l := by
  obtain ⟨rfl, rfl⟩ | ⟨b, off, cap, cur, rfl, h1, h2, h3, _, h4⟩ := h
  · exact ⟨none, 0, rfl, Nat.le_refl _, by decide, fun i hi => by simp at hi⟩
  · exact ⟨_, cap, rfl, h2, h3, fun i hi => ⟨b, off, rfl, lt_of_block h1, by simp [World.cell?, h1, h4 i hi]⟩⟩
set_option maxRecDepth 100000 in
theorem ORow.of {base : Nat} {w : World} {v : Value} {l : List Int} (h : IRow base w v l) : ORow w v l := by
  obtain ⟨rfl, e⟩ | ⟨b, off, cap, cur, e, h1, h2, h3, h4, h5⟩ := h.jrow
  · exact .inl ⟨rfl, e⟩
  · obtain ⟨_, ⟨e', _⟩ | ⟨x, cap', cur', e', e4, e5, r1, r2, r3, r4⟩⟩ := h
    · rw [e] at e'; cases e'
    · rw [e] at e'
      injection e' with q1 q2 q3
      injection q1 with q1
      injection q1 with q4 q5
      subst q3 q4 q5
      rw [h1] at e5
      injection e5 with e5
      injection e5 with e6
      subst e6
      exact .inr ⟨b, 0, cap, cur, e, h1, h2, h3, by omega, h4⟩
set_option maxRecDepth 100000 in
theorem ORow.cut {w0 : World} {ao : Option Addr} {cap k : Nat} {l : List Int} (h0 : ORow w0 (.slice ao l.length cap) l) (hlc : l.length ≤ cap) (hcm : cap ≤ maxLen) (hk : k ≤ l.length) :
    ∃ ao' m m', (∀ w : World, (Instr.slice 154 (.slice ao l.length cap) (some (.int .i64 (k : Int))) none none).run Tryz.prog w = .ok (.slice ao' m m') w) ∧ (Value.slice ao' m m').ownBlock = (Value.slice ao l.length cap).ownBlock ∧ ∀ w : World, ORow w (.slice ao l.length cap) l → ORow w (.slice ao' m m') (l.drop k) := by
  refine ⟨(if cap = k then ao else ao.map (·.add (k * 1))), l.length - k, cap - k, fun w => ?_, ?_, fun w h => ?_⟩
  · have := run_slice_l (P := Tryz.prog) w 154 ao l.length cap under72 .i64 (k : Int) (by omega) (by omega)
    rw [this, run_size3]
    simp [Result.andThen, sliced]
  · by_cases h : cap = k
    · rw [if_pos h]; cases ao <;> rfl
    · rw [if_neg h]
      obtain ⟨e, _⟩ | ⟨b, off, cap', cur, e, _⟩ := h0
      · injection e with e0 e1 e3
        rw [e0]; rfl
      · injection e with e0 e1 e3
        rw [e0]; simp only [Option.map_some, Value.ownBlock, Addr.add]; split <;> rfl
  · have hl : (l.drop k).length = l.length - k := List.length_drop
    obtain ⟨e, e2⟩ | ⟨b, off, cap', cur, e, h1, h2, h3, h4, h5⟩ := h
    · injection e with e0 e1 e3
      subst e0
      subst e2
      have : k = 0 := by simpa using hk
      subst this
      subst e3
      exact .inl ⟨rfl, rfl⟩
    · injection e with e0 e1 e3
      subst e0 e3
      by_cases hkl : cap = k
      · rw [if_pos hkl]
        refine .inr ⟨b, off, cap - k, cur, by rw [hl], h1, by omega, by omega, by omega, fun i hi => by omega⟩
      · rw [if_neg hkl]
        refine .inr ⟨b, off + k, cap - k, cur, by rw [hl]; simp [Addr.add], h1, by omega, by omega, by omega, fun i hi => ?_⟩
        rw [List.getElem_drop, show off + k + i = off + (k + i) by omega]
        exact h5 (k + i) (by omega)
set_option maxRecDepth 100000 in
theorem JS.same {g : Nat} {r : Option Nat} {w w' : World} {P : Int} {T F S : Nat} {l : List Int} (h : JS g r w P T F S l) (k : w'.heap[g]? = w.heap[g]?) (kr : ∀ x, r = some x → w'.heap[x]? = w.heap[x]?) : JS g r w' P T F S l := by
  obtain ⟨sv, h0, h1, h2⟩ := h
  exact ⟨sv, h0, k.trans h1, h2.same fun x hx => kr x (h0.symm.trans hx)⟩
/-- a journal and a row of numbers apart from it -/
structure RS (B g : Nat) (r : Option Nat) (w : World) (P : Int) (T F S : Nat) (sz : List Int) (sv : Value) (sl : List Int) : Prop where
  js : JS g r w P T F S sz
  row : ORow w sv sl
  ag : ∀ x, sv.ownBlock = some x → x ≠ g ∧ some x ≠ r
  gB : B ≤ g
  rB : ∀ x, r = some x → B ≤ x
  vB : ∀ x, sv.ownBlock = some x → B ≤ x
set_option maxRecDepth 100000 in
theorem RS.keep {B g : Nat} {r : Option Nat} {w w' : World} {P : Int} {T F S : Nat} {sz sl : List Int} {sv : Value} (h : RS B g r w P T F S sz sv sl) (k : Below w.heap.size w w') : RS B g r w' P T F S sz sv sl :=
  ⟨h.js.below k, h.row.same fun x hx => k.block x (h.row.own x hx), h.ag, h.gB, h.rB, h.vB⟩
set_option maxRecDepth 100000 in
theorem RS.jstep {B g : Nat} {r r' : Option Nat} {w w' : World} {P : Int} {T F S T' F' S' : Nat} {sz sz' sl : List Int} {sv : Value} (h : RS B g r w P T F S sz sv sl) (hj : JS g r' w' P T' F' S' sz') (hn : New w r r') (hf : JFr g r w w') : RS B g r' w' P T' F' S' sz' sv sl ∧ Below B w w' := by
  have hB : B ≤ w.heap.size := Nat.le_trans h.gB (Nat.le_of_lt h.js.lt.1)
  refine ⟨⟨hj, h.row.same fun x hx => hf.block x (h.row.own x hx) (h.ag x hx).1 (h.ag x hx).2, fun x hx => ⟨(h.ag x hx).1, ?_⟩, h.gB, fun x hx => ?_, h.vB⟩, hf.below hB h.gB h.rB⟩
  · rcases hn with rfl | ⟨k, rfl, hk⟩
    · exact (h.ag x hx).2
    · have := h.row.own x hx
      intro e; cases e; omega
  · rcases hn with rfl | ⟨k, rfl, hk⟩
    · exact h.rB x hx
    · cases hx; omega
end Go.Proofs.YtopebghandojbaaGreat
