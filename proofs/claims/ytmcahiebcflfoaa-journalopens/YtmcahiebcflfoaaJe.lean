import Derived.Test.YtmcahiebcflfoaaJd
import Derived.ArgAppend
namespace Go.Proofs.Ytmcahiebcflfoaa
open Go.RowKit Go.Maps
/-- the sizes' row: a row of its own, or what is left of one that was cut at its front, without room behind -/
def JRow (w : World) (v : Value) (l : List Int) : Prop :=
  (v = .slice none 0 0 ∧ l = []) ∨ ∃ b off cap cur, v = .slice (some ⟨b, off, none⟩) l.length cap ∧ w.heap[b]? = some (.cells cur 3 (0, 0)) ∧ l.length ≤ cap ∧ cap ≤ maxLen ∧ (∀ i (hi : i < l.length), cur[off + i]? = some (.int .i64 l[i])) ∧ (cap = l.length ∨ (off = 0 ∧ cur.size = cap))
theorem JRow.nil (w : World) : JRow w (.slice none 0 0) [] := .inl ⟨rfl, rfl⟩
theorem JRow.same {w w' : World} {v : Value} {l : List Int} (h : JRow w v l) (k : ∀ x, v.ownBlock = some x → w'.heap[x]? = w.heap[x]?) : JRow w' v l := by
  obtain h | ⟨b, off, cap, cur, rfl, h1, h2⟩ := h
  · exact .inl h
  · exact .inr ⟨b, off, cap, cur, rfl, (k b rfl).trans h1, h2⟩
theorem JRow.own {w : World} {v : Value} {l : List Int} (h : JRow w v l) : ∀ x, v.ownBlock = some x → ∃ cur, w.heap[x]? = some (.cells cur 3 (0, 0)) := by
  obtain ⟨rfl, _⟩ | ⟨b, off, cap, cur, rfl, h1, h2⟩ := h
  · intro x hx; cases hx
  · intro x hx; cases hx; exact ⟨_, h1⟩
theorem JRow.below {w w' : World} {v : Value} {l : List Int} (h : JRow w v l) (k : Below w.heap.size w w') : JRow w' v l := by
  refine h.same fun x hx => ?_
  obtain ⟨cur, hc⟩ := h.own x hx
  exact k.block x (lt_of_block hc)
theorem JRow.len {w : World} {v : Value} {l : List Int} (h : JRow w v l) : ∃ ao cap, v = .slice ao l.length cap ∧ l.length ≤ cap ∧ cap ≤ maxLen := by
  obtain ⟨rfl, rfl⟩ | ⟨b, off, cap, cur, rfl, h1, h2, h3, _⟩ := h
  · exact ⟨none, 0, rfl, by simp, by decide⟩
  · exact ⟨_, cap, rfl, h2, h3⟩
theorem JRow.lie {w : World} {v : Value} {l : List Int} (h : JRow w v l) : ILie w v l := by
  obtain ⟨rfl, rfl⟩ | ⟨b, off, cap, cur, rfl, h1, h2, h3, h4, _⟩ := h
  · exact ⟨none, 0, rfl, Nat.le_refl _, by decide, fun i hi => by simp at hi⟩
  · exact ⟨_, cap, rfl, h2, h3, fun i hi => ⟨b, off, rfl, lt_of_block h1, by simp [World.cell?, h1, h4 i hi]⟩⟩
theorem IRow.jrow {base : Nat} {w : World} {v : Value} {l : List Int} (h : IRow base w v l) : JRow w v l := by
  obtain ⟨e1, ⟨rfl, hz⟩ | ⟨x, cap, cur, rfl, e4, e5, r1, r2, r3, r4⟩⟩ := h
  · exact .inl ⟨rfl, List.eq_nil_of_length_eq_zero hz⟩
  · refine .inr ⟨x, 0, cap, cur, rfl, e5, r1, r2, fun i hi => ?_, .inr ⟨rfl, by omega⟩⟩
    have e1 : cur.toList[i]? = (l.map (Value.int .i64))[i]? := by rw [← r4, List.getElem?_take_of_lt (by omega)]
    rw [Array.getElem?_toList, List.getElem?_map, List.getElem?_eq_getElem hi] at e1
    rw [Nat.zero_add, e1]; rfl
theorem JRow.irow {w : World} {b cap : Nat} {cur : Array Value} {l : List Int} (h1 : w.heap[b]? = some (.cells cur 3 (0, 0))) (h2 : l.length ≤ cap) (h3 : cap ≤ maxLen) (h4 : ∀ i (hi : i < l.length), cur[0 + i]? = some (.int .i64 l[i])) (h5 : cur.size = cap) : IRow 0 w (.slice (some ⟨b, 0, none⟩) l.length cap) l := by
  refine ⟨by simp, .inr ⟨b, cap, cur, rfl, Nat.zero_le _, h1, h2, h3, by omega, ?_⟩⟩
  apply List.ext_getElem?
  intro i
  rw [Nat.mul_one]
  by_cases hi : i < l.length
  · rw [List.getElem?_take_of_lt hi, Array.getElem?_toList, List.getElem?_map, List.getElem?_eq_getElem hi]
    have := h4 i hi
    rw [Nat.zero_add] at this
    rw [this]; rfl
  · rw [List.getElem?_eq_none (by rw [List.length_take]; omega), List.getElem?_eq_none (by rw [List.length_map]; omega)]
theorem pushJ {ops : Array Oper} {rest : List Oper} {o : Oper} {a : Act} {Q : Exit → Act → World → Prop} {w0 : World} (hgd : o.guard = none) (s x : Operand)
    (ho : o.op = .call { callee := .builtin .append, args := #[s, x], argTypes := #[72, 72] }) (bb : Nat) (v : Value) (T : List Int) (y : Int)
    (hs : a.eval s = v) (hx : a.eval x = .slice (some ⟨bb, 0, none⟩) 1 1) (hbb : bb = w0.heap.size) (hA : JRow w0 v T) (hn : T.length ≤ 2000)
    (h : ∀ v' w', JRow w' v' (T ++ [y]) → w0.grownBy w' v.ownBlock → (v'.ownBlock = v.ownBlock ∨ ∃ k, v'.ownBlock = some k ∧ w0.heap.size ≤ k) → wpList Try.prog ops Q rest (a.put o.dst v') w') :
    wpList Try.prog ops Q (o :: rest) a (w0.alloc (.cells #[.int .i64 y] 3)) := by
  subst hbb
  obtain ⟨i0, hi, hz0, hz1, hz2⟩ := info_parts Try.infoR3
  have hnew : ∀ j u, [Value.int .i64 y][j]? = some u → (w0.alloc (.cells #[.int .i64 y] 3)).cell? ((⟨w0.heap.size, 0, none⟩ : Addr).add j) = some u := cell_one_new w0 (.int .i64 y) 3
  have grow : ∀ {row : Option Nat} {w'}, (w0.alloc (.cells #[.int .i64 y] 3)).grownBy w' row → w0.grownBy w' row := fun hg => ⟨hg.os, hg.tape, hg.output, by have := hg.size; simp at this; omega, fun k hk hne => (hg.block k (by simp; omega) hne).trans (Below.heap_alloc _ _ k hk)⟩
  have back : ∀ {base : Nat} {w' v'}, w'.ownsRow base 3 1 v' (T.length + 1) (T.map (Value.int .i64) ++ [.int .i64 y]) → JRow w' v' (T ++ [y]) := by
    intro base w' v' hown
    refine IRow.jrow (base := base) ?_
    unfold IRow
    rw [List.map_append, List.length_append]
    exact hown
  have own : ∀ hI : IRow 0 w0 v T, wpList Try.prog ops Q (o :: rest) a (w0.alloc (.cells #[.int .i64 y] 3)) := by
    intro hI
    refine wpList_append_own_at _ hgd s x 72 ho 0 3 i0 (.int .i64 0) 1 8 Try.underlying72 hi hz0 hz1 hz2 rfl (by decide) v T.length (T.map (Value.int .i64)) hs (World.ownsRow.alloc hI _) ⟨w0.heap.size, 0, none⟩ 1 1 [.int .i64 y] hx rfl hnew (by intro u hu; simp at hu; subst hu; rfl) (by unfold maxLen; omega) (by omega) (Nat.zero_le _) ?_
    intro v' w' hown hg _ hat
    refine h v' w' (back hown) (grow hg) ?_
    rcases hat with e | e
    · exact .inl e
    · exact .inr ⟨_, e, by simp⟩
  rcases hA with ⟨rfl, rfl⟩ | ⟨b, off, cap, cur, rfl, h1, h2, h3, h4, h5 | ⟨rfl, h5⟩⟩
  · exact own (IRow.nil 0 w0)
  · have hb := lt_of_block h1
    refine wpList_append_grows _ hgd s x 72 ho 3 i0 (.int .i64 0) 1 8 Try.underlying72 hi hz0 hz1 hz2 rfl (by decide) _ T.length cap (T.map (Value.int .i64)) hs (by intro e; cases e) (by simp) ?_ ⟨w0.heap.size, 0, none⟩ 1 1 [.int .i64 y] hx rfl hnew (by intro u hu; simp at hu; subst hu; rfl) (by omega) (by unfold maxLen; omega) (by omega) ?_
    · intro q hq j u hu
      cases hq
      rw [List.getElem?_map] at hu
      by_cases hj : j < T.length
      · rw [List.getElem?_eq_getElem hj] at hu
        simp only [Option.map_some, Option.some.injEq] at hu
        subst hu
        have e := h4 j hj
        rw [Addr.add_lit]
        simp only [World.cell?]
        rw [Below.heap_alloc _ _ b hb, h1]
        simpa using e
      · rw [List.getElem?_eq_none (by omega)] at hu; cases hu
    · intro v' w' hown hg
      have hg2 := grow hg
      refine h v' w' (back hown) ⟨hg2.os, hg2.tape, hg2.output, hg2.size, fun k hk _ => hg2.block k hk (by simp)⟩ ?_
      rcases hown.2 with ⟨_, hz⟩ | ⟨k, _, _, rfl, hk, _⟩
      · omega
      · exact .inr ⟨k, rfl, by simp at hk; omega⟩
  · exact own (JRow.irow h1 h2 h3 h4 h5)
end Go.Proofs.Ytmcahiebcflfoaa
