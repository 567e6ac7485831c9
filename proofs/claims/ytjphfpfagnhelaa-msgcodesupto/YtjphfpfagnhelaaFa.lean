import Derived.Test.YtjphfpfagnhelaaEd
import Derived.Test.YtjphfpfagnhelaaEq
import Derived.Lib.AppendZeros
import Derived.Maps.AppendAt
namespace Go.Proofs.Ytjphfpfagnhelaa
open Go.RowKit Go.Maps

/-- an entry at a place of memory -/
def EAt (w : World) (g o : Nat) (x : Ent) : Prop := w.cell? ⟨g, o, none⟩ = some (.int .i64 x.V) ∧ w.cell? ⟨g, o + 1, none⟩ = some (.int .i64 x.C) ∧ w.cell? ⟨g, o + 2, none⟩ = some (.int .i64 x.R) ∧ w.cell? ⟨g, o + 3, none⟩ = some (.int .i64 x.K) ∧ w.cell? ⟨g, o + 4, none⟩ = some (.int .i64 x.A) ∧ w.cell? ⟨g, o + 5, none⟩ = some (.int .i64 x.N) ∧ w.cell? ⟨g, o + 6, none⟩ = some (.string x.p) ∧ w.cell? ⟨g, o + 7, none⟩ = some (.string x.t) ∧ w.cell? ⟨g, o + 8, none⟩ = some (.string x.d)
theorem EAt.same {w w' : World} {g o : Nat} {x : Ent} (h : EAt w g o x) (k : w'.heap[g]? = w.heap[g]?) : EAt w' g o x := by
  unfold EAt World.cell? at *
  simp only [k]
  exact h
/-- a slice that reads as entries -/
def ELie (w : World) (v : Value) (l : List Ent) : Prop :=
  ∃ ao cap, v = .slice ao l.length cap ∧ l.length ≤ cap ∧ cap ≤ maxLen ∧ ∀ i (hi : i < l.length), ∃ gb off, ao = some ⟨gb, off, none⟩ ∧ gb < w.heap.size ∧ EAt w gb (off + i * 9) l[i]
theorem ELie.frame {w w' : World} {v : Value} {l : List Ent} (h : ELie w v l) (hs : w.heap.size ≤ w'.heap.size) (k : ∀ b o n c, v = .slice (some ⟨b, o, none⟩) n c → l ≠ [] → w'.heap[b]? = w.heap[b]?) : ELie w' v l := by
  obtain ⟨ao, cap, e, h1, h2, h3⟩ := h
  refine ⟨ao, cap, e, h1, h2, fun i hi => ?_⟩
  obtain ⟨gb, off, e1, hg, c⟩ := h3 i hi
  exact ⟨gb, off, e1, by omega, c.same (k gb off _ _ (by rw [e, e1]) (by intro e0; rw [e0] at hi; simp at hi))⟩
theorem ELie.below {w w' : World} {v : Value} {l : List Ent} (h : ELie w v l) (k : Below w.heap.size w w') : ELie w' v l := by
  obtain ⟨ao, cap, e, h1, h2, h3⟩ := h
  refine ⟨ao, cap, e, h1, h2, fun i hi => ?_⟩
  obtain ⟨gb, off, e1, hg, c⟩ := h3 i hi
  exact ⟨gb, off, e1, Nat.lt_of_lt_of_le hg k.size, c.same (k.block gb hg)⟩
theorem ELie.nil (w : World) : ELie w (.slice none 0 0) [] := ⟨none, 0, rfl, Nat.le_refl _, by decide, fun i hi => by simp at hi⟩
/-- entries as cells -/
def ecs (l : List Ent) : List Value := l.flatMap Ent.cs
theorem ecs_append (a b : List Ent) : ecs (a ++ b) = ecs a ++ ecs b := by simp [ecs]
theorem ecs_one (x : Ent) : ecs [x] = x.cs := by simp [ecs]
theorem cs_len (x : Ent) : x.cs.length = 9 := rfl
theorem ecs_len : ∀ l : List Ent, (ecs l).length = l.length * 9
  | [] => rfl
  | x :: l => by
    have := ecs_len l
    unfold ecs at this ⊢
    rw [List.flatMap_cons, List.length_append, this, cs_len, List.length_cons]; omega
theorem ecs_get : ∀ (l : List Ent) (i k : Nat) (hi : i < l.length), k < 9 → (ecs l)[i * 9 + k]? = l[i].cs[k]?
  | x :: l, 0, k, hi, hk => by
    unfold ecs
    rw [List.flatMap_cons, Nat.zero_mul, Nat.zero_add, List.getElem?_append_left (by rw [cs_len]; exact hk)]; rfl
  | x :: l, i + 1, k, hi, hk => by
    have := ecs_get l i k (by simpa using hi) hk
    unfold ecs at this ⊢
    rw [List.flatMap_cons, List.getElem?_append_right (by rw [cs_len]; omega), cs_len, show (i + 1) * 9 + k - 9 = i * 9 + k by omega, this]; rfl
theorem cs_one (x : Ent) (u : Value) (hu : u ∈ x.cs) : u.oneCell' = true := by
  simp [Ent.cs] at hu
  rcases hu with rfl | rfl | rfl | rfl | rfl | rfl | rfl | rfl | rfl <;> rfl
theorem ecs_oneC (l : List Ent) (u : Value) (hu : u ∈ ecs l) : u.oneCell' = true := by
  simp only [ecs, List.mem_flatMap] at hu
  obtain ⟨c, _, hc⟩ := hu
  exact cs_one c u hc
/-- what the cells of an entry's place say -/
theorem EAt.get {w : World} {g o : Nat} {x : Ent} (h : EAt w g o x) (k : Nat) (v : Value) (hk : x.cs[k]? = some v) : w.cell? ⟨g, o + k, none⟩ = some v := by
  obtain ⟨c0, c1, c2, c3, c4, c5, c6, c7, c8⟩ := h
  match k, hk with
  | 0, hk => simp [Ent.cs] at hk; subst hk; exact c0
  | 1, hk => simp [Ent.cs] at hk; subst hk; exact c1
  | 2, hk => simp [Ent.cs] at hk; subst hk; exact c2
  | 3, hk => simp [Ent.cs] at hk; subst hk; exact c3
  | 4, hk => simp [Ent.cs] at hk; subst hk; exact c4
  | 5, hk => simp [Ent.cs] at hk; subst hk; exact c5
  | 6, hk => simp [Ent.cs] at hk; subst hk; exact c6
  | 7, hk => simp [Ent.cs] at hk; subst hk; exact c7
  | 8, hk => simp [Ent.cs] at hk; subst hk; exact c8
  | k + 9, hk => simp [Ent.cs] at hk
/-- a row of the call's own: entries -/
def ERow (base : Nat) (w : World) (v : Value) (l : List Ent) : Prop := w.ownsRow base 54 9 v l.length (ecs l)
theorem ERow.nil (base : Nat) (w : World) : ERow base w (.slice none 0 0) [] := ⟨rfl, .inl ⟨rfl, rfl⟩⟩
theorem ERow.frame {base : Nat} {w w' : World} {v : Value} {l : List Ent} (h : ERow base w v l) (k : ∀ b, v.ownBlock = some b → w'.heap[b]? = w.heap[b]?) : ERow base w' v l := by
  obtain ⟨e1, e2 | ⟨x, cap, cur, rfl, e4, e5, e6⟩⟩ := h
  · exact ⟨e1, .inl e2⟩
  · exact ⟨e1, .inr ⟨x, cap, cur, rfl, e4, (k x rfl).trans e5, e6⟩⟩
theorem ERow.own {base : Nat} {w : World} {v : Value} {l : List Ent} (h : ERow base w v l) : ∀ x, v.ownBlock = some x → base ≤ x ∧ x < w.heap.size := by
  obtain ⟨e1, ⟨rfl, _⟩ | ⟨x, cap, cur, rfl, e4, e5, e6⟩⟩ := h
  · intro x hx; cases hx
  · intro y hy; cases hy; exact ⟨e4, lt_of_block e5⟩
theorem ERow.below {base : Nat} {w w' : World} {v : Value} {l : List Ent} (h : ERow base w v l) (k : Below w.heap.size w w') : ERow base w' v l :=
  h.frame fun b hb => k.block b (h.own b hb).2
theorem ERow.lie {base : Nat} {w : World} {v : Value} {l : List Ent} (h : ERow base w v l) : ELie w v l := by
  have hh := h
  obtain ⟨e1, ⟨rfl, hz⟩ | ⟨x, cap, cur, rfl, e4, e5, r1, r2, r3⟩⟩ := h
  · have : l = [] := List.eq_nil_of_length_eq_zero hz
    subst this
    exact ELie.nil w
  · refine ⟨_, cap, rfl, r1, r2, fun i hi => ⟨x, 0, rfl, lt_of_block e5, ?_⟩⟩
    have at_ : ∀ k, k < 9 → w.cell? ⟨x, 0 + i * 9 + k, none⟩ = l[i].cs[k]? := by
      intro k hk
      have := World.ownsRow.cellAt hh (i * 9 + k) (by omega)
      rw [Nat.zero_add, this]
      exact ecs_get l i k hi hk
    exact ⟨at_ 0 (by decide), at_ 1 (by decide), at_ 2 (by decide), at_ 3 (by decide), at_ 4 (by decide), at_ 5 (by decide), at_ 6 (by decide), at_ 7 (by decide), at_ 8 (by decide)⟩
theorem ERow.len {base : Nat} {w : World} {v : Value} {l : List Ent} (h : ERow base w v l) : ∃ ao cap, v = .slice ao l.length cap ∧ l.length ≤ cap ∧ cap ≤ maxLen := by
  rcases h.2 with ⟨rfl, hz⟩ | ⟨gb, cap, cur, rfl, _, _, r1, r2, _⟩
  · exact ⟨none, 0, by rw [hz], by omega, by decide⟩
  · exact ⟨_, cap, rfl, r1, r2⟩
set_option maxRecDepth 100000 in
theorem Try.info54 : (Try.prog.info? 54).map (fun i => (i.zero, i.size, i.bytes)) = some (some (.agg #[.int .i64 0, .int .i64 0, .int .i64 0, .int .i64 0, .int .i64 0, .int .i64 0, .string ⟨#[]⟩, .string ⟨#[]⟩, .string ⟨#[]⟩]), 9, 96) := by kernel_rfl
theorem add_at (b off j : Nat) : (⟨b, off, none⟩ : Addr).add j = ⟨b, off + j, none⟩ := by unfold Addr.add; split <;> simp_all
/-- entries more at the end of a row of the call's own -/
theorem appE {ops : Array Oper} {rest : List Oper} {o : Oper} {a : Act} {Q : Exit → Act → World → Prop} {w0 : World} (hgd : o.guard = none) (s x : Operand)
    (ho : o.op = .call { callee := .builtin .append, args := #[s, x], argTypes := #[22, 22] }) (B1 : Nat) (v u : Value) (T U : List Ent)
    (hs : a.eval s = v) (hx : a.eval x = u) (hA : ERow B1 w0 v T) (hu : ELie w0 u U) (hU : U ≠ []) (hn : T.length + U.length ≤ 1000000000000) (hbase : B1 ≤ w0.heap.size)
    (h : ∀ v' w', ERow B1 w' v' (T ++ U) → Below B1 w0 w' → (∀ k, k < w0.heap.size → some k ≠ v.ownBlock → w'.heap[k]? = w0.heap[k]?) → (∀ b, v'.ownBlock = some b → v.ownBlock = some b ∨ w0.heap.size ≤ b) → wpList Try.prog ops Q rest (a.put o.dst v') w') :
    wpList Try.prog ops Q (o :: rest) a w0 := by
  obtain ⟨i0, hi, hz0, hz1, hz2⟩ := info_parts Try.info54
  have ho2 := hA.own
  obtain ⟨ao, cap, rfl, hlc, hcm, hcell⟩ := hu
  have hpos : 0 < U.length := List.length_pos_iff.2 hU
  obtain ⟨gb, off, rfl, hgb, _⟩ := hcell 0 hpos
  refine wpList_append_own_at _ hgd s x 22 ho B1 54 i0 (.agg #[.int .i64 0, .int .i64 0, .int .i64 0, .int .i64 0, .int .i64 0, .int .i64 0, .string ⟨#[]⟩, .string ⟨#[]⟩, .string ⟨#[]⟩]) 9 96 Try.underlying22 hi hz0 hz1 hz2 rfl (by decide) v T.length (ecs T) hs hA ⟨gb, off, none⟩ U.length cap (ecs U) hx (ecs_len U) (by
      intro j u hj
      have hj9 : j < U.length * 9 := by
        have := (List.getElem?_eq_some_iff.1 hj).1
        rw [ecs_len] at this; exact this
      have hi : j / 9 < U.length := by omega
      obtain ⟨g', o', e', _, hat⟩ := hcell (j / 9) hi
      cases e'
      have hj2 : j = j / 9 * 9 + j % 9 := by omega
      rw [hj2, ecs_get U (j / 9) (j % 9) hi (Nat.mod_lt _ (by decide))] at hj
      have := hat.get (j % 9) u hj
      rw [show off + j / 9 * 9 + j % 9 = off + j by omega] at this
      rw [add_at]
      exact this) (ecs_oneC U) (by unfold maxLen; omega) (by omega) hbase ?_
  intro v' w' hown hg _ hnew
  refine h v' w' ?_ ?_ (fun k hk hne => hg.block k hk hne) ?_
  · unfold ERow
    rw [ecs_append, List.length_append]
    exact hown
  · refine ⟨hg.os, hg.tape, hg.output, hg.size, fun k hk => hg.block k (by omega) ?_⟩
    intro e
    have := (ho2 k e.symm).1
    omega
  · intro b hb
    rcases hnew with e | e
    · exact .inl (e.symm.trans hb)
    · rw [e] at hb; cases hb; exact .inr (Nat.le_refl _)
end Go.Proofs.Ytjphfpfagnhelaa
