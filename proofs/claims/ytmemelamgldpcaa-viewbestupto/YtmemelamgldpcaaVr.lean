import Derived.Maps.AppendAt
import Derived.Test.YtmemelamgldpcaaVc
namespace Go.Proofs.Ytmemelamgldpcaa
open Go.RowKit Go.Maps

/-- an offer at a place of memory -/
def OAt (w : World) (g o : Nat) (x : Off) : Prop := w.cell? ⟨g, o, none⟩ = some (.int .i64 x.a) ∧ w.cell? ⟨g, o + 1, none⟩ = some (.int .i64 x.b) ∧ w.cell? ⟨g, o + 2, none⟩ = some (.int .i64 x.c)
def Off.cs (x : Off) : List Value := [.int .i64 x.a, .int .i64 x.b, .int .i64 x.c]
theorem add_at (b o j : Nat) : (⟨b, o, none⟩ : Addr).add j = ⟨b, o + j, none⟩ := by unfold Addr.add; split <;> simp_all
theorem OLie.nil (w : World) : OLie w (.slice none 0 0) [] := ⟨none, 0, rfl, Nat.le_refl _, by decide, fun i hi => by simp at hi⟩
/-- offers as cells -/
def ocs (l : List Off) : List Value := l.flatMap Off.cs
theorem ocs_append (a b : List Off) : ocs (a ++ b) = ocs a ++ ocs b := by simp [ocs]
theorem oc_one (x : Off) : ocs [x] = x.cs := by simp [ocs]
theorem oc1_len (x : Off) : x.cs.length = 3 := rfl
theorem oc_len : ∀ l : List Off, (ocs l).length = l.length * 3
  | [] => rfl
  | x :: l => by
    have := oc_len l
    unfold ocs at this ⊢
    rw [List.flatMap_cons, List.length_append, this, oc1_len, List.length_cons]; omega
theorem ocs_get : ∀ (l : List Off) (i k : Nat) (hi : i < l.length), k < 3 → (ocs l)[i * 3 + k]? = l[i].cs[k]?
  | x :: l, 0, k, hi, hk => by
    unfold ocs
    rw [List.flatMap_cons, Nat.zero_mul, Nat.zero_add, List.getElem?_append_left (by rw [oc1_len]; exact hk)]; rfl
  | x :: l, i + 1, k, hi, hk => by
    have := ocs_get l i k (by simpa using hi) hk
    unfold ocs at this ⊢
    rw [List.flatMap_cons, List.getElem?_append_right (by rw [oc1_len]; omega), oc1_len, show (i + 1) * 3 + k - 3 = i * 3 + k by omega, this]; rfl
theorem oc1_one (x : Off) (u : Value) (hu : u ∈ x.cs) : u.oneCell' = true := by
  simp [Off.cs] at hu
  rcases hu with rfl | rfl | rfl <;> rfl
theorem oc_oneC (l : List Off) (u : Value) (hu : u ∈ ocs l) : u.oneCell' = true := by
  simp only [ocs, List.mem_flatMap] at hu
  obtain ⟨c, _, hc⟩ := hu
  exact oc1_one c u hc
/-- what the cells of an offer's place say -/
theorem OAt.get {w : World} {g o : Nat} {x : Off} (h : OAt w g o x) (k : Nat) (v : Value) (hk : x.cs[k]? = some v) : w.cell? ⟨g, o + k, none⟩ = some v := by
  obtain ⟨c0, c1, c2⟩ := h
  match k, hk with
  | 0, hk => simp [Off.cs] at hk; subst hk; exact c0
  | 1, hk => simp [Off.cs] at hk; subst hk; exact c1
  | 2, hk => simp [Off.cs] at hk; subst hk; exact c2
  | k + 3, hk => simp [Off.cs] at hk
def ORow (e : TypeId) (base : Nat) (w : World) (v : Value) (l : List Off) : Prop := w.ownsRow base e 3 v l.length (ocs l)
theorem ORow.nil (e : TypeId) (base : Nat) (w : World) : ORow e base w (.slice none 0 0) [] := ⟨rfl, .inl ⟨rfl, rfl⟩⟩
theorem ORow.frame {e : TypeId} {base : Nat} {w w' : World} {v : Value} {l : List Off} (h : ORow e base w v l) (k : ∀ b, v.ownBlock = some b → w'.heap[b]? = w.heap[b]?) : ORow e base w' v l := by
  obtain ⟨e1, e2 | ⟨x, cap, cur, rfl, e4, e5, e6⟩⟩ := h
  · exact ⟨e1, .inl e2⟩
  · exact ⟨e1, .inr ⟨x, cap, cur, rfl, e4, (k x rfl).trans e5, e6⟩⟩
theorem ORow.own {e : TypeId} {base : Nat} {w : World} {v : Value} {l : List Off} (h : ORow e base w v l) : ∀ x, v.ownBlock = some x → base ≤ x ∧ x < w.heap.size := by
  obtain ⟨e1, ⟨rfl, _⟩ | ⟨x, cap, cur, rfl, e4, e5, e6⟩⟩ := h
  · intro x hx; cases hx
  · intro y hy; cases hy; exact ⟨e4, lt_of_block e5⟩
theorem ORow.below {e : TypeId} {base : Nat} {w w' : World} {v : Value} {l : List Off} (h : ORow e base w v l) (k : Below w.heap.size w w') : ORow e base w' v l :=
  h.frame fun b hb => k.block b (h.own b hb).2
theorem ORow.lie {e : TypeId} {base : Nat} {w : World} {v : Value} {l : List Off} (h : ORow e base w v l) : OLie w v l := by
  have hh := h
  obtain ⟨e1, ⟨rfl, hz⟩ | ⟨x, cap, cur, rfl, e4, e5, r1, r2, r3⟩⟩ := h
  · have : l = [] := List.eq_nil_of_length_eq_zero hz
    subst this
    exact OLie.nil w
  · refine ⟨_, cap, rfl, r1, r2, fun i hi => ⟨x, 0, rfl, lt_of_block e5, ?_⟩⟩
    have at_ : ∀ k, k < 3 → w.cell? ⟨x, 0 + i * 3 + k, none⟩ = l[i].cs[k]? := by
      intro k hk
      have := World.ownsRow.cellAt hh (i * 3 + k) (by omega)
      rw [Nat.zero_add, this]
      exact ocs_get l i k hi hk
    exact ⟨at_ 0 (by decide), at_ 1 (by decide), at_ 2 (by decide)⟩
theorem ORow.len {e : TypeId} {base : Nat} {w : World} {v : Value} {l : List Off} (h : ORow e base w v l) : ∃ ao cap, v = .slice ao l.length cap ∧ l.length ≤ cap ∧ cap ≤ maxLen := by
  rcases h.2 with ⟨rfl, hz⟩ | ⟨gb, cap, cur, rfl, _, _, r1, r2, _⟩
  · exact ⟨none, 0, by rw [hz], by omega, by decide⟩
  · exact ⟨_, cap, rfl, r1, r2⟩
set_option maxRecDepth 100000 in
theorem Try.infoR39 : (Try.prog.info? 39).map (fun i => (i.zero, i.size, i.bytes)) = some (some (.agg #[.int .i64 0, .int .i64 0, .int .i64 0]), 3, 24) := by kernel_rfl
/-- offers more at the end of a row of the call's own -/
theorem appR {ops : Array Oper} {rest : List Oper} {o : Oper} {a : Act} {Q : Exit → Act → World → Prop} {w0 : World} (hgd : o.guard = none) (s x : Operand)
    (ho : o.op = .call { callee := .builtin .append, args := #[s, x], argTypes := #[36, 36] }) (B1 : Nat) (v u : Value) (T U : List Off)
    (hs : a.eval s = v) (hx : a.eval x = u) (hA : ORow 39 B1 w0 v T) (hu : OLie w0 u U) (hU : U ≠ []) (hn : (T.length + U.length) * 24 ≤ 140737488355328) (hbase : B1 ≤ w0.heap.size)
    (h : ∀ v' w', ORow 39 B1 w' v' (T ++ U) → Below B1 w0 w' → (∀ k, k < w0.heap.size → some k ≠ v.ownBlock → w'.heap[k]? = w0.heap[k]?) → (∀ b, v'.ownBlock = some b → v.ownBlock = some b ∨ w0.heap.size ≤ b) → wpList Try.prog ops Q rest (a.put o.dst v') w') :
    wpList Try.prog ops Q (o :: rest) a w0 := by
  obtain ⟨i0, hi, hz0, hz1, hz2⟩ := info_parts Try.infoR39
  have ho2 := hA.own
  obtain ⟨ao, cap, rfl, hlc, hcm, hcell⟩ := hu
  have hpos : 0 < U.length := List.length_pos_iff.2 hU
  obtain ⟨gb, off, rfl, hgb, _⟩ := hcell 0 hpos
  refine wpList_append_own_at _ hgd s x 36 ho B1 39 i0 (.agg #[.int .i64 0, .int .i64 0, .int .i64 0]) 3 24 Try.underlying36 hi hz0 hz1 hz2 rfl (by decide) v T.length (ocs T) hs hA ⟨gb, off, none⟩ U.length cap (ocs U) hx (oc_len U) (by
      intro j u hj
      have hj3 : j < U.length * 3 := by
        have := (List.getElem?_eq_some_iff.1 hj).1
        rw [oc_len] at this; exact this
      have hi : j / 3 < U.length := by omega
      obtain ⟨g', o', e', _, hat⟩ := hcell (j / 3) hi
      cases e'
      have hj2 : j = j / 3 * 3 + j % 3 := by omega
      rw [hj2, ocs_get U (j / 3) (j % 3) hi (Nat.mod_lt _ (by decide))] at hj
      have := (show OAt w0 gb (off + j / 3 * 3) _ from hat).get (j % 3) u hj
      rw [show off + j / 3 * 3 + j % 3 = off + j by omega] at this
      rw [add_at]
      exact this) (oc_oneC U) (by unfold maxLen; omega) (by omega) hbase ?_
  intro v' w' hown hg _ hnew
  refine h v' w' ?_ ?_ (fun k hk hne => hg.block k hk hne) ?_
  · unfold ORow
    rw [ocs_append, List.length_append]
    exact hown
  · refine ⟨hg.os, hg.tape, hg.output, hg.size, fun k hk => hg.block k (by omega) ?_⟩
    intro e
    have := (ho2 k e.symm).1
    omega
  · intro b hb
    rcases hnew with e | e
    · exact .inl (e.symm.trans hb)
    · rw [e] at hb; cases hb; exact .inr (Nat.le_refl _)
set_option maxRecDepth 100000 in
theorem Try.infoR38 : (Try.prog.info? 38).map (fun i => (i.zero, i.size, i.bytes)) = some (some (.agg #[.int .i64 0, .int .i64 0, .int .i64 0]), 3, 24) := by kernel_rfl
/-- offers more at the end of a row of the call's own -/
theorem appO {ops : Array Oper} {rest : List Oper} {o : Oper} {a : Act} {Q : Exit → Act → World → Prop} {w0 : World} (hgd : o.guard = none) (s x : Operand)
    (ho : o.op = .call { callee := .builtin .append, args := #[s, x], argTypes := #[33, 33] }) (B1 : Nat) (v u : Value) (T U : List Off)
    (hs : a.eval s = v) (hx : a.eval x = u) (hA : ORow 38 B1 w0 v T) (hu : OLie w0 u U) (hU : U ≠ []) (hn : (T.length + U.length) * 24 ≤ 140737488355328) (hbase : B1 ≤ w0.heap.size)
    (h : ∀ v' w', ORow 38 B1 w' v' (T ++ U) → Below B1 w0 w' → (∀ k, k < w0.heap.size → some k ≠ v.ownBlock → w'.heap[k]? = w0.heap[k]?) → (∀ b, v'.ownBlock = some b → v.ownBlock = some b ∨ w0.heap.size ≤ b) → wpList Try.prog ops Q rest (a.put o.dst v') w') :
    wpList Try.prog ops Q (o :: rest) a w0 := by
  obtain ⟨i0, hi, hz0, hz1, hz2⟩ := info_parts Try.infoR38
  have ho2 := hA.own
  obtain ⟨ao, cap, rfl, hlc, hcm, hcell⟩ := hu
  have hpos : 0 < U.length := List.length_pos_iff.2 hU
  obtain ⟨gb, off, rfl, hgb, _⟩ := hcell 0 hpos
  refine wpList_append_own_at _ hgd s x 33 ho B1 38 i0 (.agg #[.int .i64 0, .int .i64 0, .int .i64 0]) 3 24 Try.underlying33 hi hz0 hz1 hz2 rfl (by decide) v T.length (ocs T) hs hA ⟨gb, off, none⟩ U.length cap (ocs U) hx (oc_len U) (by
      intro j u hj
      have hj3 : j < U.length * 3 := by
        have := (List.getElem?_eq_some_iff.1 hj).1
        rw [oc_len] at this; exact this
      have hi : j / 3 < U.length := by omega
      obtain ⟨g', o', e', _, hat⟩ := hcell (j / 3) hi
      cases e'
      have hj2 : j = j / 3 * 3 + j % 3 := by omega
      rw [hj2, ocs_get U (j / 3) (j % 3) hi (Nat.mod_lt _ (by decide))] at hj
      have := (show OAt w0 gb (off + j / 3 * 3) _ from hat).get (j % 3) u hj
      rw [show off + j / 3 * 3 + j % 3 = off + j by omega] at this
      rw [add_at]
      exact this) (oc_oneC U) (by unfold maxLen; omega) (by omega) hbase ?_
  intro v' w' hown hg _ hnew
  refine h v' w' ?_ ?_ (fun k hk hne => hg.block k hk hne) ?_
  · unfold ORow
    rw [ocs_append, List.length_append]
    exact hown
  · refine ⟨hg.os, hg.tape, hg.output, hg.size, fun k hk => hg.block k (by omega) ?_⟩
    intro e
    have := (ho2 k e.symm).1
    omega
  · intro b hb
    rcases hnew with e | e
    · exact .inl (e.symm.trans hb)
    · rw [e] at hb; cases hb; exact .inr (Nat.le_refl _)
end Go.Proofs.Ytmemelamgldpcaa
