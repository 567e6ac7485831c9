import Derived.Test.YtcaedajbkdploaaHc
import Derived.Test.YtcaedajbkdploaaOs
namespace Go.Proofs.Ytcaedajbkdploaa
open Go.RowKit Go.Maps

/-- both logs, and a block that is held beside them -/
structure PS (w0 : World) (q : Nat) (o : Obj) (w : World) (v1 v2 : Value) (l1 l2 : List Ent) : Prop where
  x : LI 78 w0.heap.size w0.heap.size w v1 l1
  y : LI 43 w0.heap.size (w0.heap.size + 1) w v2 l2
  a1 : ∀ b, v1.ownBlock = some b → b ≠ w0.heap.size + 1 ∧ v2.ownBlock ≠ some b ∧ b ≠ q
  a2 : ∀ b, v2.ownBlock = some b → b ≠ w0.heap.size ∧ b ≠ q
  hq : w.heap[q]? = some o
  q1 : q ≠ w0.heap.size ∧ q ≠ w0.heap.size + 1
  bel : Below w0.heap.size w0 w
theorem PS.below {w0 : World} {q : Nat} {o : Obj} {w w' : World} {v1 v2 : Value} {l1 l2 : List Ent} (h : PS w0 q o w v1 v2 l1 l2) (k : Below w.heap.size w w') : PS w0 q o w' v1 v2 l1 l2 :=
  ⟨h.x.below k, h.y.below k, h.a1, h.a2, (k.block q (lt_of_block h.hq)).trans h.hq, h.q1, h.bel.next k⟩
/-- another block held -/
theorem PS.hold {w0 : World} {q : Nat} {o : Obj} {w : World} {v1 v2 : Value} {l1 l2 : List Ent} (h : PS w0 q o w v1 v2 l1 l2) (o' : Obj) : PS w0 w.heap.size o' (w.alloc o') v1 v2 l1 l2 := by
  have k := below_alloc w o'
  refine ⟨h.x.below k, h.y.below k, fun b hb => ⟨(h.a1 b hb).1, (h.a1 b hb).2.1, ?_⟩, fun b hb => ⟨(h.a2 b hb).1, ?_⟩, box_at w o', ⟨?_, ?_⟩, h.bel.next k⟩
  · have := (h.x.row.own b hb).2; omega
  · have := (h.y.row.own b hb).2; omega
  · have := h.x.lt; omega
  · have := h.y.lt; omega
theorem PS.setx {w0 : World} {q : Nat} {o : Obj} {w w' : World} {v1 v2 : Value} {l1 l2 l1' : List Ent} (h : PS w0 q o w v1 v2 l1 l2) (k : After 78 w0.heap.size w0.heap.size v1 w l1' w') : ∃ v1', PS w0 q o w' v1' v2 l1' l2 := by
  obtain ⟨v', hx, hf, ho⟩ := k
  refine ⟨v', hx, h.y.frame fun b hb => ?_, fun b hb => ?_, h.a2, ?_, h.q1, h.bel.trans (hf.below (Nat.le_refl _) (fun b hb => (h.x.row.own b hb).1) h.bel.size)⟩
  · rcases hb with rfl | hb
    · exact hf.block _ h.y.lt (by omega) (fun e => (h.a1 _ e.symm).1 rfl)
    · exact hf.block b (h.y.row.own b hb).2 (h.a2 b hb).1 (fun e => (h.a1 b e.symm).2.1 hb)
  · rcases ho b hb with e | e
    · exact h.a1 b e
    · refine ⟨?_, fun e2 => ?_, ?_⟩
      · have := h.y.lt; omega
      · have := (h.y.row.own b e2).2; omega
      · have := lt_of_block h.hq; omega
  · exact (hf.block q (lt_of_block h.hq) h.q1.1 (fun e => (h.a1 q e.symm).2.2 rfl)).trans h.hq
theorem PS.sety {w0 : World} {q : Nat} {o : Obj} {w w' : World} {v1 v2 : Value} {l1 l2 l2' : List Ent} (h : PS w0 q o w v1 v2 l1 l2) (k : After 43 w0.heap.size (w0.heap.size + 1) v2 w l2' w') : ∃ v2', PS w0 q o w' v1 v2' l1 l2' := by
  obtain ⟨v', hy, hf, ho⟩ := k
  refine ⟨v', h.x.frame fun b hb => ?_, hy, fun b hb => ⟨(h.a1 b hb).1, fun e => ?_, (h.a1 b hb).2.2⟩, fun b hb => ?_, ?_, h.q1, h.bel.trans (hf.below (by omega) (fun b hb => (h.y.row.own b hb).1) h.bel.size)⟩
  · rcases hb with rfl | hb
    · exact hf.block _ h.x.lt (by omega) (fun e => (h.a2 _ e.symm).1 rfl)
    · exact hf.block b (h.x.row.own b hb).2 (h.a1 b hb).1 (fun e => (h.a1 b hb).2.1 e.symm)
  · rcases ho b e with e' | e'
    · exact (h.a1 b hb).2.1 e'
    · have := (h.x.row.own b hb).2; omega
  · rcases ho b hb with e | e
    · exact h.a2 b e
    · refine ⟨?_, ?_⟩
      · have := h.x.lt; omega
      · have := lt_of_block h.hq; omega
  · exact (hf.block q (lt_of_block h.hq) h.q1.2 (fun e => (h.a2 q e.symm).2 rfl)).trans h.hq
/-- both logs alone -/
structure P2 (w0 w : World) (v1 v2 : Value) (l : List Ent) : Prop where
  x : LI 78 w0.heap.size w0.heap.size w v1 l
  y : LI 43 w0.heap.size (w0.heap.size + 1) w v2 l
  a1 : ∀ b, v1.ownBlock = some b → b ≠ w0.heap.size + 1 ∧ v2.ownBlock ≠ some b
  a2 : ∀ b, v2.ownBlock = some b → b ≠ w0.heap.size
  bel : Below w0.heap.size w0 w
  val : Val l
theorem P2.new (w : World) : P2 w ((w.alloc (.cells #[.slice none 0 0] 78)).alloc (.cells #[.slice none 0 0] 43)) (.slice none 0 0) (.slice none 0 0) [] := by
  have e1 : (w.alloc (.cells #[.slice none 0 0] 78)).heap.size = w.heap.size + 1 := by show (w.heap.push _).size = _; simp
  refine ⟨(LI.new 78 w _ (Nat.le_refl _)).below (below_alloc _ _), ?_, fun b hb => (by cases hb), fun b hb => (by cases hb), (below_alloc w _).next (below_alloc _ _), Val.nil⟩
  have := LI.new 43 (w.alloc (.cells #[.slice none 0 0] 78)) w.heap.size (by omega)
  rw [e1] at this
  exact this
theorem P2.hold {w0 w : World} {v1 v2 : Value} {l : List Ent} (h : P2 w0 w v1 v2 l) (o' : Obj) : PS w0 w.heap.size o' (w.alloc o') v1 v2 l l := by
  have k := below_alloc w o'
  refine ⟨h.x.below k, h.y.below k, fun b hb => ⟨(h.a1 b hb).1, (h.a1 b hb).2, ?_⟩, fun b hb => ⟨h.a2 b hb, ?_⟩, box_at w o', ⟨?_, ?_⟩, h.bel.next k⟩
  · have := (h.x.row.own b hb).2; omega
  · have := (h.y.row.own b hb).2; omega
  · have := h.x.lt; omega
  · have := h.y.lt; omega
theorem PS.two {w0 : World} {q : Nat} {o : Obj} {w : World} {v1 v2 : Value} {l : List Ent} (h : PS w0 q o w v1 v2 l l) (hv : Val l) : P2 w0 w v1 v2 l :=
  ⟨h.x, h.y, fun b hb => ⟨(h.a1 b hb).1, (h.a1 b hb).2.1⟩, fun b hb => (h.a2 b hb).1, h.bel, hv⟩
/-- a step's block -/
def stO (s : Stp) : Obj := .cells #[.int .i64 s.k, .int .i64 s.n, .int .i64 s.e.V, .int .i64 s.e.C, .int .i64 s.e.R, .int .i64 s.e.K, .int .i64 s.e.A, .int .i64 s.e.N, .string s.e.p, .string s.e.t, .string s.e.d, s.lv] 45
theorem stO_cells {w : World} {q : Nat} {k n V C R K A N : Int} {p t d : ByteArray} {lv : Value} {L : List Ent} (h : w.heap[q]? = some (stO ⟨k, n, ⟨V, C, R, K, A, N, p, t, d⟩, lv, L⟩)) :
    w.cell? ⟨q, 0, none⟩ = some (.int .i64 k) ∧ w.cell? ⟨q, 1, none⟩ = some (.int .i64 n) ∧ w.cell? ⟨q, 2, none⟩ = some (.int .i64 V) ∧ w.cell? ⟨q, 3, none⟩ = some (.int .i64 C) ∧ w.cell? ⟨q, 4, none⟩ = some (.int .i64 R) ∧ w.cell? ⟨q, 5, none⟩ = some (.int .i64 K) ∧ w.cell? ⟨q, 6, none⟩ = some (.int .i64 A) ∧ w.cell? ⟨q, 7, none⟩ = some (.int .i64 N) ∧ w.cell? ⟨q, 8, none⟩ = some (.string p) ∧ w.cell? ⟨q, 9, none⟩ = some (.string t) ∧ w.cell? ⟨q, 10, none⟩ = some (.string d) ∧ w.cell? ⟨q, 11, none⟩ = some lv := by
  unfold stO at h
  simp [World.cell?, h]
end Go.Proofs.Ytcaedajbkdploaa
