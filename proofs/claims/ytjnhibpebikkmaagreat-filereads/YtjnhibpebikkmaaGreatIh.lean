import Derived.Test.YtjnhibpebikkmaaGreatIf
import Derived.Laws.CopyRow
import Derived.Laws.ResultCell
import Derived.Maps.OwnSet
namespace Go.Proofs.YtjnhibpebikkmaaGreat
open Go.RowKit

theorem Box.free {q : Nat} {w : World} {n : Ino} (h : Box q w n) (i : Nat) : w.frozen? ⟨q, i, none⟩ = false := by
  unfold Box at h
  simp [World.frozen?, h]
theorem Box.lt {q : Nat} {w : World} {n : Ino} (h : Box q w n) : q < w.heap.size := lt_of_block h
theorem Box.kept {q g B : Nat} {w w' : World} {n : Ino} (h : Box q w n) (k : Kept B g w w') (hb : q < B) (hg : q ≠ g) : Box q w' n := (k.block q hb hg).trans h
theorem set_at {w : World} {g : Nat} {cs : Array Value} {t : TypeId} (h : w.heap[g]? = some (.cells cs t (0, 0))) (i : Nat) (v : Value) : (w.setCell ⟨g, i, none⟩ v).heap[g]? = some (.cells (cs.setIfInBounds i v) t (0, 0)) := by
  have hlt := lt_of_block h
  have h' : w.heap[g] = .cells cs t (0, 0) := by simpa [Array.getElem?_eq_getElem hlt] using h
  show (w.heap.modify g _)[g]? = _
  rw [Array.getElem?_eq_getElem (by simpa using hlt), Array.getElem_modify_self, h']
  rfl
theorem set_off {w : World} {g k : Nat} (i : Nat) (v : Value) (h : k ≠ g) : (w.setCell ⟨g, i, none⟩ v).heap[k]? = w.heap[k]? := Below.heap_setCell _ _ _ _ h
theorem kept_set (w : World) (g i : Nat) (v : Value) : Kept w.heap.size g w (w.setCell ⟨g, i, none⟩ v) := (Kept.refl _ g w).setCell i v
theorem Box.set0 {q : Nat} {w : World} {k l z a b c d e f s t : Int} (h : Box q w ⟨k, l, z, a, b, c, d, e, f, s, t⟩) (v : Int) : Box q (w.setCell ⟨q, 0, none⟩ (.int .i64 v)) ⟨v, l, z, a, b, c, d, e, f, s, t⟩ := set_at h 0 _
theorem Box.set1 {q : Nat} {w : World} {k l z a b c d e f s t : Int} (h : Box q w ⟨k, l, z, a, b, c, d, e, f, s, t⟩) (v : Int) : Box q (w.setCell ⟨q, 1, none⟩ (.int .i64 v)) ⟨k, v, z, a, b, c, d, e, f, s, t⟩ := set_at h 1 _
theorem Box.set2 {q : Nat} {w : World} {k l z a b c d e f s t : Int} (h : Box q w ⟨k, l, z, a, b, c, d, e, f, s, t⟩) (v : Int) : Box q (w.setCell ⟨q, 2, none⟩ (.int .i64 v)) ⟨k, l, v, a, b, c, d, e, f, s, t⟩ := set_at h 2 _
theorem Box.set3 {q : Nat} {w : World} {k l z a b c d e f s t : Int} (h : Box q w ⟨k, l, z, a, b, c, d, e, f, s, t⟩) (v : Int) : Box q (w.setCell ⟨q, 3, none⟩ (.int .i64 v)) ⟨k, l, z, v, b, c, d, e, f, s, t⟩ := set_at h 3 _
theorem Box.set4 {q : Nat} {w : World} {k l z a b c d e f s t : Int} (h : Box q w ⟨k, l, z, a, b, c, d, e, f, s, t⟩) (v : Int) : Box q (w.setCell ⟨q, 4, none⟩ (.int .i64 v)) ⟨k, l, z, a, v, c, d, e, f, s, t⟩ := set_at h 4 _
theorem Box.set5 {q : Nat} {w : World} {k l z a b c d e f s t : Int} (h : Box q w ⟨k, l, z, a, b, c, d, e, f, s, t⟩) (v : Int) : Box q (w.setCell ⟨q, 5, none⟩ (.int .i64 v)) ⟨k, l, z, a, b, v, d, e, f, s, t⟩ := set_at h 5 _
theorem Box.set6 {q : Nat} {w : World} {k l z a b c d e f s t : Int} (h : Box q w ⟨k, l, z, a, b, c, d, e, f, s, t⟩) (v : Int) : Box q (w.setCell ⟨q, 6, none⟩ (.int .i64 v)) ⟨k, l, z, a, b, c, v, e, f, s, t⟩ := set_at h 6 _
theorem Box.set7 {q : Nat} {w : World} {k l z a b c d e f s t : Int} (h : Box q w ⟨k, l, z, a, b, c, d, e, f, s, t⟩) (v : Int) : Box q (w.setCell ⟨q, 7, none⟩ (.int .i64 v)) ⟨k, l, z, a, b, c, d, v, f, s, t⟩ := set_at h 7 _
theorem Box.set8 {q : Nat} {w : World} {k l z a b c d e f s t : Int} (h : Box q w ⟨k, l, z, a, b, c, d, e, f, s, t⟩) (v : Int) : Box q (w.setCell ⟨q, 8, none⟩ (.int .i64 v)) ⟨k, l, z, a, b, c, d, e, v, s, t⟩ := set_at h 8 _
theorem Box.set9 {q : Nat} {w : World} {k l z a b c d e f s t : Int} (h : Box q w ⟨k, l, z, a, b, c, d, e, f, s, t⟩) (v : Int) : Box q (w.setCell ⟨q, 9, none⟩ (.int .i64 v)) ⟨k, l, z, a, b, c, d, e, f, v, t⟩ := set_at h 9 _
theorem Box.set10 {q : Nat} {w : World} {k l z a b c d e f s t : Int} (h : Box q w ⟨k, l, z, a, b, c, d, e, f, s, t⟩) (v : Int) : Box q (w.setCell ⟨q, 10, none⟩ (.int .i64 v)) ⟨k, l, z, a, b, c, d, e, f, s, v⟩ := set_at h 10 _
/-- the names in memory -/
def Nbx (p : Nat) (w : World) (a b c d e f s t : Int) : Prop := w.heap[p]? = some (.cells #[.int .i64 a, .int .i64 b, .int .i64 c, .int .i64 d, .int .i64 e, .int .i64 f, .int .i64 s, .int .i64 t] 110 (0, 0))
theorem Nbx.cells {p : Nat} {w : World} {a b c d e f s t : Int} (h : Nbx p w a b c d e f s t) : w.cell? ⟨p, 0, none⟩ = some (.int .i64 a) ∧ w.cell? ⟨p, 1, none⟩ = some (.int .i64 b) ∧ w.cell? ⟨p, 2, none⟩ = some (.int .i64 c) ∧ w.cell? ⟨p, 3, none⟩ = some (.int .i64 d) ∧ w.cell? ⟨p, 4, none⟩ = some (.int .i64 e) ∧ w.cell? ⟨p, 5, none⟩ = some (.int .i64 f) ∧ w.cell? ⟨p, 6, none⟩ = some (.int .i64 s) ∧ w.cell? ⟨p, 7, none⟩ = some (.int .i64 t) := by
  unfold Nbx at h
  simp [World.cell?, h]
theorem Nbx.free {p : Nat} {w : World} {a b c d e f s t : Int} (h : Nbx p w a b c d e f s t) (i : Nat) : w.frozen? ⟨p, i, none⟩ = false := by
  unfold Nbx at h
  simp [World.frozen?, h]
theorem Nbx.set0 {p : Nat} {w : World} {a b c d e f s t : Int} (h : Nbx p w a b c d e f s t) (v : Int) : Nbx p (w.setCell ⟨p, 0, none⟩ (.int .i64 v)) v b c d e f s t := set_at h 0 _
theorem Nbx.set1 {p : Nat} {w : World} {a b c d e f s t : Int} (h : Nbx p w a b c d e f s t) (v : Int) : Nbx p (w.setCell ⟨p, 1, none⟩ (.int .i64 v)) a v c d e f s t := set_at h 1 _
theorem Nbx.set2 {p : Nat} {w : World} {a b c d e f s t : Int} (h : Nbx p w a b c d e f s t) (v : Int) : Nbx p (w.setCell ⟨p, 2, none⟩ (.int .i64 v)) a b v d e f s t := set_at h 2 _
theorem Nbx.set3 {p : Nat} {w : World} {a b c d e f s t : Int} (h : Nbx p w a b c d e f s t) (v : Int) : Nbx p (w.setCell ⟨p, 3, none⟩ (.int .i64 v)) a b c v e f s t := set_at h 3 _
theorem Nbx.set4 {p : Nat} {w : World} {a b c d e f s t : Int} (h : Nbx p w a b c d e f s t) (v : Int) : Nbx p (w.setCell ⟨p, 4, none⟩ (.int .i64 v)) a b c d v f s t := set_at h 4 _
theorem Nbx.set5 {p : Nat} {w : World} {a b c d e f s t : Int} (h : Nbx p w a b c d e f s t) (v : Int) : Nbx p (w.setCell ⟨p, 5, none⟩ (.int .i64 v)) a b c d e v s t := set_at h 5 _
theorem Nbx.set6 {p : Nat} {w : World} {a b c d e f s t : Int} (h : Nbx p w a b c d e f s t) (v : Int) : Nbx p (w.setCell ⟨p, 6, none⟩ (.int .i64 v)) a b c d e f v t := set_at h 6 _
theorem Nbx.set7 {p : Nat} {w : World} {a b c d e f s t : Int} (h : Nbx p w a b c d e f s t) (v : Int) : Nbx p (w.setCell ⟨p, 7, none⟩ (.int .i64 v)) a b c d e f s v := set_at h 7 _
theorem load24 {q : Nat} {w : World} {n : Ino} (h : Box q w n) : (loadVar 33 ⟨q, 0, none⟩).run Tryz.prog w = .ok n.v w := by
  obtain ⟨k, l, z, a, b, c, d, e, f, s, t⟩ := n
  obtain ⟨c0, c1, c2, c3, c4, c5, c6, c7, c8, c9, c10⟩ := h.cells
  have a24 := Tryz.isAgg33
  have z24 := Tryz.sizeOf33
  simp only [Ino.v]
  go_simp
theorem store24 {q : Nat} {w : World} {n m : Ino} (h : Box q w n) : ∃ w', (Instr.storeAt 33 (.pointer (some ⟨q, 0, none⟩)) m.v).run Tryz.prog w = .ok () w' ∧ Box q w' m ∧ Kept w.heap.size q w w' := by
  have hs := run_storeCells_at Tryz.prog q 0 33 [.int .i64 m.k, .int .i64 m.l, .int .i64 m.z, .int .i64 m.a, .int .i64 m.b, .int .i64 m.c, .int .i64 m.d, .int .i64 m.e, .int .i64 m.f, .int .i64 m.s, .int .i64 m.t] 0 _ w h (by simp) (by intro v hv; simp at hv; rcases hv with rfl | rfl | rfl | rfl | rfl | rfl | rfl | rfl | rfl | rfl | rfl <;> rfl)
  simp only [List.take_zero, List.nil_append, Nat.zero_add, List.length_cons, List.length_nil] at hs
  rw [List.drop_of_length_le (by simp), List.append_nil] at hs
  refine ⟨w.setRow q #[.int .i64 m.k, .int .i64 m.l, .int .i64 m.z, .int .i64 m.a, .int .i64 m.b, .int .i64 m.c, .int .i64 m.d, .int .i64 m.e, .int .i64 m.f, .int .i64 m.s, .int .i64 m.t], ?_, ?_, ?_⟩
  rotate_left
  · exact setRow_heap w q _ #[.int .i64 m.k, .int .i64 m.l, .int .i64 m.z, .int .i64 m.a, .int .i64 m.b, .int .i64 m.c, .int .i64 m.d, .int .i64 m.e, .int .i64 m.f, .int .i64 m.s, .int .i64 m.t] 33 (0, 0) h
  · refine ⟨rfl, rfl, rfl, ?_, fun j _ hj => ?_⟩
    · show w.heap.size ≤ (w.heap.modify q _).size
      rw [Array.size_modify]
      exact Nat.le_refl _
    · show (w.heap.modify q _)[j]? = _
      rw [Array.getElem?_modify, if_neg (fun e => hj e.symm)]
  · have z24 := Tryz.sizeOf33
    have h2 : (Instr.sureAddr (.pointer (some ⟨q, 0, none⟩))).run Tryz.prog w = .ok ⟨q, 0, none⟩ w := by simp [Instr.sureAddr]
    simp only [Instr.storeAt, Ino.v, Sem.run_bind, h2, Result.andThen_ok, storeVar, z24, Value.cells]
    simp only [List.size_toArray, List.length_cons, List.length_nil, ne_eq, not_true_eq_false, if_false]
    exact hs
/-- to store a whole inode -/
theorem at_store24 {ops : Array Oper} {rest : List Oper} {p x : Operand} {ty : TypeId} {pos : String} {aft : Array Edge} {a : Act} {Q : Exit → Act → World → Prop} {w : World} (q : Nat) (n m : Ino) (hp : a.eval p = .pointer (some ⟨q, 0, none⟩)) (hx : a.eval x = m.v) (hb : Box q w n)
    (hK : ∀ w', Box q w' m → Kept w.heap.size q w w' → wpList Tryz.prog ops Q rest a w') :
    wpList Tryz.prog ops Q ({ dst := none, op := Op.store 33 p x, type := ty, pos := pos, after := aft, guard := none } :: rest) a w := by
  refine wpList_plain rfl fun K' hK' => ?_
  obtain ⟨w', hrun, r1, r2⟩ := store24 (m := m) hb
  unfold Oper.wp
  simp [execOp, hp, hx, hrun, Result.andThen]
  exact hK' _ _ (hK w' r1 r2)
set_option maxRecDepth 100000 in
set_option maxHeartbeats 2000000 in
theorem in_any (a b c d e f s t k l z a1 b1 c1 d1 e1 f1 s1 t1 : Int) (w : World) : Calls Tryz.prog 93 #[.agg #[.int .i64 a, .int .i64 b, .int .i64 c, .int .i64 d, .int .i64 e, .int .i64 f, .int .i64 s, .int .i64 t], .agg #[.int .i64 k, .int .i64 l, .int .i64 z, .int .i64 a1, .int .i64 b1, .int .i64 c1, .int .i64 d1, .int .i64 e1, .int .i64 f1, .int .i64 s1, .int .i64 t1]] w fun x w' => x = .returned (.agg #[.int .i64 k, .int .i64 l, .int .i64 z, .int .i64 a, .int .i64 b, .int .i64 c, .int .i64 d, .int .i64 e, .int .i64 f, .int .i64 s, .int .i64 t]) ∧ Below w.heap.size w w' := by
  go_enter Tryz.func93, Tryz.ntmps93
  go_wp2
  go_rounds 7
  go_region
  all_goals
    go_wp2
    go_returns
    exact ⟨rfl, by go_grown⟩
end Go.Proofs.YtjnhibpebikkmaaGreat
