import Derived.Test.YtjphfpfagnhelaaMf
import Derived.Laws.CopyRow
import Derived.Laws.ResultCell
namespace Go.Proofs.Ytjphfpfagnhelaa
open Go.RowKit Go.Maps Go.Shelf

theorem load24 {q : Nat} {w : World} {K V N A C : Int} {sl : Value} (h : MBox q w K V N A C sl) : (loadVar 24 ⟨q, 0, none⟩).run Try.prog w = .ok (.agg #[.int .i64 K, .int .i64 V, .int .i64 N, .int .i64 A, .int .i64 C, sl]) w := by
  obtain ⟨c0, c1, c2, c3, c4, c5⟩ := h.cells
  have a24 := Try.isAgg24
  have z24 := Try.sizeOf24
  go_simp
theorem store24 {q : Nat} {w : World} {K V N A C : Int} {sl : Value} {K' V' N' A' C' : Int} {sl' : Value} (h : MBox q w K V N A C sl) (hs1 : sl'.oneCell' = true) : ∃ w', (Instr.storeAt 24 (.pointer (some ⟨q, 0, none⟩)) (.agg #[.int .i64 K', .int .i64 V', .int .i64 N', .int .i64 A', .int .i64 C', sl'])).run Try.prog w = .ok () w' ∧ MBox q w' K' V' N' A' C' sl' ∧ Kept w.heap.size q w w' := by
  have hs := run_storeCells_at Try.prog q 0 24 [.int .i64 K', .int .i64 V', .int .i64 N', .int .i64 A', .int .i64 C', sl'] 0 _ w h (by simp) (by intro v hv; simp at hv; rcases hv with rfl | rfl | rfl | rfl | rfl | rfl <;> first | rfl | exact hs1)
  simp only [List.take_zero, List.nil_append, Nat.zero_add, List.length_cons, List.length_nil] at hs
  rw [List.drop_of_length_le (by simp), List.append_nil] at hs
  refine ⟨w.setRow q [.int .i64 K', .int .i64 V', .int .i64 N', .int .i64 A', .int .i64 C', sl'].toArray, ?_, ?_, ?_⟩
  rotate_left
  · exact setRow_heap w q _ [.int .i64 K', .int .i64 V', .int .i64 N', .int .i64 A', .int .i64 C', sl'].toArray 24 (0, 0) h
  · refine ⟨rfl, rfl, rfl, ?_, fun j _ hj => ?_⟩
    · show w.heap.size ≤ (w.heap.modify q _).size
      rw [Array.size_modify]
      exact Nat.le_refl _
    · show (w.heap.modify q _)[j]? = _
      rw [Array.getElem?_modify, if_neg (fun e => hj e.symm)]
  · have z24 := Try.sizeOf24
    have h2 : (Instr.sureAddr (.pointer (some ⟨q, 0, none⟩))).run Try.prog w = .ok ⟨q, 0, none⟩ w := by simp [Instr.sureAddr]
    simp only [Instr.storeAt, Sem.run_bind, h2, Result.andThen_ok, storeVar, z24, Value.cells]
    simp only [List.size_toArray, List.length_cons, List.length_nil, ne_eq, not_true_eq_false, if_false]
    exact hs
/-- to store a whole message -/
theorem at_store24 {ops : Array Oper} {rest : List Oper} {p x : Operand} {ty : TypeId} {pos : String} {aft : Array Edge} {a : Act} {Q : Exit → Act → World → Prop} {w : World} (q : Nat) {K V N A C : Int} {sl : Value} (K' V' N' A' C' : Int) (sl' : Value) (hp : a.eval p = .pointer (some ⟨q, 0, none⟩)) (hx : a.eval x = .agg #[.int .i64 K', .int .i64 V', .int .i64 N', .int .i64 A', .int .i64 C', sl']) (hb : MBox q w K V N A C sl) (hs : sl'.oneCell' = true)
    (hK : ∀ w', MBox q w' K' V' N' A' C' sl' → Kept w.heap.size q w w' → wpList Try.prog ops Q rest a w') :
    wpList Try.prog ops Q ({ dst := none, op := Op.store 24 p x, type := ty, pos := pos, after := aft, guard := none } :: rest) a w := by
  refine wpList_plain rfl fun K1 hK1 => ?_
  obtain ⟨w', hrun, r1, r2⟩ := store24 (K' := K') (V' := V') (N' := N') (A' := A') (C' := C') hb hs
  unfold Oper.wp
  simp [execOp, hp, hx, hrun, Result.andThen]
  exact hK1 _ _ (hK w' r1 r2)
theorem ret24 {a : Act} {w : World} {R : Nat} {K V N A C : Int} {sl : Value} {post : Ending → World → Prop} (hb : MBox R w K V N A C sl) (h2 : a.tmps.getD 2 undef = .pointer (some ⟨R, 0, none⟩)) (hd : a.defers = []) (hp : post (.returned (.agg #[.int .i64 K, .int .i64 V, .int .i64 N, .int .i64 A, .int .i64 C, sl])) w) : bodyPost Try.prog Try.f24 post .ret a w := by
  refine bodyPost_ret (v := .agg #[.int .i64 K, .int .i64 V, .int .i64 N, .int .i64 A, .int .i64 C, sl]) ?_ hd hp
  simp only [results, show Try.f24.results = #[.cell 2 24] from rfl]
  rw [Array.getD_eq_getD_getElem?] at h2
  simp [h2, asAddr, load24 hb]
theorem ret10 {a : Act} {w : World} {R : Nat} {K V N A C e : Int} {sl : Value} {post : Ending → World → Prop} (hb : MBox R w K V N A C sl) (h2 : a.tmps.getD 2 undef = .pointer (some ⟨R, 0, none⟩)) (h3 : a.tmps.getD 3 undef = .int .i64 e) (hd : a.defers = []) (hp : post (.returned (.tuple #[.agg #[.int .i64 K, .int .i64 V, .int .i64 N, .int .i64 A, .int .i64 C, sl], .int .i64 e])) w) : bodyPost Try.prog Try.f10 post .ret a w := by
  refine bodyPost_ret (v := .tuple #[.agg #[.int .i64 K, .int .i64 V, .int .i64 N, .int .i64 A, .int .i64 C, sl], .int .i64 e]) ?_ hd hp
  simp only [results, show Try.f10.results = #[.cell 2 24, .tmp 3] from rfl]
  rw [Array.getD_eq_getD_getElem?] at h2 h3
  simp [h2, h3, asAddr, load24 hb]
end Go.Proofs.Ytjphfpfagnhelaa
