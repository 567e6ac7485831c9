import Derived.Test.YtjphfpfagnhelaaEc
namespace Go.Proofs.Ytjphfpfagnhelaa
open Go.RowKit

theorem set_at {w : World} {g : Nat} {cs : Array Value} {t : TypeId} (h : w.heap[g]? = some (.cells cs t (0, 0))) (i : Nat) (v : Value) : (w.setCell ⟨g, i, none⟩ v).heap[g]? = some (.cells (cs.setIfInBounds i v) t (0, 0)) := by
  have hlt := lt_of_block h
  have h' : w.heap[g] = .cells cs t (0, 0) := by simpa [Array.getElem?_eq_getElem hlt] using h
  show (w.heap.modify g _)[g]? = _
  rw [Array.getElem?_eq_getElem (by simpa using hlt), Array.getElem_modify_self, h']
  rfl
theorem set_off {w : World} {g k : Nat} (i : Nat) (v : Value) (h : k ≠ g) : (w.setCell ⟨g, i, none⟩ v).heap[k]? = w.heap[k]? := Below.heap_setCell _ _ _ _ h
theorem kept_set (w : World) (g i : Nat) (v : Value) : Kept w.heap.size g w (w.setCell ⟨g, i, none⟩ v) := (Kept.refl _ g w).setCell i v
theorem Box.set0 {q : Nat} {w : World} {V C R K A N : Int} {p t d : ByteArray} (h : Box q w ⟨V, C, R, K, A, N, p, t, d⟩) (v : Int) : Box q (w.setCell ⟨q, 0, none⟩ (.int .i64 v)) ⟨v, C, R, K, A, N, p, t, d⟩ := set_at h 0 _
theorem Box.set1 {q : Nat} {w : World} {V C R K A N : Int} {p t d : ByteArray} (h : Box q w ⟨V, C, R, K, A, N, p, t, d⟩) (v : Int) : Box q (w.setCell ⟨q, 1, none⟩ (.int .i64 v)) ⟨V, v, R, K, A, N, p, t, d⟩ := set_at h 1 _
theorem Box.set2 {q : Nat} {w : World} {V C R K A N : Int} {p t d : ByteArray} (h : Box q w ⟨V, C, R, K, A, N, p, t, d⟩) (v : Int) : Box q (w.setCell ⟨q, 2, none⟩ (.int .i64 v)) ⟨V, C, v, K, A, N, p, t, d⟩ := set_at h 2 _
theorem Box.set3 {q : Nat} {w : World} {V C R K A N : Int} {p t d : ByteArray} (h : Box q w ⟨V, C, R, K, A, N, p, t, d⟩) (v : Int) : Box q (w.setCell ⟨q, 3, none⟩ (.int .i64 v)) ⟨V, C, R, v, A, N, p, t, d⟩ := set_at h 3 _
theorem Box.set4 {q : Nat} {w : World} {V C R K A N : Int} {p t d : ByteArray} (h : Box q w ⟨V, C, R, K, A, N, p, t, d⟩) (v : Int) : Box q (w.setCell ⟨q, 4, none⟩ (.int .i64 v)) ⟨V, C, R, K, v, N, p, t, d⟩ := set_at h 4 _
theorem Box.set5 {q : Nat} {w : World} {V C R K A N : Int} {p t d : ByteArray} (h : Box q w ⟨V, C, R, K, A, N, p, t, d⟩) (v : Int) : Box q (w.setCell ⟨q, 5, none⟩ (.int .i64 v)) ⟨V, C, R, K, A, v, p, t, d⟩ := set_at h 5 _
theorem Box.set6 {q : Nat} {w : World} {V C R K A N : Int} {p t d : ByteArray} (h : Box q w ⟨V, C, R, K, A, N, p, t, d⟩) (v : ByteArray) : Box q (w.setCell ⟨q, 6, none⟩ (.string v)) ⟨V, C, R, K, A, N, v, t, d⟩ := set_at h 6 _
theorem Box.set7 {q : Nat} {w : World} {V C R K A N : Int} {p t d : ByteArray} (h : Box q w ⟨V, C, R, K, A, N, p, t, d⟩) (v : ByteArray) : Box q (w.setCell ⟨q, 7, none⟩ (.string v)) ⟨V, C, R, K, A, N, p, v, d⟩ := set_at h 7 _
theorem Box.set8 {q : Nat} {w : World} {V C R K A N : Int} {p t d : ByteArray} (h : Box q w ⟨V, C, R, K, A, N, p, t, d⟩) (v : ByteArray) : Box q (w.setCell ⟨q, 8, none⟩ (.string v)) ⟨V, C, R, K, A, N, p, t, v⟩ := set_at h 8 _
theorem load25 {q : Nat} {w : World} {n : Ent} (h : Box q w n) : (loadVar 54 ⟨q, 0, none⟩).run Try.prog w = .ok n.v w := by
  obtain ⟨V, C, R, K, A, N, p, t, d⟩ := n
  obtain ⟨c0, c1, c2, c3, c4, c5, c6, c7, c8⟩ := h.cells
  have a24 := Try.isAgg54
  have z24 := Try.sizeOf54
  simp only [Ent.v]
  go_simp
def Ent.cs (m : Ent) : List Value := [.int .i64 m.V, .int .i64 m.C, .int .i64 m.R, .int .i64 m.K, .int .i64 m.A, .int .i64 m.N, .string m.p, .string m.t, .string m.d]
theorem store25 {q : Nat} {w : World} {n m : Ent} (h : Box q w n) : ∃ w', (Instr.storeAt 54 (.pointer (some ⟨q, 0, none⟩)) m.v).run Try.prog w = .ok () w' ∧ Box q w' m ∧ Kept w.heap.size q w w' := by
  have hs := run_storeCells_at Try.prog q 0 54 m.cs 0 _ w h (by simp [Ent.cs]) (by intro v hv; simp [Ent.cs] at hv; rcases hv with rfl | rfl | rfl | rfl | rfl | rfl | rfl | rfl | rfl <;> rfl)
  simp only [Ent.cs, List.take_zero, List.nil_append, Nat.zero_add, List.length_cons, List.length_nil] at hs
  rw [List.drop_of_length_le (by simp), List.append_nil] at hs
  refine ⟨w.setRow q m.cs.toArray, ?_, ?_, ?_⟩
  rotate_left
  · exact setRow_heap w q _ m.cs.toArray 54 (0, 0) h
  · refine ⟨rfl, rfl, rfl, ?_, fun j _ hj => ?_⟩
    · show w.heap.size ≤ (w.heap.modify q _).size
      rw [Array.size_modify]
      exact Nat.le_refl _
    · show (w.heap.modify q _)[j]? = _
      rw [Array.getElem?_modify, if_neg (fun e => hj e.symm)]
  · have z24 := Try.sizeOf54
    have h2 : (Instr.sureAddr (.pointer (some ⟨q, 0, none⟩))).run Try.prog w = .ok ⟨q, 0, none⟩ w := by simp [Instr.sureAddr]
    simp only [Instr.storeAt, Ent.v, Sem.run_bind, h2, Result.andThen_ok, storeVar, z24, Value.cells]
    simp only [List.size_toArray, List.length_cons, List.length_nil, ne_eq, not_true_eq_false, if_false]
    exact hs
/-- to store a whole entry -/
theorem at_store25 {ops : Array Oper} {rest : List Oper} {p x : Operand} {ty : TypeId} {pos : String} {aft : Array Edge} {a : Act} {Q : Exit → Act → World → Prop} {w : World} (q : Nat) (n m : Ent) (hp : a.eval p = .pointer (some ⟨q, 0, none⟩)) (hx : a.eval x = m.v) (hb : Box q w n)
    (hK : ∀ w', Box q w' m → Kept w.heap.size q w w' → wpList Try.prog ops Q rest a w') :
    wpList Try.prog ops Q ({ dst := none, op := Op.store 54 p x, type := ty, pos := pos, after := aft, guard := none } :: rest) a w := by
  refine wpList_plain rfl fun K' hK' => ?_
  obtain ⟨w', hrun, r1, r2⟩ := store25 (m := m) hb
  unfold Oper.wp
  simp [execOp, hp, hx, hrun, Result.andThen]
  exact hK' _ _ (hK w' r1 r2)
theorem results_cell_tmp2 {fn : Func} {p u v : Tmp} {ty : TypeId} (h : fn.results = #[.cell p ty, .tmp u, .tmp v]) (tmps : Array Value) (P : Program) (w : World) :
    (results fn tmps).run P w =
      ((asAddr (tmps.getD p undef)).run P w).andThen fun a w₁ => ((loadVar ty a).run P w₁).andThen fun x w₂ => .ok (.tuple #[x, tmps.getD u undef, tmps.getD v undef]) w₂ := by
  simp only [results, h]
  simp [Sem.run_bind, Result.andThen]
theorem ret3 {fn : Func} (hf : fn.results = #[.cell 2 54, .tmp 3, .tmp 4]) {a : Act} {w : World} {R : Nat} {m : Ent} {n e : Int} {post : Ending → World → Prop} (hb : Box R w m) (h2 : a.tmps.getD 2 undef = .pointer (some ⟨R, 0, none⟩)) (h3 : a.tmps.getD 3 undef = .int .i64 n) (h4 : a.tmps.getD 4 undef = .int .i64 e) (hd : a.defers = []) (hp : post (.returned (.tuple #[m.v, .int .i64 n, .int .i64 e])) w) : bodyPost Try.prog fn post .ret a w := by
  refine bodyPost_ret (v := .tuple #[m.v, .int .i64 n, .int .i64 e]) ?_ hd hp
  rw [results_cell_tmp2 (p := 2) (u := 3) (v := 4) (ty := 54) hf, h2, h3, h4]
  simp [asAddr, Result.andThen, load25 hb]
theorem Box.drew {q : Nat} {w : World} {x : Ent} (h : Box q w x) : Box q w.drew x := h
theorem Box.setAll {q : Nat} {w : World} {x : Ent} (h : Box q w x) (n1 n2 n3 n4 n5 n6 : Int) (n7 n8 n9 : ByteArray) : Box q (((((((((w.setCell ⟨q, 0, none⟩ (.int .i64 n1)).setCell ⟨q, 1, none⟩ (.int .i64 n2)).setCell ⟨q, 2, none⟩ (.int .i64 n3)).setCell ⟨q, 3, none⟩ (.int .i64 n4)).setCell ⟨q, 4, none⟩ (.int .i64 n5)).setCell ⟨q, 5, none⟩ (.int .i64 n6)).setCell ⟨q, 6, none⟩ (.string n7)).setCell ⟨q, 7, none⟩ (.string n8)).setCell ⟨q, 8, none⟩ (.string n9)) ⟨n1, n2, n3, n4, n5, n6, n7, n8, n9⟩ := by
  obtain ⟨V, C, R, K, A, N, p, t, d⟩ := x
  exact (((((((((h.set0 n1).set1 n2).set2 n3).set3 n4).set4 n5).set5 n6).set6 n7).set7 n8).set8 n9)
theorem below_setAll {B q : Nat} {w0 w : World} (h : Below B w0 w) (hq : B ≤ q) (n1 n2 n3 n4 n5 n6 : Int) (n7 n8 n9 : ByteArray) : Below B w0 (((((((((w.setCell ⟨q, 0, none⟩ (.int .i64 n1)).setCell ⟨q, 1, none⟩ (.int .i64 n2)).setCell ⟨q, 2, none⟩ (.int .i64 n3)).setCell ⟨q, 3, none⟩ (.int .i64 n4)).setCell ⟨q, 4, none⟩ (.int .i64 n5)).setCell ⟨q, 5, none⟩ (.int .i64 n6)).setCell ⟨q, 6, none⟩ (.string n7)).setCell ⟨q, 7, none⟩ (.string n8)).setCell ⟨q, 8, none⟩ (.string n9)) := (((((((((h.setCell hq _).setCell hq _).setCell hq _).setCell hq _).setCell hq _).setCell hq _).setCell hq _).setCell hq _).setCell hq _)
theorem ret40 {a : Act} {w : World} {R : Nat} {m : Ent} {n e : Int} {post : Ending → World → Prop} (hb : Box R w m) (h2 : a.tmps.getD 2 undef = .pointer (some ⟨R, 0, none⟩)) (h3 : a.tmps.getD 3 undef = .int .i64 n) (h4 : a.tmps.getD 4 undef = .int .i64 e) (hd : a.defers = []) (hp : post (.returned (.tuple #[m.v, .int .i64 n, .int .i64 e])) w) : bodyPost Try.prog Try.f62 post .ret a w := ret3 rfl hb h2 h3 h4 hd hp
/-- while an entry is read -/
structure DS (w0 : World) (R g q : Nat) (w : World) (s : ByteArray) (e : Int) (x : Ent) : Prop where
  rd : RIs g w s e
  res : Box R w Ent.zero
  box : Box q w x
  Rg : R ≠ g
  Rq : R ≠ q
  gq : g ≠ q
  lR : w0.heap.size ≤ R
  lg : w0.heap.size ≤ g
  lq : w0.heap.size ≤ q
  bel : Below w0.heap.size w0 w
theorem DS.rdstep {w0 w w' : World} {R g q : Nat} {s s' : ByteArray} {e e' : Int} {x : Ent} (h : DS w0 R g q w s e x) (hr : RIs g w' s' e') (hk : Kept w.heap.size g w w') : DS w0 R g q w' s' e' x :=
  ⟨hr, h.res.kept hk h.res.lt h.Rg, h.box.kept hk h.box.lt (Ne.symm h.gq), h.Rg, h.Rq, h.gq, h.lR, h.lg, h.lq, h.bel.trans (hk.below h.bel.size h.lg)⟩
theorem DS.boxstep {w0 w w' : World} {R g q : Nat} {s : ByteArray} {e : Int} {x x' : Ent} (h : DS w0 R g q w s e x) (hb : Box q w' x') (hk : Kept w.heap.size q w w') : DS w0 R g q w' s e x' :=
  ⟨h.rd.kept hk h.rd.lt h.gq, h.res.kept hk h.res.lt h.Rq, hb, h.Rg, h.Rq, h.gq, h.lR, h.lg, h.lq, h.bel.trans (hk.below h.bel.size h.lq)⟩
theorem DS.new (w : World) (s : ByteArray) : DS w w.heap.size (w.heap.size + 1) (w.heap.size + 2) (((w.alloc (.cells #[.int .i64 0, .int .i64 0, .int .i64 0, .int .i64 0, .int .i64 0, .int .i64 0, .string ⟨#[]⟩, .string ⟨#[]⟩, .string ⟨#[]⟩] 54)).alloc (.cells #[.string s, .int .i64 0] 105)).alloc (.cells #[.int .i64 0, .int .i64 0, .int .i64 0, .int .i64 0, .int .i64 0, .int .i64 0, .string ⟨#[]⟩, .string ⟨#[]⟩, .string ⟨#[]⟩] 54)) s 0 Ent.zero := by
  obtain ⟨o, ho⟩ : ∃ o, o = Obj.cells #[.int .i64 0, .int .i64 0, .int .i64 0, .int .i64 0, .int .i64 0, .int .i64 0, .string ⟨#[]⟩, .string ⟨#[]⟩, .string ⟨#[]⟩] 54 := ⟨_, rfl⟩
  rw [← ho]
  have e1 : (w.alloc o).heap.size = w.heap.size + 1 := by show (w.heap.push _).size = _; simp
  have e2 : ((w.alloc o).alloc (.cells #[.string s, .int .i64 0] 105)).heap.size = w.heap.size + 2 := by show ((w.heap.push _).push _).size = _; simp
  have k1 := below_alloc w o
  have k2 := below_alloc (w.alloc o) (.cells #[.string s, .int .i64 0] 105)
  have k3 := below_alloc ((w.alloc o).alloc (.cells #[.string s, .int .i64 0] 105)) o
  have hb0 : Box w.heap.size (w.alloc o) Ent.zero := by rw [ho]; exact box_at _ _
  refine ⟨?_, (hb0.below k2 (by omega)).below k3 (by omega), ?_, by omega, by omega, by omega, Nat.le_refl _, by omega, by omega, (k1.next k2).next k3⟩
  · have := RIs.new s (w.alloc o)
    rw [e1] at this
    exact this.below k3
  · rw [← e2, ho]
    exact box_at _ _
theorem DS.set0 {w0 w : World} {R0 g q : Nat} {s : ByteArray} {e : Int} {V C R K A N : Int} {p t d : ByteArray} (h : DS w0 R0 g q w s e ⟨V, C, R, K, A, N, p, t, d⟩) (v : Int) : DS w0 R0 g q (w.setCell ⟨q, 0, none⟩ (.int .i64 v)) s e ⟨v, C, R, K, A, N, p, t, d⟩ := h.boxstep (h.box.set0 v) (kept_set _ _ _ _)
theorem DS.set1 {w0 w : World} {R0 g q : Nat} {s : ByteArray} {e : Int} {V C R K A N : Int} {p t d : ByteArray} (h : DS w0 R0 g q w s e ⟨V, C, R, K, A, N, p, t, d⟩) (v : Int) : DS w0 R0 g q (w.setCell ⟨q, 1, none⟩ (.int .i64 v)) s e ⟨V, v, R, K, A, N, p, t, d⟩ := h.boxstep (h.box.set1 v) (kept_set _ _ _ _)
theorem DS.set2 {w0 w : World} {R0 g q : Nat} {s : ByteArray} {e : Int} {V C R K A N : Int} {p t d : ByteArray} (h : DS w0 R0 g q w s e ⟨V, C, R, K, A, N, p, t, d⟩) (v : Int) : DS w0 R0 g q (w.setCell ⟨q, 2, none⟩ (.int .i64 v)) s e ⟨V, C, v, K, A, N, p, t, d⟩ := h.boxstep (h.box.set2 v) (kept_set _ _ _ _)
theorem DS.set3 {w0 w : World} {R0 g q : Nat} {s : ByteArray} {e : Int} {V C R K A N : Int} {p t d : ByteArray} (h : DS w0 R0 g q w s e ⟨V, C, R, K, A, N, p, t, d⟩) (v : Int) : DS w0 R0 g q (w.setCell ⟨q, 3, none⟩ (.int .i64 v)) s e ⟨V, C, R, v, A, N, p, t, d⟩ := h.boxstep (h.box.set3 v) (kept_set _ _ _ _)
theorem DS.set4 {w0 w : World} {R0 g q : Nat} {s : ByteArray} {e : Int} {V C R K A N : Int} {p t d : ByteArray} (h : DS w0 R0 g q w s e ⟨V, C, R, K, A, N, p, t, d⟩) (v : Int) : DS w0 R0 g q (w.setCell ⟨q, 4, none⟩ (.int .i64 v)) s e ⟨V, C, R, K, v, N, p, t, d⟩ := h.boxstep (h.box.set4 v) (kept_set _ _ _ _)
theorem DS.set5 {w0 w : World} {R0 g q : Nat} {s : ByteArray} {e : Int} {V C R K A N : Int} {p t d : ByteArray} (h : DS w0 R0 g q w s e ⟨V, C, R, K, A, N, p, t, d⟩) (v : Int) : DS w0 R0 g q (w.setCell ⟨q, 5, none⟩ (.int .i64 v)) s e ⟨V, C, R, K, A, v, p, t, d⟩ := h.boxstep (h.box.set5 v) (kept_set _ _ _ _)
theorem DS.set6 {w0 w : World} {R0 g q : Nat} {s : ByteArray} {e : Int} {V C R K A N : Int} {p t d : ByteArray} (h : DS w0 R0 g q w s e ⟨V, C, R, K, A, N, p, t, d⟩) (v : ByteArray) : DS w0 R0 g q (w.setCell ⟨q, 6, none⟩ (.string v)) s e ⟨V, C, R, K, A, N, v, t, d⟩ := h.boxstep (h.box.set6 v) (kept_set _ _ _ _)
theorem DS.set7 {w0 w : World} {R0 g q : Nat} {s : ByteArray} {e : Int} {V C R K A N : Int} {p t d : ByteArray} (h : DS w0 R0 g q w s e ⟨V, C, R, K, A, N, p, t, d⟩) (v : ByteArray) : DS w0 R0 g q (w.setCell ⟨q, 7, none⟩ (.string v)) s e ⟨V, C, R, K, A, N, p, v, d⟩ := h.boxstep (h.box.set7 v) (kept_set _ _ _ _)
theorem DS.set8 {w0 w : World} {R0 g q : Nat} {s : ByteArray} {e : Int} {V C R K A N : Int} {p t d : ByteArray} (h : DS w0 R0 g q w s e ⟨V, C, R, K, A, N, p, t, d⟩) (v : ByteArray) : DS w0 R0 g q (w.setCell ⟨q, 8, none⟩ (.string v)) s e ⟨V, C, R, K, A, N, p, t, v⟩ := h.boxstep (h.box.set8 v) (kept_set _ _ _ _)
end Go.Proofs.Ytjphfpfagnhelaa
