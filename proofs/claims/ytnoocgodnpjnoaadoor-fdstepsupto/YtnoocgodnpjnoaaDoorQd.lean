import Derived.Test.YtnoocgodnpjnoaaDoorQb
namespace Go.Proofs.YtnoocgodnpjnoaaDoor
open Go.RowKit

/-- an operation -/
structure Opr where
  K : Int
  A : Int
  N : Int
  p : ByteArray
  t : ByteArray
  d : ByteArray
  deriving DecidableEq
def Opr.v (x : Opr) : Value := .agg #[.int .i64 x.K, .int .i64 x.A, .int .i64 x.N, .string x.p, .string x.t, .string x.d]
def Opr.zero : Opr := ⟨0, 0, 0, ByteArray.empty, ByteArray.empty, ByteArray.empty⟩
def Opr.cs (m : Opr) : List Value := [.int .i64 m.K, .int .i64 m.A, .int .i64 m.N, .string m.p, .string m.t, .string m.d]
/-- an operation in memory -/
def Box (q : Nat) (w : World) (x : Opr) : Prop := w.heap[q]? = some (.cells #[.int .i64 x.K, .int .i64 x.A, .int .i64 x.N, .string x.p, .string x.t, .string x.d] 52 (0, 0))
theorem Box.cells {q : Nat} {w : World} {K A N : Int} {p t d : ByteArray} (h : Box q w ⟨K, A, N, p, t, d⟩) : w.cell? ⟨q, 0, none⟩ = some (.int .i64 K) ∧ w.cell? ⟨q, 1, none⟩ = some (.int .i64 A) ∧ w.cell? ⟨q, 2, none⟩ = some (.int .i64 N) ∧ w.cell? ⟨q, 3, none⟩ = some (.string p) ∧ w.cell? ⟨q, 4, none⟩ = some (.string t) ∧ w.cell? ⟨q, 5, none⟩ = some (.string d) := by
  unfold Box at h
  simp [World.cell?, h]
theorem Box.lt {q : Nat} {w : World} {n : Opr} (h : Box q w n) : q < w.heap.size := lt_of_block h
theorem Box.below {q B : Nat} {w w' : World} {n : Opr} (h : Box q w n) (k : Below B w w') (hb : q < B) : Box q w' n := (k.block q hb).trans h
theorem Box.kept {q g : Nat} {w w' : World} {n : Opr} (h : Box q w n) (k : KP g w w') (hg : q ≠ g) : Box q w' n := (k.block q h.lt hg).trans h
theorem TI.kept {q g : Nat} {w w' : World} {D : Nat → Dsc} (h : TI g w D) (k : KP q w w') (hg : g ≠ q) : TI g w' D := by
  obtain ⟨cs, h1, h2⟩ := h
  exact ⟨cs, (k.block g (lt_of_block h1) hg).trans h1, h2⟩
theorem load52 {q : Nat} {w : World} {n : Opr} (h : Box q w n) : (loadVar 52 ⟨q, 0, none⟩).run Tryd.prog w = .ok n.v w := by
  obtain ⟨K, A, N, p, t, d⟩ := n
  obtain ⟨c3, c4, c5, c6, c7, c8⟩ := h.cells
  have a24 := Tryd.isAgg52
  have z24 := Tryd.sizeOf52
  simp only [Opr.v]
  go_simp
theorem store52 {q : Nat} {w : World} {n m : Opr} (h : Box q w n) : ∃ w', (Instr.storeAt 52 (.pointer (some ⟨q, 0, none⟩)) m.v).run Tryd.prog w = .ok () w' ∧ Box q w' m ∧ KP q w w' := by
  have hs := run_storeCells_at Tryd.prog q 0 52 m.cs 0 _ w h (by simp [Opr.cs]) (by intro v hv; simp [Opr.cs] at hv; rcases hv with rfl | rfl | rfl | rfl | rfl | rfl <;> rfl)
  simp only [Opr.cs, List.take_zero, List.nil_append, Nat.zero_add, List.length_cons, List.length_nil] at hs
  rw [List.drop_of_length_le (by simp), List.append_nil] at hs
  refine ⟨w.setRow q m.cs.toArray, ?_, ?_, ?_⟩
  rotate_left
  · exact setRow_heap w q _ m.cs.toArray 52 (0, 0) h
  · refine ⟨rfl, rfl, rfl, ?_, fun j _ hj => ?_⟩
    · show w.heap.size ≤ (w.heap.modify q _).size
      rw [Array.size_modify]
      exact Nat.le_refl _
    · show (w.heap.modify q _)[j]? = _
      rw [Array.getElem?_modify, if_neg (fun e => hj e.symm)]
  · have z24 := Tryd.sizeOf52
    have h2 : (Instr.sureAddr (.pointer (some ⟨q, 0, none⟩))).run Tryd.prog w = .ok ⟨q, 0, none⟩ w := by simp [Instr.sureAddr]
    simp only [Instr.storeAt, Opr.v, Sem.run_bind, h2, Result.andThen_ok, storeVar, z24, Value.cells]
    simp only [List.size_toArray, List.length_cons, List.length_nil, ne_eq, not_true_eq_false, if_false]
    exact hs
/-- to store a whole operation -/
theorem at_store52 {ops : Array Oper} {rest : List Oper} {p x : Operand} {ty : TypeId} {pos : String} {aft : Array Edge} {a : Act} {Q : Exit → Act → World → Prop} {w : World} (q : Nat) (n m : Opr) (hp : a.eval p = .pointer (some ⟨q, 0, none⟩)) (hx : a.eval x = m.v) (hb : Box q w n)
    (hK : ∀ w', Box q w' m → KP q w w' → wpList Tryd.prog ops Q rest a w') :
    wpList Tryd.prog ops Q ({ dst := none, op := Op.store 52 p x, type := ty, pos := pos, after := aft, guard := none } :: rest) a w := by
  refine wpList_plain rfl fun K' hK' => ?_
  obtain ⟨w', hrun, r1, r2⟩ := store52 (m := m) hb
  unfold Oper.wp
  simp [execOp, hp, hx, hrun, Result.andThen]
  exact hK' _ _ (hK w' r1 r2)
theorem retG {fn : Func} (hf : fn.results = #[.cell 6 52, .tmp 7]) {a : Act} {w : World} {R : Nat} {m : Opr} {e : Int} {post : Ending → World → Prop} (hb : Box R w m) (h2 : a.tmps.getD 6 undef = .pointer (some ⟨R, 0, none⟩)) (h3 : a.tmps.getD 7 undef = .int .i64 e) (hd : a.defers = []) (hp : post (.returned (.tuple #[m.v, .int .i64 e])) w) : bodyPost Tryd.prog fn post .ret a w := by
  refine bodyPost_ret (v := .tuple #[m.v, .int .i64 e]) ?_ hd hp
  rw [results_cell_tmp (p := 6) (u := 7) (ty := 52) hf, h2, h3]
  simp [asAddr, Result.andThen, load52 hb]
theorem ret18 {a : Act} {w : World} {R : Nat} {m : Opr} {e : Int} {post : Ending → World → Prop} (hb : Box R w m) (h2 : a.tmps.getD 6 undef = .pointer (some ⟨R, 0, none⟩)) (h3 : a.tmps.getD 7 undef = .int .i64 e) (hd : a.defers = []) (hp : post (.returned (.tuple #[m.v, .int .i64 e])) w) : bodyPost Tryd.prog Tryd.f18 post .ret a w := retG rfl hb h2 h3 hd hp
theorem ret19 {a : Act} {w : World} {R : Nat} {m : Opr} {e : Int} {post : Ending → World → Prop} (hb : Box R w m) (h2 : a.tmps.getD 6 undef = .pointer (some ⟨R, 0, none⟩)) (h3 : a.tmps.getD 7 undef = .int .i64 e) (hd : a.defers = []) (hp : post (.returned (.tuple #[m.v, .int .i64 e])) w) : bodyPost Tryd.prog Tryd.f19 post .ret a w := retG rfl hb h2 h3 hd hp
theorem KP.new {w a b : World} {q : Nat} (h : Below w.heap.size w a) (k : KP q a b) (hq : w.heap.size ≤ q) : Below w.heap.size w b := h.trans ⟨k.os, k.tape, k.output, k.size, fun j hj => k.block j (Nat.lt_of_lt_of_le hj h.size) (by omega)⟩
theorem box_zero (w : World) : Box w.heap.size (w.alloc (.cells #[.int .i64 0, .int .i64 0, .int .i64 0, .string ⟨#[]⟩, .string ⟨#[]⟩, .string ⟨#[]⟩] 52)) Opr.zero := box_at _ _
set_option maxRecDepth 100000 in
set_option maxHeartbeats 1000000 in
theorem next_no {p : Value} (fd n : Int) (w : World) (HF : Hid (∀ w', Below w.heap.size w w' → Calls Tryd.prog 26 #[p, .int .i64 fd] w' fun e w'' => e = .returned (.pointer none) ∧ w'' = w')) : Calls Tryd.prog 18 #[p, .int .i64 fd, .int .i64 n] w fun e w' => e = .returned (.tuple #[Opr.zero.v, .int .i64 311]) ∧ Below w.heap.size w w' := by
  have HB0 := hid (box_zero w)
  go_enter Tryd.func18, Tryd.ntmps18
  go_wp2_with (first
    | (go_at_call 26; refine (HF.out _ (below_alloc _ _)).mono ?_; rintro e w2 ⟨rfl, hw2⟩; subst hw2)
    | ((with_reducible refine at_store52 w.heap.size Opr.zero Opr.zero ?_ ?_ HB0.out ?_); rfl; rfl; intro wr hBr hkr))
  exact ret18 hBr rfl rfl rfl ⟨rfl, KP.new (below_alloc w _) hkr (Nat.le_refl _)⟩
set_option maxRecDepth 100000 in
set_option maxHeartbeats 1000000 in
theorem write_no {p : Value} (fd : Int) (d : ByteArray) (w : World) (HF : Hid (∀ w', Below w.heap.size w w' → Calls Tryd.prog 26 #[p, .int .i64 fd] w' fun e w'' => e = .returned (.pointer none) ∧ w'' = w')) : Calls Tryd.prog 19 #[p, .int .i64 fd, .string d] w fun e w' => e = .returned (.tuple #[Opr.zero.v, .int .i64 311]) ∧ Below w.heap.size w w' := by
  have HB0 := hid (box_zero w)
  go_enter Tryd.func19, Tryd.ntmps19
  go_wp2_with (first
    | (go_at_call 26; refine (HF.out _ (below_alloc _ _)).mono ?_; rintro e w2 ⟨rfl, hw2⟩; subst hw2)
    | ((with_reducible refine at_store52 w.heap.size Opr.zero Opr.zero ?_ ?_ HB0.out ?_); rfl; rfl; intro wr hBr hkr))
  exact ret19 hBr rfl rfl rfl ⟨rfl, KP.new (below_alloc w _) hkr (Nat.le_refl _)⟩
set_option maxRecDepth 100000 in
set_option maxHeartbeats 1000000 in
theorem next_yes {g : Nat} {w : World} {D : Nat → Dsc} (k : Nat) (n : Int) (h : TI g w D) (hk : k < 16) (ho : (D k).o = true) (h0 : 0 ≤ n) (h1 : n ≤ 1024) : Calls Tryd.prog 18 #[.pointer (some ⟨g, 0, none⟩), .int .i64 k, .int .i64 n] w fun e w' => e = .returned (.tuple #[Opr.v ⟨5, (D k).n, n, (D k).p, ByteArray.empty, ByteArray.empty⟩, .int .i64 0]) ∧ Below w.heap.size w w' := by
  have HB0 := hid (box_zero w)
  have h' := h.below (below_alloc w (.cells #[.int .i64 0, .int .i64 0, .int .i64 0, .string ⟨#[]⟩, .string ⟨#[]⟩, .string ⟨#[]⟩] 52))
  have HF := hid (find_yes k h' hk ho)
  obtain ⟨c0, c1, c2⟩ := h.cells k hk
  have hg := h.lt
  clear h h' ho
  obtain ⟨pl, hpl⟩ : ∃ x, x = (D k).n := ⟨_, rfl⟩
  obtain ⟨pa, hpa⟩ : ∃ x, x = (D k).p := ⟨_, rfl⟩
  rw [← hpl] at c2 ⊢
  rw [← hpa] at c1 ⊢
  clear hpl hpa c0
  go_enter Tryd.func18, Tryd.ntmps18
  go_wp2_with (first
    | (go_at_call 26; refine (HF.out).mono ?_; rintro e w2 ⟨rfl, hw2⟩; subst hw2))
  go_region
  go_wp2
  exact ret18 (m := ⟨5, pl, n, pa, ByteArray.empty, ByteArray.empty⟩) (box_at w _) rfl rfl rfl ⟨rfl, (below_alloc w _).next (drewN_below _ 1)⟩
end Go.Proofs.YtnoocgodnpjnoaaDoor
