import Derived.Test.YtjnhibpebikkmaaGreatFe
namespace Go.Proofs.YtjnhibpebikkmaaGreat
open Go.RowKit Go.Maps

def Way (q : Nat) (w : World) (a b c d : Int) : Prop := w.heap[q]? = some (.cells #[.int .i64 a, .int .i64 b, .int .i64 c, .int .i64 d] 132 (0, 0))
theorem Way.cells {q : Nat} {w : World} {a b c d : Int} (h : Way q w a b c d) : w.cell? ⟨q, 0, none⟩ = some (.int .i64 a) ∧ w.cell? ⟨q, 1, none⟩ = some (.int .i64 b) ∧ w.cell? ⟨q, 2, none⟩ = some (.int .i64 c) ∧ w.cell? ⟨q, 3, none⟩ = some (.int .i64 d) := by
  unfold Way at h
  simp [World.cell?, h]
theorem Way.below {q : Nat} {w w' : World} {a b c d : Int} (h : Way q w a b c d) (k : Below w.heap.size w w') : Way q w' a b c d := (k.block q (lt_of_block h)).trans h
theorem Way.only {q : Nat} {w w' : World} {a b c d : Int} {fp : List Nat} (h : Way q w a b c d) (k : Only fp w w') (hq : q ∉ fp) : Way q w' a b c d := (k.block q (lt_of_block h) hq).trans h
theorem load_Way {q : Nat} {w : World} {a b c d : Int} (h : Way q w a b c d) : (loadVar 132 ⟨q, 0, none⟩).run Tryz.prog w = .ok (.agg #[.int .i64 a, .int .i64 b, .int .i64 c, .int .i64 d]) w := by
  obtain ⟨c0, c1, c2, c3⟩ := h.cells
  have a24 := Tryz.isAgg132
  have z24 := Tryz.sizeOf132
  go_simp
theorem store_Way {q : Nat} {w : World} {a b c d a' b' c' d' : Int} (h : Way q w a b c d) : ∃ w', (Instr.storeAt 132 (.pointer (some ⟨q, 0, none⟩)) (.agg #[.int .i64 a', .int .i64 b', .int .i64 c', .int .i64 d'])).run Tryz.prog w = .ok () w' ∧ Way q w' a' b' c' d' ∧ Kept w.heap.size q w w' := by
  have hs := run_storeCells_at Tryz.prog q 0 132 [.int .i64 a', .int .i64 b', .int .i64 c', .int .i64 d'] 0 _ w h (by simp) (by intro v hv; simp at hv; rcases hv with rfl | rfl | rfl | rfl <;> rfl)
  simp only [List.take_zero, List.nil_append, Nat.zero_add, List.length_cons, List.length_nil] at hs
  rw [List.drop_of_length_le (by simp), List.append_nil] at hs
  refine ⟨w.setRow q #[.int .i64 a', .int .i64 b', .int .i64 c', .int .i64 d'], ?_, ?_, ?_⟩
  rotate_left
  · exact setRow_heap w q _ #[.int .i64 a', .int .i64 b', .int .i64 c', .int .i64 d'] 132 (0, 0) h
  · refine ⟨rfl, rfl, rfl, ?_, fun j _ hj => ?_⟩
    · show w.heap.size ≤ (w.heap.modify q _).size
      rw [Array.size_modify]
      exact Nat.le_refl _
    · show (w.heap.modify q _)[j]? = _
      rw [Array.getElem?_modify, if_neg (fun e => hj e.symm)]
  · have z24 := Tryz.sizeOf132
    have h2 : (Instr.sureAddr (.pointer (some ⟨q, 0, none⟩))).run Tryz.prog w = .ok ⟨q, 0, none⟩ w := by simp [Instr.sureAddr]
    simp only [Instr.storeAt, Sem.run_bind, h2, Result.andThen_ok, storeVar, z24, Value.cells]
    simp only [List.size_toArray, List.length_cons, List.length_nil, ne_eq, not_true_eq_false, if_false]
    exact hs
theorem at_Way {ops : Array Oper} {rest : List Oper} {p x : Operand} {ty : TypeId} {pos : String} {aft : Array Edge} {act : Act} {Q : Exit → Act → World → Prop} {w : World} (q : Nat) (a b c d a' b' c' d' : Int) (hp : act.eval p = .pointer (some ⟨q, 0, none⟩)) (hx : act.eval x = .agg #[.int .i64 a', .int .i64 b', .int .i64 c', .int .i64 d']) (hb : Way q w a b c d)
    (hK : ∀ w', Way q w' a' b' c' d' → Kept w.heap.size q w w' → wpList Tryz.prog ops Q rest act w') :
    wpList Tryz.prog ops Q ({ dst := none, op := Op.store 132 p x, type := ty, pos := pos, after := aft, guard := none } :: rest) act w := by
  refine wpList_plain rfl fun K' hK' => ?_
  obtain ⟨w', hrun, r1, r2⟩ := store_Way (a' := a') (b' := b') (c' := c') (d' := d') hb
  unfold Oper.wp
  simp [execOp, hp, hx, hrun, Result.andThen]
  exact hK' _ _ (hK w' r1 r2)

def Spt (q : Nat) (w : World) (a b : Int) : Prop := w.heap[q]? = some (.cells #[.int .i64 a, .int .i64 b] 102 (0, 0))
theorem Spt.cells {q : Nat} {w : World} {a b : Int} (h : Spt q w a b) : w.cell? ⟨q, 0, none⟩ = some (.int .i64 a) ∧ w.cell? ⟨q, 1, none⟩ = some (.int .i64 b) := by
  unfold Spt at h
  simp [World.cell?, h]
theorem Spt.below {q : Nat} {w w' : World} {a b : Int} (h : Spt q w a b) (k : Below w.heap.size w w') : Spt q w' a b := (k.block q (lt_of_block h)).trans h
theorem Spt.only {q : Nat} {w w' : World} {a b : Int} {fp : List Nat} (h : Spt q w a b) (k : Only fp w w') (hq : q ∉ fp) : Spt q w' a b := (k.block q (lt_of_block h) hq).trans h
theorem load_Spt {q : Nat} {w : World} {a b : Int} (h : Spt q w a b) : (loadVar 102 ⟨q, 0, none⟩).run Tryz.prog w = .ok (.agg #[.int .i64 a, .int .i64 b]) w := by
  obtain ⟨c0, c1⟩ := h.cells
  have a24 := Tryz.isAgg102
  have z24 := Tryz.sizeOf102
  go_simp
theorem store_Spt {q : Nat} {w : World} {a b a' b' : Int} (h : Spt q w a b) : ∃ w', (Instr.storeAt 102 (.pointer (some ⟨q, 0, none⟩)) (.agg #[.int .i64 a', .int .i64 b'])).run Tryz.prog w = .ok () w' ∧ Spt q w' a' b' ∧ Kept w.heap.size q w w' := by
  have hs := run_storeCells_at Tryz.prog q 0 102 [.int .i64 a', .int .i64 b'] 0 _ w h (by simp) (by intro v hv; simp at hv; rcases hv with rfl | rfl <;> rfl)
  simp only [List.take_zero, List.nil_append, Nat.zero_add, List.length_cons, List.length_nil] at hs
  rw [List.drop_of_length_le (by simp), List.append_nil] at hs
  refine ⟨w.setRow q #[.int .i64 a', .int .i64 b'], ?_, ?_, ?_⟩
  rotate_left
  · exact setRow_heap w q _ #[.int .i64 a', .int .i64 b'] 102 (0, 0) h
  · refine ⟨rfl, rfl, rfl, ?_, fun j _ hj => ?_⟩
    · show w.heap.size ≤ (w.heap.modify q _).size
      rw [Array.size_modify]
      exact Nat.le_refl _
    · show (w.heap.modify q _)[j]? = _
      rw [Array.getElem?_modify, if_neg (fun e => hj e.symm)]
  · have z24 := Tryz.sizeOf102
    have h2 : (Instr.sureAddr (.pointer (some ⟨q, 0, none⟩))).run Tryz.prog w = .ok ⟨q, 0, none⟩ w := by simp [Instr.sureAddr]
    simp only [Instr.storeAt, Sem.run_bind, h2, Result.andThen_ok, storeVar, z24, Value.cells]
    simp only [List.size_toArray, List.length_cons, List.length_nil, ne_eq, not_true_eq_false, if_false]
    exact hs
theorem at_Spt {ops : Array Oper} {rest : List Oper} {p x : Operand} {ty : TypeId} {pos : String} {aft : Array Edge} {act : Act} {Q : Exit → Act → World → Prop} {w : World} (q : Nat) (a b a' b' : Int) (hp : act.eval p = .pointer (some ⟨q, 0, none⟩)) (hx : act.eval x = .agg #[.int .i64 a', .int .i64 b']) (hb : Spt q w a b)
    (hK : ∀ w', Spt q w' a' b' → Kept w.heap.size q w w' → wpList Tryz.prog ops Q rest act w') :
    wpList Tryz.prog ops Q ({ dst := none, op := Op.store 102 p x, type := ty, pos := pos, after := aft, guard := none } :: rest) act w := by
  refine wpList_plain rfl fun K' hK' => ?_
  obtain ⟨w', hrun, r1, r2⟩ := store_Spt (a' := a') (b' := b') hb
  unfold Oper.wp
  simp [execOp, hp, hx, hrun, Result.andThen]
  exact hK' _ _ (hK w' r1 r2)
/-- the way to an index -/
def wayV (i : Nat) : Value := if i < 6 then .agg #[.int .i64 (i : Int), .int .i64 0, .int .i64 0, .int .i64 1] else if i < 70 then .agg #[.int .i64 6, .int .i64 ((i : Int) - 6), .int .i64 0, .int .i64 2] else .agg #[.int .i64 7, .int .i64 (((i : Int) - 70) / 64), .int .i64 (((i : Int) - 70) % 64), .int .i64 3]
theorem pl_ok (i : Nat) (hi : i < 4166) : pl0 (i : Int) = lvl i ∧ pl1 (i : Int) = fst i ∧ pl2 (i : Int) = snd i ∧ plE (i : Int) = 0 := by
  have h : isIx (i : Int) = true := by unfold isIx; rw [decide_eq_true_eq]; omega
  unfold pl0 pl1 pl2 plE
  rw [if_pos h, if_pos h, if_pos h, if_pos h]
  exact ⟨rfl, rfl, rfl, rfl⟩
theorem results_cell1 {fn : Func} {p : Tmp} {ty : TypeId} (h : fn.results = #[.cell p ty]) (tmps : Array Value) (P : Program) (w : World) :
    (results fn tmps).run P w = ((asAddr (tmps.getD p undef)).run P w).andThen fun a w₁ => (loadVar ty a).run P w₁ := by
  simp only [results, h]
  simp [Sem.run_bind, Result.andThen]
theorem ret75 {act : Act} {w : World} {R : Nat} {a b c d : Int} {post : Ending → World → Prop} (hb : Way R w a b c d) (h2 : act.tmps.getD 2 undef = .pointer (some ⟨R, 0, none⟩)) (hd : act.defers = []) (hp : post (.returned (.agg #[.int .i64 a, .int .i64 b, .int .i64 c, .int .i64 d])) w) : bodyPost Tryz.prog Tryz.f75 post .ret act w := by
  refine bodyPost_ret (v := .agg #[.int .i64 a, .int .i64 b, .int .i64 c, .int .i64 d]) ?_ hd hp
  rw [results_cell1 (p := 2) (ty := 132) rfl, h2]
  simp [asAddr, Result.andThen, load_Way hb]
theorem _root_.Go.RowKit.Below.kept4 {w w1 w4 : World} {o o2 : Obj} (h : Below (w.alloc o).heap.size (w.alloc o) w1) (k : Kept (w1.alloc o2).heap.size w.heap.size (w1.alloc o2) w4) : Below w.heap.size w w4 := by
  have h1 := ((below_alloc w o).next h).next (below_alloc w1 o2)
  have hs := h1.size
  exact h1.trans ⟨k.os, k.tape, k.output, k.size, fun j hj => k.block j (by omega) (by omega)⟩
set_option maxRecDepth 100000 in
set_option maxHeartbeats 1000000 in
theorem wayTo_any (i : Nat) (hi : i < 4166) (w : World) : Calls Tryz.prog 75 #[.int .i64 (i : Int)] w fun e w' => e = .returned (wayV i) ∧ Below w.heap.size w w' := by
  have HP := hid (place_any (i : Int))
  obtain ⟨e0, e1, e2, e3⟩ := pl_ok i hi
  rw [e0, e1, e2, e3] at HP
  clear e0 e1 e2 e3
  unfold wayV
  rcases lvl_cases i with ⟨h, a1, a2, a3⟩ | ⟨h, h', a1, a2, a3⟩ | ⟨h, a1, a2, a3⟩
  · rw [a1, a2, a3] at HP
    rw [if_pos h]
    clear a1 a2 a3 h hi
    go_enter Tryz.func75, Tryz.ntmps75
    go_wp2_with (first
      | (go_at_call 106; refine (HP.out _).mono ?_; rintro e w1 ⟨rfl, hb1⟩; have HB1 := hid hb1; clear hb1
         have HW1 : Hid (∀ o, Way w.heap.size (w1.alloc o) 0 0 0 0) := hid (fun o => (Way.below (box_at w _) (HB1.out.next (below_alloc w1 o)))))
      | ((with_reducible refine at_Way w.heap.size 0 0 0 0 (i : Int) 0 0 1 ?_ ?_ (HW1.out _) ?_); rfl; rfl; intro w4 hB4 hk4))
    exact ret75 hB4 rfl rfl ⟨rfl, HB1.out.kept4 hk4⟩
  · rw [a1, a2, a3] at HP
    rw [if_neg (by omega), if_pos h']
    clear a1 a2 a3 h h' hi
    obtain ⟨x, hx⟩ : ∃ x, x = (i : Int) - 6 := ⟨_, rfl⟩
    rw [← hx] at HP ⊢
    clear hx
    go_enter Tryz.func75, Tryz.ntmps75
    go_wp2_with (first
      | (go_at_call 106; refine (HP.out _).mono ?_; rintro e w1 ⟨rfl, hb1⟩; have HB1 := hid hb1; clear hb1
         have HW1 : Hid (∀ o, Way w.heap.size (w1.alloc o) 0 0 0 0) := hid (fun o => (Way.below (box_at w _) (HB1.out.next (below_alloc w1 o)))))
      | ((with_reducible refine at_Way w.heap.size 0 0 0 0 6 x 0 2 ?_ ?_ (HW1.out _) ?_); rfl; rfl; intro w4 hB4 hk4))
    exact ret75 hB4 rfl rfl ⟨rfl, HB1.out.kept4 hk4⟩
  · rw [a1, a2, a3] at HP
    rw [if_neg (by omega), if_neg (by omega)]
    clear a1 a2 a3 h hi
    obtain ⟨x, hx⟩ : ∃ x, x = ((i : Int) - 70) / 64 := ⟨_, rfl⟩
    obtain ⟨y, hy⟩ : ∃ y, y = ((i : Int) - 70) % 64 := ⟨_, rfl⟩
    rw [← hx, ← hy] at HP ⊢
    clear hx hy
    go_enter Tryz.func75, Tryz.ntmps75
    go_wp2_with (first
      | (go_at_call 106; refine (HP.out _).mono ?_; rintro e w1 ⟨rfl, hb1⟩; have HB1 := hid hb1; clear hb1
         have HW1 : Hid (∀ o, Way w.heap.size (w1.alloc o) 0 0 0 0) := hid (fun o => (Way.below (box_at w _) (HB1.out.next (below_alloc w1 o)))))
      | ((with_reducible refine at_Way w.heap.size 0 0 0 0 7 x y 3 ?_ ?_ (HW1.out _) ?_); rfl; rfl; intro w4 hB4 hk4))
    exact ret75 hB4 rfl rfl ⟨rfl, HB1.out.kept4 hk4⟩
set_option maxRecDepth 100000 in
theorem naming1 {g : Nat} {a b c : Int} (w : World) (hh : Way g w a b c 1) : Calls Tryz.prog 76 #[.pointer (some ⟨g, 0, none⟩)] w fun e w' => e = .returned (.slice (some ⟨g, 0, none⟩) 0 3) ∧ ∃ j, w' = w.drewN j := by
  obtain ⟨c0, c1, c2, c3⟩ := hh.cells
  clear hh
  go_enter Tryz.func76, Tryz.ntmps76
  go_wp2_with (go_quiet (fail))
  go_ret
  exact ⟨rfl, _, rfl⟩
set_option maxRecDepth 100000 in
theorem last1 {g : Nat} {a b c : Int} (w : World) (hh : Way g w a b c 1) : Calls Tryz.prog 78 #[.pointer (some ⟨g, 0, none⟩)] w fun e w' => e = .returned (.int .i64 a) ∧ ∃ j, w' = w.drewN j := by
  obtain ⟨c0, c1, c2, c3⟩ := hh.cells
  clear hh
  go_enter Tryz.func78, Tryz.ntmps78
  go_wp2_with (go_quiet (fail))
  go_ret
  exact ⟨rfl, _, rfl⟩
set_option maxRecDepth 100000 in
theorem naming2 {g : Nat} {a b c : Int} (w : World) (hh : Way g w a b c 2) : Calls Tryz.prog 76 #[.pointer (some ⟨g, 0, none⟩)] w fun e w' => e = .returned (.slice (some ⟨g, 0, none⟩) 1 3) ∧ ∃ j, w' = w.drewN j := by
  obtain ⟨c0, c1, c2, c3⟩ := hh.cells
  clear hh
  go_enter Tryz.func76, Tryz.ntmps76
  go_wp2_with (go_quiet (fail))
  go_ret
  exact ⟨rfl, _, rfl⟩
set_option maxRecDepth 100000 in
theorem last2 {g : Nat} {a b c : Int} (w : World) (hh : Way g w a b c 2) : Calls Tryz.prog 78 #[.pointer (some ⟨g, 0, none⟩)] w fun e w' => e = .returned (.int .i64 b) ∧ ∃ j, w' = w.drewN j := by
  obtain ⟨c0, c1, c2, c3⟩ := hh.cells
  clear hh
  go_enter Tryz.func78, Tryz.ntmps78
  go_wp2_with (go_quiet (fail))
  go_ret
  exact ⟨rfl, _, rfl⟩
set_option maxRecDepth 100000 in
theorem naming3 {g : Nat} {a b c : Int} (w : World) (hh : Way g w a b c 3) : Calls Tryz.prog 76 #[.pointer (some ⟨g, 0, none⟩)] w fun e w' => e = .returned (.slice (some ⟨g, 0, none⟩) 2 3) ∧ ∃ j, w' = w.drewN j := by
  obtain ⟨c0, c1, c2, c3⟩ := hh.cells
  clear hh
  go_enter Tryz.func76, Tryz.ntmps76
  go_wp2_with (go_quiet (fail))
  go_ret
  exact ⟨rfl, _, rfl⟩
set_option maxRecDepth 100000 in
theorem last3 {g : Nat} {a b c : Int} (w : World) (hh : Way g w a b c 3) : Calls Tryz.prog 78 #[.pointer (some ⟨g, 0, none⟩)] w fun e w' => e = .returned (.int .i64 c) ∧ ∃ j, w' = w.drewN j := by
  obtain ⟨c0, c1, c2, c3⟩ := hh.cells
  clear hh
  go_enter Tryz.func78, Tryz.ntmps78
  go_wp2_with (go_quiet (fail))
  go_ret
  exact ⟨rfl, _, rfl⟩
set_option maxRecDepth 100000 in
theorem number_any (g pl : Nat) (h : pl < 8) (w : World) : Calls Tryz.prog 83 #[.pointer (some ⟨g, 0, none⟩), .int .i64 (pl : Int)] w fun e w' => e = .returned (.pointer (some ⟨g, 3 + pl, none⟩)) ∧ w' = w := by
  by_cases h6 : pl = 6
  · subst h6
    go_enter Tryz.func83, Tryz.ntmps83
    go_wp2
    go_ret
    exact ⟨rfl, rfl⟩
  · by_cases h7 : pl = 7
    · subst h7
      go_enter Tryz.func83, Tryz.ntmps83
      go_wp2
      go_ret
      exact ⟨rfl, rfl⟩
    · have hlt : pl < 6 := by omega
      have n6 : ¬ ((pl : Int) = 6) := by omega
      have n7 : ¬ ((pl : Int) = 7) := by omega
      clear h6 h7 h
      go_enter Tryz.func83, Tryz.ntmps83
      go_wp2
      go_ret
      exact ⟨by first | rfl | simp, rfl⟩
end Go.Proofs.YtjnhibpebikkmaaGreat
