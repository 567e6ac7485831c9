import Derived.Test.YtjphfpfagnhelaaMd
namespace Go.Proofs.Ytjphfpfagnhelaa
open Go.RowKit Go.Maps Go.Shelf

theorem calls28 (a : Array Value) (w : World) : (callFunc 28 a).run Try.prog w = .ok (.enter 28 a) w := by simp [go_sem]
set_option maxRecDepth 100000 in
theorem size1_ok {w : World} {b1 b2 : Nat} {v : Value} {l : List Ent} (h1 : w.heap[b1]? = some (.cells #[v] 22 (0, 0))) (h2 : w.heap[b2]? = some (.cells #[.int .i64 0] 3 (0, 0))) (h : ELie w v l) (hok : ∀ y ∈ l, y.Ok) (hn : l.length ≤ 2000000) (ha : l.all rgt = true) :
    Calls Try.prog 28 #[.pointer (some ⟨b1, 0, none⟩), .pointer (some ⟨b2, 0, none⟩)] w fun e w' => e = .returned (.tuple #[]) ∧ ∃ w1, Below w.heap.size w w1 ∧ w' = w1.setCell ⟨b2, 0, none⟩ (.int .i64 ((encs l).length : Nat)) := by
  have HE := hid (ents_any h hok hn)
  obtain ⟨sa, sn, sc, hsl⟩ : ∃ a n c, v = .slice a n c := by obtain ⟨a, c, e, _⟩ := h; exact ⟨a, _, c, e⟩
  subst hsl
  have c1 : w.cell? ⟨b1, 0, none⟩ = some (.slice sa sn sc) := by simp [World.cell?, h1]
  have H2 := hid h2
  have HA := hid ha
  have HB := hid (lt_of_block h2)
  clear h1 h2 h hok ha
  go_enter Try.func28, Try.ntmps28
  go_wp2_with (go_at_call 29; fail)
  refine HE.out.mono ?_
  rintro e w1 ⟨k1, _, b1⟩
  obtain rfl := k1 HA.out
  have d2 : w1.heap[b2]? = some (.cells #[.int .i64 0] 3 (0, 0)) := (b1.block b2 HB.out).trans H2.out
  have d0 : w1.cell? ⟨b2, 0, none⟩ = some (.int .i64 0) := by simp [World.cell?, d2]
  have z0 : w1.frozen? ⟨b2, 0, none⟩ = false := by simp [World.frozen?, d2]
  have sz : (st (encs l)).size = (encs l).length := st_size _
  clear k1 d2
  go_wp2
  go_end0
  rw [← sz]
  exact ⟨rfl, w1, b1, rfl⟩
set_option maxRecDepth 100000 in
theorem size1_no {w : World} {b1 : Nat} {p : Value} {v : Value} {l : List Ent} (h1 : w.heap[b1]? = some (.cells #[v] 22 (0, 0))) (h : ELie w v l) (hok : ∀ y ∈ l, y.Ok) (hn : l.length ≤ 2000000) (ha : l.all rgt = false) :
    Calls Try.prog 28 #[.pointer (some ⟨b1, 0, none⟩), p] w fun e w' => e = .panicked [brk 4] ∧ Below w.heap.size w w' := by
  have HE := hid (ents_any h hok hn)
  obtain ⟨sa, sn, sc, hsl⟩ : ∃ a n c, v = .slice a n c := by obtain ⟨a, c, e, _⟩ := h; exact ⟨a, _, c, e⟩
  subst hsl
  have c1 : w.cell? ⟨b1, 0, none⟩ = some (.slice sa sn sc) := by simp [World.cell?, h1]
  have HA := hid ha
  clear h1 h hok ha
  go_enter Try.func28, Try.ntmps28
  go_wp2_with (go_at_call 29; fail)
  refine HE.out.mono ?_
  rintro e w1 ⟨_, k1, b1⟩
  obtain rfl := k1 HA.out
  clear k1
  go_wp2
  exact ⟨rfl, rfl, b1⟩
theorem alloc_size (w : World) (o : Obj) : (w.alloc o).heap.size = w.heap.size + 1 := by show (w.heap.push o).size = _; simp
theorem alloc_past (w : World) (o : Obj) {k : Nat} (h : k < w.heap.size) : (w.alloc o).heap[k]? = w.heap[k]? := by show (w.heap.push o)[k]? = _; rw [Array.getElem?_push, if_neg (by omega)]
theorem set_size (w : World) (g i : Nat) (v : Value) : (w.setCell ⟨g, i, none⟩ v).heap.size = w.heap.size := by show (w.heap.modify _ _).size = _; rw [Array.size_modify]
theorem cell_at {w : World} {g i : Nat} {cs : Array Value} {t : TypeId} (h : w.heap[g]? = some (.cells cs t (0, 0))) : w.cell? ⟨g, i, none⟩ = cs[i]? := by simp [World.cell?, h]
theorem free_at {w : World} {g : Nat} {cs : Array Value} {t : TypeId} (h : w.heap[g]? = some (.cells cs t (0, 0))) (i : Nat) : w.frozen? ⟨g, i, none⟩ = false := by simp [World.frozen?, h]
/-- two new variables -/
theorem two_new (w : World) (o1 o2 : Obj) : (((w.alloc o1).alloc o2).heap[w.heap.size]? = some o1 ∧ ((w.alloc o1).alloc o2).heap[w.heap.size + 1]? = some o2) ∧ ((w.alloc o1).alloc o2).heap.size = w.heap.size + 2 ∧ Below w.heap.size w ((w.alloc o1).alloc o2) := by
  refine ⟨⟨?_, ?_⟩, ?_, (below_alloc _ _).next (below_alloc _ _)⟩
  · rw [alloc_past _ _ (by rw [alloc_size]; omega), box_at]
  · rw [← alloc_size w o1, box_at]
  · rw [alloc_size, alloc_size]
theorem att_ok {w W : World} {K b2 : Nat} {o' : Obj} {caps : Array Value} (hW : Below w.heap.size w W) (h2 : w.heap.size ≤ b2) (h3 : b2 < W.heap.size) (hk : ∀ w, (callFunc K caps).run Try.prog w = .ok (.enter K caps) w)
    (h : Calls Try.prog K caps (W.alloc (.cells #[.int .i64 0] 25)) fun e w' => e = .returned (.tuple #[]) ∧ w'.heap[b2]? = some o' ∧ Kept (W.heap.size + 1) b2 (W.alloc (.cells #[.int .i64 0] 25)) w') :
    Calls Try.prog 16 #[.func (.func K) #[] caps] W fun x w'' => x = .returned (.int .i64 0) ∧ w''.heap[b2]? = some o' ∧ Below w.heap.size w w'' := by
  refine (attempt_ok (Q := fun w' => w'.heap[b2]? = some o' ∧ Kept (W.heap.size + 1) b2 (W.alloc (.cells #[.int .i64 0] 25)) w') hk (h.mono ?_)).mono ?_
  · rintro e w' ⟨rfl, k1, k2⟩
    exact ⟨rfl, (k2.block W.heap.size (by omega) (by omega)).trans (box_at _ _), k1, k2⟩
  · rintro e w'' ⟨rfl, w', ⟨k1, k2⟩, rfl⟩
    refine ⟨rfl, (set_off 0 _ (by omega)).trans k1, ?_⟩
    have b1 : Below w.heap.size w w' := (hW.trans ((below_alloc W _).mono hW.size)).trans (k2.below (by have := hW.size; omega) h2)
    exact b1.setCell (p := ⟨W.heap.size, 0, none⟩) hW.size _
theorem att_no {w W : World} {K b2 : Nat} {o' : Obj} {e : Int} {caps : Array Value} (hW : Below w.heap.size w W) (h3 : b2 < W.heap.size) (ho : W.heap[b2]? = some o') (hk : ∀ w, (callFunc K caps).run Try.prog w = .ok (.enter K caps) w)
    (h : Calls Try.prog K caps (W.alloc (.cells #[.int .i64 0] 25)) fun x w' => x = .panicked [brk e] ∧ Below (W.heap.size + 1) (W.alloc (.cells #[.int .i64 0] 25)) w') :
    Calls Try.prog 16 #[.func (.func K) #[] caps] W fun x w'' => x = .returned (.int .i64 e) ∧ w''.heap[b2]? = some o' ∧ Below w.heap.size w w'' := by
  refine (attempt_no (e := e) (Q := fun w' => Below (W.heap.size + 1) (W.alloc (.cells #[.int .i64 0] 25)) w') hk (h.mono ?_)).mono ?_
  · rintro x w' ⟨rfl, k2⟩
    exact ⟨rfl, (k2.block W.heap.size (by omega)).trans (box_at _ _), k2⟩
  · rintro x w'' ⟨rfl, w', k2, rfl⟩
    have b1 : Below w.heap.size w w' := (hW.trans ((below_alloc W _).mono hW.size)).trans (k2.mono (by have := hW.size; omega))
    have b2' : Below w.heap.size w (w'.setCell ⟨W.heap.size, 0, none⟩ (.int .i64 e)) := b1.setCell (p := ⟨W.heap.size, 0, none⟩) hW.size _
    have s1 := k2.size
    rw [alloc_size] at s1
    refine ⟨rfl, ?_, b2'.alloc (by rw [set_size]; have := hW.size; omega) _⟩
    rw [alloc_past _ _ (by rw [set_size]; omega), set_off 0 _ (by omega), k2.block b2 (by omega), alloc_past _ _ h3, ho]
/-- what Size tells -/
def szN (l : List Ent) : Int := if l.all rgt then ((encs l).length : Nat) else 0
def szE (l : List Ent) : Int := if l.all rgt then 0 else 4
set_option maxRecDepth 100000 in
set_option maxHeartbeats 1000000 in
theorem size_any {w : World} {v : Value} {l : List Ent} (h : ELie w v l) (hok : ∀ y ∈ l, y.Ok) (hn : l.length ≤ 2000000) :
    Calls Try.prog 12 #[v] w fun e w' => e = .returned (.tuple #[.int .i64 (szN l), .int .i64 (szE l)]) ∧ Below w.heap.size w w' := by
  have hmf : ∀ (fn : Fn) (first cap : Array Value) (w : World), (Instr.makeFunc fn first cap).run Try.prog w = .ok (.func fn first cap) w := fun _ _ _ _ => rfl
  have HV := hid h
  obtain ⟨sa, sn, sc, hsl⟩ : ∃ a n c, v = .slice a n c := by obtain ⟨a, c, e, _⟩ := h; exact ⟨a, _, c, e⟩
  subst hsl
  have HT := hid (two_new w (.cells #[.slice sa sn sc] 22) (.cells #[.int .i64 0] 3))
  have HK : Hid (Calls Try.prog 16 #[.func (.func 28) #[] #[.pointer (some ⟨w.heap.size, 0, none⟩), .pointer (some ⟨w.heap.size + 1, 0, none⟩)]] ((w.alloc (.cells #[.slice sa sn sc] 22)).alloc (.cells #[.int .i64 0] 3)) fun x w'' => x = .returned (.int .i64 (szE l)) ∧ w''.heap[w.heap.size + 1]? = some (.cells #[.int .i64 (szN l)] 3 (0, 0)) ∧ Below w.heap.size w w'') := hid (by
    obtain ⟨⟨t1, t2⟩, t3, t4⟩ := HT.out
    obtain ⟨W, hW⟩ : ∃ W, W = (w.alloc (.cells #[.slice sa sn sc] 22)).alloc (.cells #[.int .i64 0] 3) := ⟨_, rfl⟩
    rw [← hW] at t1 t2 t3 t4 ⊢
    have lv : ELie (W.alloc (.cells #[.int .i64 0] 25)) (.slice sa sn sc) l := (HV.out.below t4).below (below_alloc _ _)
    have u1 : (W.alloc (.cells #[.int .i64 0] 25)).heap[w.heap.size]? = some (.cells #[.slice sa sn sc] 22 (0, 0)) := (alloc_past _ _ (by omega)).trans t1
    have u2 : (W.alloc (.cells #[.int .i64 0] 25)).heap[w.heap.size + 1]? = some (.cells #[.int .i64 0] 3 (0, 0)) := (alloc_past _ _ (by omega)).trans t2
    cases ha : l.all rgt with
    | true =>
      have e1 : szE l = 0 := by unfold szE; rw [ha]; rfl
      have e2 : szN l = ((encs l).length : Nat) := by unfold szN; rw [ha]; rfl
      rw [e1, e2]
      refine att_ok t4 (by omega) (by omega) (calls28 _) ((size1_ok u1 u2 lv hok hn ha).mono ?_)
      rintro e w' ⟨rfl, w1, b1, rfl⟩
      rw [alloc_size] at b1
      refine ⟨rfl, ?_, (Kept.of_below b1).setCell 0 _⟩
      exact set_at ((b1.block _ (by omega)).trans u2) 0 _
    | false =>
      have e1 : szE l = 4 := by unfold szE; rw [ha]; rfl
      have e2 : szN l = 0 := by unfold szN; rw [ha]; rfl
      rw [e1, e2]
      refine att_no t4 (by omega) t2 (calls28 _) ((size1_no u1 lv hok hn ha).mono ?_)
      rintro e w' ⟨rfl, b1⟩
      rw [alloc_size] at b1
      exact ⟨rfl, b1⟩)
  clear h
  go_enter Try.func12, Try.ntmps12
  go_wp2_with (go_at_call 16; refine HK.out.mono ?_; rintro e w1 ⟨rfl, k1, b1⟩; have c1 := cell_at (i := 0) k1; have HB1 := hid b1; clear k1 b1; simp at c1)
  go_ret2
  exact ⟨rfl, HB1.out⟩
end Go.Proofs.Ytjphfpfagnhelaa
