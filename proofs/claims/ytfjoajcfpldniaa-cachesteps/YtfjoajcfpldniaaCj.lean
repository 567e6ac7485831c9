import Derived.Test.YtfjoajcfpldniaaCi
namespace Go.Proofs.Ytfjoajcfpldniaa
open Go.RowKit Go.Maps

section
variable {B g m N J U : Nat} {L : List Fr}
theorem load_arg {k : Int} {d : ByteArray} (hb : isB k d = false) (p : Value) (w : World) :
    Calls Try.prog 18 #[p, .int .i64 k, .string d] w fun e w' => e = .returned (.tuple #[.int .i64 0, .int .i64 1]) ∧ w' = w := by
  have HB := hid (isBlock_any k d w)
  rw [hb] at HB
  go_enter Try.func18, Try.ntmps18
  go_wp2_with (first | (go_at_call 36; refine (HB.out).mono ?_; rintro e w1 ⟨rfl, hw⟩; have hw := hw.symm; subst hw))
  go_ret2
  exact ⟨rfl, rfl⟩
theorem load_nil {k : Int} {d : ByteArray} (hb : isB k d = true) (w : World) :
    Calls Try.prog 18 #[.pointer none, .int .i64 k, .string d] w fun e w' => e = .returned (.tuple #[.int .i64 0, .int .i64 5]) ∧ w' = w := by
  have HB := hid (isBlock_any k d w)
  rw [hb] at HB
  go_enter Try.func18, Try.ntmps18
  go_wp2_with (first
    | (go_at_call 36; refine (HB.out).mono ?_; rintro e w1 ⟨rfl, hw⟩; have hw := hw.symm; subst hw)
    | (go_at_call 37; refine (find_nil _ _).mono ?_; rintro e w1 ⟨rfl, hw⟩; have hw := hw.symm; subst hw)
    | (go_at_call 38; refine (room_nil _).mono ?_; rintro e w1 ⟨rfl, hw⟩; have hw := hw.symm; subst hw))
  go_ret2
  exact ⟨rfl, rfl⟩
theorem load_state {k : Int} {d : ByteArray} (hk : inI k) (hb : isB k d = true) {f : Fr} (hf : findF L k = some f) (w : World) (h : CS B g m w N J L U) :
    Calls Try.prog 18 #[.pointer (some ⟨g, 0, none⟩), .int .i64 k, .string d] w fun e w' => e = .returned (.tuple #[.int .i64 0, .int .i64 7]) ∧ w' = w := by
  have HB := hid (isBlock_any k d w)
  rw [hb] at HB
  have HF := hid (find_yes hk hf w h)
  go_enter Try.func18, Try.ntmps18
  go_wp2_with (first
    | (go_at_call 36; refine (HB.out).mono ?_; rintro e w1 ⟨rfl, hw⟩; have hw := hw.symm; subst hw)
    | (go_at_call 37; refine (HF.out).mono ?_; rintro e w1 ⟨rfl, hw⟩; have hw := hw.symm; subst hw))
  go_ret2
  exact ⟨rfl, rfl⟩
theorem load_full {k : Int} {d : ByteArray} (hk : inI k) (hb : isB k d = true) (hf : findF L k = none) (hge : N ≤ L.length) (hno : ∀ f ∈ L, idleF f = false) (w : World) (h : CS B g m w N J L U) :
    Calls Try.prog 18 #[.pointer (some ⟨g, 0, none⟩), .int .i64 k, .string d] w fun e w' => e = .returned (.tuple #[.int .i64 0, .int .i64 5]) ∧ Below w.heap.size w w' := by
  have HB := hid (isBlock_any k d w)
  rw [hb] at HB
  have HF := hid (find_no hk hf w h)
  have HM := hid (room_none hge hno w h)
  clear hno
  go_enter Try.func18, Try.ntmps18
  go_wp2_with (first
    | (go_at_call 36; refine (HB.out).mono ?_; rintro e w1 ⟨rfl, hw⟩; have hw := hw.symm; subst hw)
    | (go_at_call 37; refine (HF.out).mono ?_; rintro e w1 ⟨rfl, hw⟩; have hw := hw.symm; subst hw)
    | (go_at_call 38; refine (HM.out).mono ?_; rintro e w1 ⟨rfl, hb1⟩))
  go_ret2
  exact ⟨rfl, hb1⟩
/-- a new frame: its memory made, put into the map, its use noted -/
theorem CS.add {w : World} (h : CS B g m w N J L U) (hJ : J + 1 ≤ 90000) (hl : L.length < N) {k : Int} {d : ByteArray} (hb : isB k d = true) (hno : ∀ f ∈ L, f.b ≠ k) :
    ∃ w3, (Instr.mapUpdate 55 (.map (some m)) (.int .i64 k) (.pointer (some ⟨w.heap.size, 0, none⟩))).run Try.prog (w.alloc (.cells #[.int .i64 0, .bool false, .int .i64 0, .int .i64 k, .string d] 73)) = .ok () w3 ∧
      w3.heap[g]? = some (.cells #[.int .i64 (N : Int), .map (some m), .int .i64 (U : Int)] 57 (0, 0)) ∧ FIs w3 ⟨w.heap.size, k, 0, false, 0, d⟩ ∧ w.heap.size ≠ g ∧
      CS B g m ((w3.setCell ⟨g, 2, none⟩ (.int .i64 ((U + 1 : Nat) : Int))).setCell ⟨w.heap.size, 2, none⟩ (.int .i64 ((U + 1 : Nat) : Int))) N (J + 1) (L ++ [⟨w.heap.size, k, 0, false, ((U + 1 : Nat) : Int), d⟩]) (U + 1) ∧
      Only (fpC g m L) w ((w3.setCell ⟨g, 2, none⟩ (.int .i64 ((U + 1 : Nat) : Int))).setCell ⟨w.heap.size, 2, none⟩ (.int .i64 ((U + 1 : Nat) : Int))) := by
  obtain ⟨hk0, hk1, hd⟩ := of_decide_eq_true hb
  have hgl := h.glt
  have hml := h.mp.lt
  obtain ⟨A, hA⟩ : ∃ A, A = w.heap.size := ⟨_, rfl⟩
  obtain ⟨w2, hw2⟩ : ∃ w2, w2 = w.alloc (.cells #[.int .i64 0, .bool false, .int .i64 0, .int .i64 k, .string d] 73) := ⟨_, rfl⟩
  have hb2 : Below w.heap.size w w2 := by rw [hw2]; exact below_alloc _ _
  have hX : w2.heap[A]? = some (.cells #[.int .i64 0, .bool false, .int .i64 0, .int .i64 k, .string d] 73 (0, 0)) := by rw [hw2, hA]; exact box_at _ _
  have hs2 : w2.heap.size = A + 1 := by rw [hw2, hA]; simp
  rw [← hw2, ← hA]
  have h2 := h.below hb2
  obtain ⟨w3, hrun, hM3, hg3, hs3⟩ := h2.mp.store (by have := h.j1; omega) ⟨k, A⟩ ⟨by show _ ≤ k; omega, by show k ≤ _; omega⟩ (by
    rw [List.any_eq_false]
    intro x hx
    obtain ⟨f, hf, rfl⟩ := List.mem_map.1 hx
    simpa [ent] using hno f hf)
  have hk3 : ∀ x, x < w2.heap.size → x ≠ m → w3.heap[x]? = w2.heap[x]? := fun x hx hne => hg3.block x hx (fun e => hne (by cases e; rfl))
  have hAm : A ≠ m := by omega
  have hAg : A ≠ g := by omega
  have gA : w3.heap[A]? = _ := (hk3 A (by omega) hAm).trans hX
  have gg : w3.heap[g]? = _ := (hk3 g (by have := h2.glt; omega) h.gm).trans h2.c
  refine ⟨w3, hrun, gg, gA, hAg, ?_, ?_⟩
  · have g1 : (w3.setCell ⟨g, 2, none⟩ (.int .i64 ((U + 1 : Nat) : Int))).heap[g]? = some (.cells #[.int .i64 (N : Int), .map (some m), .int .i64 ((U + 1 : Nat) : Int)] 57 (0, 0)) := (cells_set gg _).trans (by simp)
    have o1 : ∀ x, x ≠ g → x ≠ A → ((w3.setCell ⟨g, 2, none⟩ (.int .i64 ((U + 1 : Nat) : Int))).setCell ⟨A, 2, none⟩ (.int .i64 ((U + 1 : Nat) : Int))).heap[x]? = w3.heap[x]? := fun x h1 h2 => (Below.heap_setCell _ _ _ _ h2).trans (Below.heap_setCell _ _ _ _ h1)
    have f1 : (w3.setCell ⟨g, 2, none⟩ (.int .i64 ((U + 1 : Nat) : Int))).heap[A]? = _ := (Below.heap_setCell _ _ _ _ hAg).trans gA
    have f2 := (cells_set (j := 2) f1 (.int .i64 ((U + 1 : Nat) : Int))).trans (show _ = some (Obj.cells #[.int .i64 0, .bool false, .int .i64 ((U + 1 : Nat) : Int), .int .i64 k, .string d] 73 (0, 0)) by simp)
    have lt : ∀ f ∈ L, f.a < A := fun f hf => by rw [hA]; exact (h.fr f hf).lt
    refine ⟨(Below.heap_setCell _ _ _ _ hAg.symm).trans g1, ?_, ?_, ?_, ?_, ?_, by simp; omega, h.n1, by have := h.uj; omega, hJ, h.b1, h.b2, ?_⟩
    · rw [List.map_append]
      exact hM3.same (o1 m h.gm.symm hAm.symm)
    · intro y hy
      rcases List.mem_append.1 hy with hy | hy
      · have := lt y hy
        exact (h2.fr y hy).same ((o1 _ (h.ag hy) (by omega)).trans (hk3 _ (h2.fr y hy).lt (h.am hy)))
      · rw [List.mem_singleton] at hy
        subst hy
        exact f2
    · rw [List.pairwise_append]
      refine ⟨h.us, by simp, ?_⟩
      intro x hx y hy
      rw [List.mem_singleton] at hy
      subst hy
      have := h.ub x hx
      show x.u < ((U + 1 : Nat) : Int)
      omega
    · intro y hy
      rcases List.mem_append.1 hy with hy | hy
      · have := h.ub y hy
        omega
      · rw [List.mem_singleton] at hy
        subst hy
        exact Int.le_refl _
    · intro y hy
      rcases List.mem_append.1 hy with hy | hy
      · have := h.rt y hy
        exact ⟨this.1, this.2.1, this.2.2.1, by omega⟩
      · rw [List.mem_singleton] at hy
        subst hy
        exact ⟨⟨hk0, hk1⟩, hd, Int.le_refl _, by show (0 : Int) ≤ _; omega⟩
    · intro y hy
      rcases List.mem_append.1 hy with hy | hy
      · exact h.b3 y hy
      · rw [List.mem_singleton] at hy
        subst hy
        have := h.b1
        show B ≤ A
        omega
  · have os2 := hb2.os
    refine ⟨hg3.os.trans hb2.os, hg3.tape.trans hb2.tape, hg3.output.trans hb2.output, by simp; omega, fun x hx hn => ?_⟩
    have hxg : x ≠ g := by rintro rfl; exact hn (by simp [fpC])
    have hxm : x ≠ m := by rintro rfl; exact hn (by simp [fpC])
    exact (Below.heap_setCell _ _ _ _ (by show x ≠ A; omega)).trans ((Below.heap_setCell _ _ _ _ hxg).trans ((hk3 x (by omega) hxm).trans (hb2.block x hx)))
theorem Only.sub {L1 : List Fr} {w w' : World} (h : Only (fpC g m L1) w w') (hs : ∀ f ∈ L1, f ∈ L) : Only (fpC g m L) w w' := by
  refine h.mono ?_
  intro x hx
  unfold fpC at *
  rcases List.mem_cons.1 hx with rfl | hx
  · simp
  · rcases List.mem_cons.1 hx with rfl | hx
    · simp
    · obtain ⟨y, hy, rfl⟩ := List.mem_map.1 hx
      exact List.mem_cons_of_mem _ (List.mem_cons_of_mem _ (List.mem_map.2 ⟨y, hs y hy, rfl⟩))
set_option maxRecDepth 100000 in
theorem load_ok {k : Int} {d : ByteArray} (hk : inI k) (hb : isB k d = true) (hf : findF L k = none) (hJ : J + 1 ≤ 90000) (out : Int) (L1 : List Fr) (hl1 : L1.length < N) (hsub : ∀ f ∈ L1, f ∈ L) (w : World) (h : CS B g m w N J L U)
    (HM0 : Calls Try.prog 38 #[.pointer (some ⟨g, 0, none⟩)] w fun e w' => e = .returned (.tuple #[.int .i64 out, .bool true]) ∧ CS B g m w' N J L1 U ∧ Only (fpC g m L) w w') :
    Calls Try.prog 18 #[.pointer (some ⟨g, 0, none⟩), .int .i64 k, .string d] w fun e w' => e = .returned (.tuple #[.int .i64 out, .int .i64 0]) ∧ ∃ a, w.heap.size ≤ a ∧ CS B g m w' N (J + 1) (L1 ++ [⟨a, k, 0, false, ((U + 1 : Nat) : Int), d⟩]) (U + 1) ∧ Only (fpC g m L) w w' := by
  have HB := hid (isBlock_any k d w)
  rw [hb] at HB
  have HF := hid (find_no hk hf w h)
  have HNo := hid (findF_none hf)
  have HM := hid HM0
  have HSub := hid hsub
  clear HM0 hsub hf
  go_enter Try.func18, Try.ntmps18
  go_wp2_with (first
    | (go_at_call 36; refine (HB.out).mono ?_; rintro e w1 ⟨rfl, hw⟩; have hw := hw.symm; subst hw)
    | (go_at_call 37; refine (HF.out).mono ?_; rintro e w1 ⟨rfl, hw⟩; have hw := hw.symm; subst hw)
    | (go_at_call 38; fail))
  refine (HM.out).mono ?_
  rintro e w1 ⟨rfl, hC1, hO1⟩
  obtain ⟨w3, hrun, hg3, hF3, hne, hC4, hO4⟩ := hC1.add hJ hl1 hb (fun f hf => HNo.out f (HSub.out f hf))
  have HT := hid (touch_any g _ _ U (by have := hC1.uj; have := hC1.j1; omega) _ w3 hg3 hF3 hne)
  simp only at HT
  have HC4 := hid hC4
  have HO4 : Hid (Only (fpC g m L) w _) := hid (hO1.trans (hO4.sub HSub.out))
  obtain ⟨_, c1, _⟩ := (hC1.below (below_alloc w1 (.cells #[.int .i64 0, .bool false, .int .i64 0, .int .i64 k, .string d] 73))).cells
  have hgl := hC1.glt
  have hsz := hO1.size
  clear hC4 hO4 hg3 hF3 hne hC1 hO1
  go_wp2_with (first
    | (go_at_call 39; refine (HT.out).mono ?_; rintro e w5 ⟨rfl, hw⟩; have hw := hw.symm; subst hw))
  go_ret2
  exact ⟨rfl, w1.heap.size, hsz, HC4.out, HO4.out⟩
end
end Go.Proofs.Ytfjoajcfpldniaa
