import Derived.Test.YtjphfpfagnhelaaMj
namespace Go.Proofs.Ytjphfpfagnhelaa
open Go.RowKit Go.Maps Go.Shelf

/-- entries do not lie in a block of few cells -/
theorem ELie.keptS {w w' : World} {v : Value} {l : List Ent} {g : Nat} {cs : Array Value} {t : TypeId} (h : ELie w v l) (hg : w.heap[g]? = some (.cells cs t (0, 0))) (hc : cs.size ≤ 8) (k : Kept w.heap.size g w w') : ELie w' v l := by
  obtain ⟨ao, cap, e, h1, h2, h3⟩ := h
  refine ⟨ao, cap, e, h1, h2, fun i hi => ?_⟩
  obtain ⟨gb, off, e1, hgb, c⟩ := h3 i hi
  refine ⟨gb, off, e1, Nat.lt_of_lt_of_le hgb k.size, c.same (k.block gb hgb ?_)⟩
  rintro rfl
  have c8 := c.2.2.2.2.2.2.2.2
  rw [cell_at hg, Array.getElem?_eq_none (by omega)] at c8
  cases c8
theorem att_okP {w W : World} {K b2 : Nat} {Q : World → Prop} {caps : Array Value} (hW : Below w.heap.size w W) (h2 : w.heap.size ≤ b2) (h3 : b2 < W.heap.size) (hk : ∀ w, (callFunc K caps).run Try.prog w = .ok (.enter K caps) w)
    (h : Calls Try.prog K caps (W.alloc (.cells #[.int .i64 0] 25)) fun e w' => e = .returned (.tuple #[]) ∧ Q w' ∧ Kept (W.heap.size + 1) b2 (W.alloc (.cells #[.int .i64 0] 25)) w') :
    Calls Try.prog 16 #[.func (.func K) #[] caps] W fun x w'' => x = .returned (.int .i64 0) ∧ (∃ w', Q w' ∧ w'.heap[W.heap.size]? = some (.cells #[.int .i64 0] 25 (0, 0)) ∧ w'' = w'.setCell ⟨W.heap.size, 0, none⟩ (.int .i64 0)) ∧ (∀ j, j < W.heap.size → j ≠ b2 → w''.heap[j]? = W.heap[j]?) ∧ Below w.heap.size w w'' := by
  refine (attempt_ok (Q := fun w' => (Q w' ∧ w'.heap[W.heap.size]? = some (.cells #[.int .i64 0] 25 (0, 0))) ∧ Kept (W.heap.size + 1) b2 (W.alloc (.cells #[.int .i64 0] 25)) w') hk (h.mono ?_)).mono ?_
  · rintro e w' ⟨rfl, k1, k2⟩
    have hb := (k2.block W.heap.size (by omega) (by omega)).trans (box_at _ _)
    exact ⟨rfl, hb, ⟨k1, hb⟩, k2⟩
  · rintro e w'' ⟨rfl, w', ⟨k1, k2⟩, rfl⟩
    refine ⟨rfl, ⟨w', k1.1, k1.2, rfl⟩, fun j hj hjb => ?_, ?_⟩
    · exact (set_off 0 _ (by omega)).trans ((k2.block j (by omega) hjb).trans (alloc_past _ _ hj))
    · have b1 : Below w.heap.size w w' := (hW.trans ((below_alloc W _).mono hW.size)).trans (k2.below (by have := hW.size; omega) h2)
      exact b1.setCell (p := ⟨W.heap.size, 0, none⟩) hW.size _
theorem att_noP {w W : World} {K : Nat} {e : Int} {caps : Array Value} (hW : Below w.heap.size w W) (hk : ∀ w, (callFunc K caps).run Try.prog w = .ok (.enter K caps) w)
    (h : Calls Try.prog K caps (W.alloc (.cells #[.int .i64 0] 25)) fun x w' => x = .panicked [brk e] ∧ Below (W.heap.size + 1) (W.alloc (.cells #[.int .i64 0] 25)) w') :
    Calls Try.prog 16 #[.func (.func K) #[] caps] W fun x w'' => x = .returned (.int .i64 e) ∧ (∀ j, j < W.heap.size → w''.heap[j]? = W.heap[j]?) ∧ Below w.heap.size w w'' := by
  refine (attempt_no (e := e) (Q := fun w' => Below (W.heap.size + 1) (W.alloc (.cells #[.int .i64 0] 25)) w') hk (h.mono ?_)).mono ?_
  · rintro x w' ⟨rfl, k2⟩
    exact ⟨rfl, (k2.block W.heap.size (by omega)).trans (box_at _ _), k2⟩
  · rintro x w'' ⟨rfl, w', k2, rfl⟩
    have b1 : Below w.heap.size w w' := (hW.trans ((below_alloc W _).mono hW.size)).trans (k2.mono (by have := hW.size; omega))
    have b2' : Below w.heap.size w (w'.setCell ⟨W.heap.size, 0, none⟩ (.int .i64 e)) := b1.setCell (p := ⟨W.heap.size, 0, none⟩) hW.size _
    have s1 := k2.size
    rw [alloc_size] at s1
    refine ⟨rfl, fun j hj => ?_, b2'.alloc (by rw [set_size]; have := hW.size; omega) _⟩
    rw [alloc_past _ _ (by rw [set_size]; omega), set_off 0 _ (by omega), k2.block j (by omega), alloc_past _ _ hj]
theorem calls23 (a : Array Value) (w : World) : (callFunc 23 a).run Try.prog w = .ok (.enter 23 a) w := by simp [go_sem]
set_option maxRecDepth 100000 in
theorem dec1_ok {w : World} {b1 b2 : Nat} {s : ByteArray} {K V N A C : Int} {es : List Ent} (h1 : w.heap[b1]? = some (.cells #[.string s] 9 (0, 0))) (h2 : MBox b2 w 0 0 0 0 0 (.slice none 0 0)) (HR : Calls Try.prog 24 #[.string s] w fun e w' => (∃ sl, e = .returned (.agg #[.int .i64 K, .int .i64 V, .int .i64 N, .int .i64 A, .int .i64 C, sl]) ∧ ELie w' sl es) ∧ Below w.heap.size w w') :
    Calls Try.prog 23 #[.pointer (some ⟨b1, 0, none⟩), .pointer (some ⟨b2, 0, none⟩)] w fun e w' => e = .returned (.tuple #[]) ∧ (∃ sl, MBox b2 w' K V N A C sl ∧ ELie w' sl es) ∧ Kept w.heap.size b2 w w' := by
  have HH := hid HR
  have c1 : w.cell? ⟨b1, 0, none⟩ = some (.string s) := cell_at h1
  have H2 := hid h2
  clear HR h1 h2
  go_enter Try.func23, Try.ntmps23
  go_wp2_with (go_at_call 24; fail)
  refine HH.out.mono ?_
  rintro e w1 ⟨⟨sl, rfl, hl⟩, bl⟩
  obtain ⟨sa, sn, sc, hsl⟩ : ∃ a n c, sl = .slice a n c := by obtain ⟨a, c, e, _⟩ := hl; exact ⟨a, _, c, e⟩
  subst hsl
  have m1 : MBox b2 w1 0 0 0 0 0 (.slice none 0 0) := (bl.block b2 (lt_of_block H2.out)).trans H2.out
  have HL := hid hl
  have HB := hid bl
  have HM := hid m1
  clear hl bl m1
  go_wp2_with (refine at_store24 b2 _ _ _ _ _ _ rfl rfl HM.out rfl ?_; intro w9 m9 k9)
  go_end0
  exact ⟨rfl, ⟨_, m9, HL.out.keptS HM.out (by simp) k9⟩, (Kept.of_below HB.out).trans ⟨k9.os, k9.tape, k9.output, k9.size, fun j hj hg => k9.block j (Nat.lt_of_lt_of_le hj HB.out.size) hg⟩⟩
set_option maxRecDepth 100000 in
theorem dec1_no {w : World} {b1 : Nat} {p : Value} {s : ByteArray} {er : Int} (h1 : w.heap[b1]? = some (.cells #[.string s] 9 (0, 0))) (HR : Calls Try.prog 24 #[.string s] w fun e w' => e = .panicked [brk er] ∧ Below w.heap.size w w') :
    Calls Try.prog 23 #[.pointer (some ⟨b1, 0, none⟩), p] w fun e w' => e = .panicked [brk er] ∧ Below w.heap.size w w' := by
  have HH := hid HR
  have c1 : w.cell? ⟨b1, 0, none⟩ = some (.string s) := cell_at h1
  clear HR h1
  go_enter Try.func23, Try.ntmps23
  go_wp2_with (go_at_call 24; fail)
  refine HH.out.mono ?_
  rintro e w1 ⟨rfl, bl⟩
  go_wp2
  exact ⟨rfl, rfl, bl⟩
/-- three new variables -/
theorem three_new (w : World) (o1 o2 o3 : Obj) : ((((w.alloc o1).alloc o2).alloc o3).heap[w.heap.size]? = some o1 ∧ (((w.alloc o1).alloc o2).alloc o3).heap[w.heap.size + 1]? = some o2 ∧ (((w.alloc o1).alloc o2).alloc o3).heap[w.heap.size + 2]? = some o3) ∧ (((w.alloc o1).alloc o2).alloc o3).heap.size = w.heap.size + 3 ∧ Below w.heap.size w (((w.alloc o1).alloc o2).alloc o3) := by
  obtain ⟨⟨t1, t2⟩, t3, t4⟩ := two_new w o1 o2
  refine ⟨⟨(alloc_past _ _ (by omega)).trans t1, (alloc_past _ _ (by omega)).trans t2, ?_⟩, ?_, t4.next (below_alloc _ _)⟩
  · rw [← t3]; exact box_at _ _
  · rw [alloc_size, t3]
set_option maxRecDepth 100000 in
set_option maxHeartbeats 1000000 in
theorem decode_ok (s : ByteArray) {K V N A C : Int} {es : List Ent} (HR : ∀ w, Calls Try.prog 24 #[.string s] w fun e w' => (∃ sl, e = .returned (.agg #[.int .i64 K, .int .i64 V, .int .i64 N, .int .i64 A, .int .i64 C, sl]) ∧ ELie w' sl es) ∧ Below w.heap.size w w') (w : World) :
    Calls Try.prog 10 #[.string s] w fun e w' => (∃ sl, e = .returned (.tuple #[.agg #[.int .i64 K, .int .i64 V, .int .i64 N, .int .i64 A, .int .i64 C, sl], .int .i64 0]) ∧ ELie w' sl es) ∧ Below w.heap.size w w' := by
  have hmf : ∀ (fn : Fn) (first cap : Array Value) (w : World), (Instr.makeFunc fn first cap).run Try.prog w = .ok (.func fn first cap) w := fun _ _ _ _ => rfl
  have HK : Hid (Calls Try.prog 16 #[.func (.func 23) #[] #[.pointer (some ⟨w.heap.size, 0, none⟩), .pointer (some ⟨w.heap.size + 2, 0, none⟩)]] (((w.alloc (.cells #[.string s] 9)).alloc (.cells #[.int .i64 0, .int .i64 0, .int .i64 0, .int .i64 0, .int .i64 0, .slice none 0 0] 24)).alloc (.cells #[.int .i64 0, .int .i64 0, .int .i64 0, .int .i64 0, .int .i64 0, .slice none 0 0] 24)) fun x w'' => x = .returned (.int .i64 0) ∧ (∃ sl, MBox (w.heap.size + 2) w'' K V N A C sl ∧ ELie w'' sl es) ∧ MBox (w.heap.size + 1) w'' 0 0 0 0 0 (.slice none 0 0) ∧ Below w.heap.size w w'') := hid (by
    obtain ⟨⟨t1, t2, t2'⟩, t3, t4⟩ := three_new w (.cells #[.string s] 9) (.cells #[.int .i64 0, .int .i64 0, .int .i64 0, .int .i64 0, .int .i64 0, .slice none 0 0] 24) (.cells #[.int .i64 0, .int .i64 0, .int .i64 0, .int .i64 0, .int .i64 0, .slice none 0 0] 24)
    obtain ⟨W, hW⟩ : ∃ W, W = ((w.alloc (.cells #[.string s] 9)).alloc (.cells #[.int .i64 0, .int .i64 0, .int .i64 0, .int .i64 0, .int .i64 0, .slice none 0 0] 24)).alloc (.cells #[.int .i64 0, .int .i64 0, .int .i64 0, .int .i64 0, .int .i64 0, .slice none 0 0] 24) := ⟨_, rfl⟩
    rw [← hW] at t1 t2 t2' t3 t4 ⊢
    have u1 : (W.alloc (.cells #[.int .i64 0] 25)).heap[w.heap.size]? = some (.cells #[.string s] 9 (0, 0)) := (alloc_past _ _ (by omega)).trans t1
    have u2 : MBox (w.heap.size + 2) (W.alloc (.cells #[.int .i64 0] 25)) 0 0 0 0 0 (.slice none 0 0) := (alloc_past _ _ (by omega)).trans t2'
    have hc := dec1_ok u1 u2 (HR _)
    rw [alloc_size] at hc
    refine (att_okP t4 (by omega) (by omega) (calls23 _) hc).mono ?_
    rintro x w'' ⟨rfl, ⟨w', ⟨sl, m1, m2⟩, m3, rfl⟩, k, b⟩
    refine ⟨rfl, ⟨sl, (set_off 0 _ (by omega)).trans m1, m2.keptS m3 (by simp) (kept_set _ _ _ _)⟩, (k _ (by omega) (by omega)).trans t2, b⟩)
  clear HR
  go_enter Try.func10, Try.ntmps10
  go_wp2_with (first | (go_at_call 16; refine HK.out.mono ?_; rintro e w1 ⟨rfl, ⟨sl, m1, m2⟩, m3, b1⟩; obtain ⟨sa, sn, sc, hsl⟩ : ∃ a n c, sl = .slice a n c := (by obtain ⟨a, c, e, _⟩ := m2; exact ⟨a, _, c, e⟩); subst hsl; obtain ⟨f0, f1, f2, f3, f4, f5⟩ := m1.cells; have HM2 := hid m2; have HM3 := hid m3; have HB1 := hid b1; clear m1 m2 m3 b1) | (refine at_store24 (w.heap.size + 1) _ _ _ _ _ _ rfl rfl HM3.out rfl ?_; intro w9 m9 k9))
  exact ret10 m9 rfl rfl rfl ⟨⟨_, rfl, HM2.out.keptS HM3.out (by simp) k9⟩, HB1.out.trans (k9.below HB1.out.size (by omega))⟩
set_option maxRecDepth 100000 in
set_option maxHeartbeats 1000000 in
theorem decode_no (s : ByteArray) {er : Int} (HR : ∀ w, Calls Try.prog 24 #[.string s] w fun e w' => e = .panicked [brk er] ∧ Below w.heap.size w w') (w : World) :
    Calls Try.prog 10 #[.string s] w fun e w' => e = .returned (.tuple #[.agg #[.int .i64 0, .int .i64 0, .int .i64 0, .int .i64 0, .int .i64 0, .slice none 0 0], .int .i64 er]) ∧ Below w.heap.size w w' := by
  have hmf : ∀ (fn : Fn) (first cap : Array Value) (w : World), (Instr.makeFunc fn first cap).run Try.prog w = .ok (.func fn first cap) w := fun _ _ _ _ => rfl
  have HK : Hid (Calls Try.prog 16 #[.func (.func 23) #[] #[.pointer (some ⟨w.heap.size, 0, none⟩), .pointer (some ⟨w.heap.size + 2, 0, none⟩)]] (((w.alloc (.cells #[.string s] 9)).alloc (.cells #[.int .i64 0, .int .i64 0, .int .i64 0, .int .i64 0, .int .i64 0, .slice none 0 0] 24)).alloc (.cells #[.int .i64 0, .int .i64 0, .int .i64 0, .int .i64 0, .int .i64 0, .slice none 0 0] 24)) fun x w'' => x = .returned (.int .i64 er) ∧ MBox (w.heap.size + 2) w'' 0 0 0 0 0 (.slice none 0 0) ∧ MBox (w.heap.size + 1) w'' 0 0 0 0 0 (.slice none 0 0) ∧ Below w.heap.size w w'') := hid (by
    obtain ⟨⟨t1, t2, t2'⟩, t3, t4⟩ := three_new w (.cells #[.string s] 9) (.cells #[.int .i64 0, .int .i64 0, .int .i64 0, .int .i64 0, .int .i64 0, .slice none 0 0] 24) (.cells #[.int .i64 0, .int .i64 0, .int .i64 0, .int .i64 0, .int .i64 0, .slice none 0 0] 24)
    obtain ⟨W, hW⟩ : ∃ W, W = ((w.alloc (.cells #[.string s] 9)).alloc (.cells #[.int .i64 0, .int .i64 0, .int .i64 0, .int .i64 0, .int .i64 0, .slice none 0 0] 24)).alloc (.cells #[.int .i64 0, .int .i64 0, .int .i64 0, .int .i64 0, .int .i64 0, .slice none 0 0] 24) := ⟨_, rfl⟩
    rw [← hW] at t1 t2 t2' t3 t4 ⊢
    have u1 : (W.alloc (.cells #[.int .i64 0] 25)).heap[w.heap.size]? = some (.cells #[.string s] 9 (0, 0)) := (alloc_past _ _ (by omega)).trans t1
    have hc := dec1_no (p := .pointer (some ⟨w.heap.size + 2, 0, none⟩)) u1 (HR _)
    rw [alloc_size] at hc
    refine (att_noP t4 (calls23 _) hc).mono ?_
    rintro x w'' ⟨rfl, k, b⟩
    exact ⟨rfl, (k _ (by omega)).trans t2', (k _ (by omega)).trans t2, b⟩)
  clear HR
  go_enter Try.func10, Try.ntmps10
  go_wp2_with (first | (go_at_call 16; refine HK.out.mono ?_; rintro e w1 ⟨rfl, m1, m3, b1⟩; obtain ⟨f0, f1, f2, f3, f4, f5⟩ := m1.cells; have HM3 := hid m3; have HB1 := hid b1; clear m1 m3 b1) | (refine at_store24 (w.heap.size + 1) _ _ _ _ _ _ rfl rfl HM3.out rfl ?_; intro w9 m9 k9))
  exact ret10 m9 rfl rfl rfl ⟨rfl, HB1.out.trans (k9.below HB1.out.size (by omega))⟩
end Go.Proofs.Ytjphfpfagnhelaa
