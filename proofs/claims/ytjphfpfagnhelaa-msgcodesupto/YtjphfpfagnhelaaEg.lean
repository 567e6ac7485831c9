import Derived.Test.YtjphfpfagnhelaaEf
namespace Go.Proofs.Ytjphfpfagnhelaa
open Go.RowKit

theorem ret12 {a : Act} {w : World} {R : Nat} {m : Ent} {n e : Int} {post : Ending → World → Prop} (hb : Box R w m) (h2 : a.tmps.getD 2 undef = .pointer (some ⟨R, 0, none⟩)) (h3 : a.tmps.getD 3 undef = .int .i64 n) (h4 : a.tmps.getD 4 undef = .int .i64 e) (hd : a.defers = []) (hp : post (.returned (.tuple #[m.v, .int .i64 n, .int .i64 e])) w) : bodyPost Try.prog Try.f27 post .ret a w := ret3 rfl hb h2 h3 h4 hd hp
/-- while the reference reads an entry -/
structure QS (w0 : World) (R g : Nat) (w : World) (s : ByteArray) (e : Int) : Prop where
  rd : QIs g w s e
  res : Box R w Ent.zero
  Rg : R ≠ g
  lR : w0.heap.size ≤ R
  lg : w0.heap.size ≤ g
  bel : Below w0.heap.size w0 w
theorem QS.rdstep {w0 w w' : World} {R g : Nat} {s s' : ByteArray} {e e' : Int} (h : QS w0 R g w s e) (hr : QIs g w' s' e') (hk : Kept w.heap.size g w w') : QS w0 R g w' s' e' :=
  ⟨hr, h.res.kept hk h.res.lt h.Rg, h.Rg, h.lR, h.lg, h.bel.trans (hk.below h.bel.size h.lg)⟩
theorem QS.below {w0 w w' : World} {R g : Nat} {s : ByteArray} {e : Int} (h : QS w0 R g w s e) (k : Below w.heap.size w w') : QS w0 R g w' s e :=
  ⟨h.rd.below k, h.res.below k h.res.lt, h.Rg, h.lR, h.lg, h.bel.next k⟩
theorem QS.new (w : World) (s : ByteArray) : QS w w.heap.size (w.heap.size + 1) ((w.alloc (.cells #[.int .i64 0, .int .i64 0, .int .i64 0, .int .i64 0, .int .i64 0, .int .i64 0, .string ⟨#[]⟩, .string ⟨#[]⟩, .string ⟨#[]⟩] 54)).alloc (.cells #[.string s, .int .i64 0] 61)) s 0 := by
  obtain ⟨o, ho⟩ : ∃ o, o = Obj.cells #[.int .i64 0, .int .i64 0, .int .i64 0, .int .i64 0, .int .i64 0, .int .i64 0, .string ⟨#[]⟩, .string ⟨#[]⟩, .string ⟨#[]⟩] 54 := ⟨_, rfl⟩
  rw [← ho]
  have e1 : (w.alloc o).heap.size = w.heap.size + 1 := by show (w.heap.push _).size = _; simp
  have k1 := below_alloc w o
  have k2 := below_alloc (w.alloc o) (.cells #[.string s, .int .i64 0] 61)
  have hb0 : Box w.heap.size (w.alloc o) Ent.zero := by rw [ho]; exact box_at _ _
  refine ⟨?_, hb0.below k2 (by omega), by omega, Nat.le_refl _, by omega, k1.next k2⟩
  have := QIs.new s (w.alloc o)
  rw [e1] at this
  exact this
set_option maxRecDepth 100000 in
set_option maxHeartbeats 1000000 in
theorem rdecode_go (s0 s1 s2 s3 s4 s5 s6 s7 s8 s9 : ByteArray) (e0 e1 e2 e3 e4 e5 e6 e7 e8 e9 : Int) (n1 n2 n3 n4 n5 n6 : Int) (n7 n8 n9 : ByteArray) (r1 r2 r3 r4 r5 r6 r7 r8 r9 : Int) (he0 : e0 = 0) (hs : s0.size ≤ maxLen) (hl : s9.size ≤ s0.size)
    (H1 : ∀ g w, QIs g w s0 e0 → Calls Try.prog 26 #[.pointer (some ⟨g, 0, none⟩)] w fun x w' => x = .returned (.tuple #[.int .i64 n1, .int .i64 r1]) ∧ QIs g w' s1 e1 ∧ Kept w.heap.size g w w')
    (H2 : ∀ g w, QIs g w s1 e1 → Calls Try.prog 26 #[.pointer (some ⟨g, 0, none⟩)] w fun x w' => x = .returned (.tuple #[.int .i64 n2, .int .i64 r2]) ∧ QIs g w' s2 e2 ∧ Kept w.heap.size g w w')
    (H3 : ∀ g w, QIs g w s2 e2 → Calls Try.prog 26 #[.pointer (some ⟨g, 0, none⟩)] w fun x w' => x = .returned (.tuple #[.int .i64 n3, .int .i64 r3]) ∧ QIs g w' s3 e3 ∧ Kept w.heap.size g w w')
    (H4 : ∀ g w, QIs g w s3 e3 → Calls Try.prog 50 #[.pointer (some ⟨g, 0, none⟩)] w fun x w' => x = .returned (.tuple #[.int .i64 n4, .int .i64 r4]) ∧ QIs g w' s4 e4 ∧ Kept w.heap.size g w w')
    (H5 : ∀ g w, QIs g w s4 e4 → Calls Try.prog 50 #[.pointer (some ⟨g, 0, none⟩)] w fun x w' => x = .returned (.tuple #[.int .i64 n5, .int .i64 r5]) ∧ QIs g w' s5 e5 ∧ Kept w.heap.size g w w')
    (H6 : ∀ g w, QIs g w s5 e5 → Calls Try.prog 50 #[.pointer (some ⟨g, 0, none⟩)] w fun x w' => x = .returned (.tuple #[.int .i64 n6, .int .i64 r6]) ∧ QIs g w' s6 e6 ∧ Kept w.heap.size g w w')
    (H7 : ∀ g w, QIs g w s6 e6 → Calls Try.prog 51 #[.pointer (some ⟨g, 0, none⟩), .int .i64 4096] w fun x w' => x = .returned (.tuple #[.string n7, .int .i64 r7]) ∧ QIs g w' s7 e7 ∧ Kept w.heap.size g w w')
    (H8 : ∀ g w, QIs g w s7 e7 → Calls Try.prog 51 #[.pointer (some ⟨g, 0, none⟩), .int .i64 4096] w fun x w' => x = .returned (.tuple #[.string n8, .int .i64 r8]) ∧ QIs g w' s8 e8 ∧ Kept w.heap.size g w w')
    (H9 : ∀ g w, QIs g w s8 e8 → Calls Try.prog 51 #[.pointer (some ⟨g, 0, none⟩), .int .i64 4096] w fun x w' => x = .returned (.tuple #[.string n9, .int .i64 r9]) ∧ QIs g w' s9 e9 ∧ Kept w.heap.size g w w') (w : World) :
    Calls Try.prog 27 #[.string s0] w fun y w' => y = .returned (.tuple #[(decX ⟨n1, n2, n3, n4, n5, n6, n7, n8, n9⟩ e9).v, .int .i64 (decN ⟨n1, n2, n3, n4, n5, n6, n7, n8, n9⟩ e9 ((s0.size : Int) - (s9.size : Int))), .int .i64 (decE ⟨n1, n2, n3, n4, n5, n6, n7, n8, n9⟩ e9)]) ∧ Below w.heap.size w w' := by
  have hD := hid (QS.new w s0)
  rw [← he0] at hD
  subst he0
  unfold maxLen at hs
  have HK := hid (right_any ⟨n1, n2, n3, n4, n5, n6, n7, n8, n9⟩)
  replace H1 := hid H1
  replace H2 := hid H2
  replace H3 := hid H3
  replace H4 := hid H4
  replace H5 := hid H5
  replace H6 := hid H6
  replace H7 := hid H7
  replace H8 := hid H8
  replace H9 := hid H9
  by_cases he : e9 = 0
  · subst he
    cases hri : rgt ⟨n1, n2, n3, n4, n5, n6, n7, n8, n9⟩ with
    | true =>
      rw [hri] at HK
      have HX : Hid (decX ⟨n1, n2, n3, n4, n5, n6, n7, n8, n9⟩ 0 = ⟨n1, n2, n3, n4, n5, n6, n7, n8, n9⟩ ∧ decN ⟨n1, n2, n3, n4, n5, n6, n7, n8, n9⟩ 0 ((s0.size : Int) - (s9.size : Int)) = (s0.size : Int) - (s9.size : Int) ∧ decE ⟨n1, n2, n3, n4, n5, n6, n7, n8, n9⟩ 0 = 0) := by
        unfold decX decN decE; rw [hri]; exact ⟨rfl, rfl, rfl⟩
      rw [HX.out.1, HX.out.2.1, HX.out.2.2]
      clear hri HX
      simp only [Ent.v] at HK
      go_enter Try.func27, Try.ntmps27
      go_wp2_with (first
      | (go_at_call 26; have hk := H1; clear hk; refine (H1.out _ _ hD.out.rd).mono ?_; clear H1; rintro v w1 ⟨rfl, hr, hk⟩; replace hD := hid (hD.out.rdstep hr hk); clear hr hk)
      | (go_at_call 26; have hk := H2; clear hk; refine (H2.out _ _ hD.out.rd).mono ?_; clear H2; rintro v w2 ⟨rfl, hr, hk⟩; replace hD := hid (hD.out.rdstep hr hk); clear hr hk)
      | (go_at_call 26; have hk := H3; clear hk; refine (H3.out _ _ hD.out.rd).mono ?_; clear H3; rintro v w3 ⟨rfl, hr, hk⟩; replace hD := hid (hD.out.rdstep hr hk); clear hr hk)
      | (go_at_call 50; have hk := H4; clear hk; refine (H4.out _ _ hD.out.rd).mono ?_; clear H4; rintro v w4 ⟨rfl, hr, hk⟩; replace hD := hid (hD.out.rdstep hr hk); clear hr hk)
      | (go_at_call 50; have hk := H5; clear hk; refine (H5.out _ _ hD.out.rd).mono ?_; clear H5; rintro v w5 ⟨rfl, hr, hk⟩; replace hD := hid (hD.out.rdstep hr hk); clear hr hk)
      | (go_at_call 50; have hk := H6; clear hk; refine (H6.out _ _ hD.out.rd).mono ?_; clear H6; rintro v w6 ⟨rfl, hr, hk⟩; replace hD := hid (hD.out.rdstep hr hk); clear hr hk)
      | (go_at_call 51; have hk := H7; clear hk; refine (H7.out _ _ hD.out.rd).mono ?_; clear H7; rintro v w7 ⟨rfl, hr, hk⟩; replace hD := hid (hD.out.rdstep hr hk); clear hr hk)
      | (go_at_call 51; have hk := H8; clear hk; refine (H8.out _ _ hD.out.rd).mono ?_; clear H8; rintro v w8 ⟨rfl, hr, hk⟩; replace hD := hid (hD.out.rdstep hr hk); clear hr hk)
      | (go_at_call 51; have hk := H9; clear hk; refine (H9.out _ _ hD.out.rd).mono ?_; clear H9; rintro v w9 ⟨rfl, hr, hk⟩; replace hD := hid (hD.out.rdstep hr hk); clear hr hk; have g1 := hD.out.rd.c1; have gl := hD.out.rd.lt; have gm := hD.out.res.lt)
      | (go_at_call 38; refine (HK.out _).mono ?_; rintro v wk ⟨rfl, bk⟩; have HQ2 : Hid (Box w9.heap.size wk ⟨n1, n2, n3, n4, n5, n6, n7, n8, n9⟩) := hid ((show Box w9.heap.size _ ⟨n1, n2, n3, n4, n5, n6, n7, n8, n9⟩ from box_at w9 _).below bk (by simp)); replace hD := hid ((hD.out.below (below_alloc w9 _)).below bk); clear bk HK))
      obtain ⟨c0, c1, c2, c3, c4, c5, c6, c7, c8⟩ := HQ2.out.cells
      have g0 := hD.out.rd.c0
      have f0 := hD.out.res.free 0
      have f1 := hD.out.res.free 1
      have f2 := hD.out.res.free 2
      have f3 := hD.out.res.free 3
      have f4 := hD.out.res.free 4
      have f5 := hD.out.res.free 5
      have f6 := hD.out.res.free 6
      have f7 := hD.out.res.free 7
      have f8 := hD.out.res.free 8
      obtain ⟨q0, q1, q2, q3, q4, q5, q6, q7, q8⟩ := Box.cells (show Box w.heap.size _ ⟨0, 0, 0, 0, 0, 0, ByteArray.empty, ByteArray.empty, ByteArray.empty⟩ from hD.out.res)
      go_region
      all_goals
        go_wp2
        have hb := hD.out.res.setAll n1 n2 n3 n4 n5 n6 n7 n8 n9
        have hl := below_setAll hD.out.bel (Nat.le_refl _) n1 n2 n3 n4 n5 n6 n7 n8 n9
        refine ret12 (R := w.heap.size) (m := ⟨n1, n2, n3, n4, n5, n6, n7, n8, n9⟩) (n := (s0.size : Int) - (s9.size : Int)) (e := 0) ?_ ?_ ?_ ?_ ?_ ?_
        · exact hb.drew
        · simp [go_sem]
        · simp [go_sem]
        · simp [go_sem]
        · simp [go_sem]
        · exact ⟨rfl, hl.drew⟩
    | false =>
      rw [hri] at HK
      have HX : Hid (decX ⟨n1, n2, n3, n4, n5, n6, n7, n8, n9⟩ 0 = Ent.zero ∧ decN ⟨n1, n2, n3, n4, n5, n6, n7, n8, n9⟩ 0 ((s0.size : Int) - (s9.size : Int)) = 0 ∧ decE ⟨n1, n2, n3, n4, n5, n6, n7, n8, n9⟩ 0 = 4) := by
        unfold decX decN decE; rw [hri]; exact ⟨rfl, rfl, rfl⟩
      rw [HX.out.1, HX.out.2.1, HX.out.2.2]
      clear hri HX
      simp only [Ent.v] at HK
      go_enter Try.func27, Try.ntmps27
      go_wp2_with (first
      | (go_at_call 26; have hk := H1; clear hk; refine (H1.out _ _ hD.out.rd).mono ?_; clear H1; rintro v w1 ⟨rfl, hr, hk⟩; replace hD := hid (hD.out.rdstep hr hk); clear hr hk)
      | (go_at_call 26; have hk := H2; clear hk; refine (H2.out _ _ hD.out.rd).mono ?_; clear H2; rintro v w2 ⟨rfl, hr, hk⟩; replace hD := hid (hD.out.rdstep hr hk); clear hr hk)
      | (go_at_call 26; have hk := H3; clear hk; refine (H3.out _ _ hD.out.rd).mono ?_; clear H3; rintro v w3 ⟨rfl, hr, hk⟩; replace hD := hid (hD.out.rdstep hr hk); clear hr hk)
      | (go_at_call 50; have hk := H4; clear hk; refine (H4.out _ _ hD.out.rd).mono ?_; clear H4; rintro v w4 ⟨rfl, hr, hk⟩; replace hD := hid (hD.out.rdstep hr hk); clear hr hk)
      | (go_at_call 50; have hk := H5; clear hk; refine (H5.out _ _ hD.out.rd).mono ?_; clear H5; rintro v w5 ⟨rfl, hr, hk⟩; replace hD := hid (hD.out.rdstep hr hk); clear hr hk)
      | (go_at_call 50; have hk := H6; clear hk; refine (H6.out _ _ hD.out.rd).mono ?_; clear H6; rintro v w6 ⟨rfl, hr, hk⟩; replace hD := hid (hD.out.rdstep hr hk); clear hr hk)
      | (go_at_call 51; have hk := H7; clear hk; refine (H7.out _ _ hD.out.rd).mono ?_; clear H7; rintro v w7 ⟨rfl, hr, hk⟩; replace hD := hid (hD.out.rdstep hr hk); clear hr hk)
      | (go_at_call 51; have hk := H8; clear hk; refine (H8.out _ _ hD.out.rd).mono ?_; clear H8; rintro v w8 ⟨rfl, hr, hk⟩; replace hD := hid (hD.out.rdstep hr hk); clear hr hk)
      | (go_at_call 51; have hk := H9; clear hk; refine (H9.out _ _ hD.out.rd).mono ?_; clear H9; rintro v w9 ⟨rfl, hr, hk⟩; replace hD := hid (hD.out.rdstep hr hk); clear hr hk; have g1 := hD.out.rd.c1; have gl := hD.out.rd.lt; have gm := hD.out.res.lt)
      | (go_at_call 38; refine (HK.out _).mono ?_; rintro v wk ⟨rfl, bk⟩; replace hD := hid ((hD.out.below (below_alloc w9 _)).below bk); clear bk HK)
      | ((with_reducible refine at_store25 w.heap.size Ent.zero Ent.zero ?_ ?_ hD.out.res ?_); rfl; rfl; intro wr hBr hkr))
      exact ret12 hBr rfl rfl rfl rfl ⟨rfl, hD.out.bel.trans (hkr.below hD.out.bel.size (Nat.le_refl _))⟩
  · have HX : Hid (decX ⟨n1, n2, n3, n4, n5, n6, n7, n8, n9⟩ e9 = Ent.zero ∧ decN ⟨n1, n2, n3, n4, n5, n6, n7, n8, n9⟩ e9 ((s0.size : Int) - (s9.size : Int)) = 0 ∧ decE ⟨n1, n2, n3, n4, n5, n6, n7, n8, n9⟩ e9 = e9) := by
      unfold decX decN decE; rw [if_neg he, if_neg he, if_neg he]; exact ⟨rfl, rfl, rfl⟩
    rw [HX.out.1, HX.out.2.1, HX.out.2.2]
    have he' : (e9 != 0) = true := by simp [he]
    clear HX he
    go_enter Try.func27, Try.ntmps27
    go_wp2_with (first
      | (go_at_call 26; have hk := H1; clear hk; refine (H1.out _ _ hD.out.rd).mono ?_; clear H1; rintro v w1 ⟨rfl, hr, hk⟩; replace hD := hid (hD.out.rdstep hr hk); clear hr hk)
      | (go_at_call 26; have hk := H2; clear hk; refine (H2.out _ _ hD.out.rd).mono ?_; clear H2; rintro v w2 ⟨rfl, hr, hk⟩; replace hD := hid (hD.out.rdstep hr hk); clear hr hk)
      | (go_at_call 26; have hk := H3; clear hk; refine (H3.out _ _ hD.out.rd).mono ?_; clear H3; rintro v w3 ⟨rfl, hr, hk⟩; replace hD := hid (hD.out.rdstep hr hk); clear hr hk)
      | (go_at_call 50; have hk := H4; clear hk; refine (H4.out _ _ hD.out.rd).mono ?_; clear H4; rintro v w4 ⟨rfl, hr, hk⟩; replace hD := hid (hD.out.rdstep hr hk); clear hr hk)
      | (go_at_call 50; have hk := H5; clear hk; refine (H5.out _ _ hD.out.rd).mono ?_; clear H5; rintro v w5 ⟨rfl, hr, hk⟩; replace hD := hid (hD.out.rdstep hr hk); clear hr hk)
      | (go_at_call 50; have hk := H6; clear hk; refine (H6.out _ _ hD.out.rd).mono ?_; clear H6; rintro v w6 ⟨rfl, hr, hk⟩; replace hD := hid (hD.out.rdstep hr hk); clear hr hk)
      | (go_at_call 51; have hk := H7; clear hk; refine (H7.out _ _ hD.out.rd).mono ?_; clear H7; rintro v w7 ⟨rfl, hr, hk⟩; replace hD := hid (hD.out.rdstep hr hk); clear hr hk)
      | (go_at_call 51; have hk := H8; clear hk; refine (H8.out _ _ hD.out.rd).mono ?_; clear H8; rintro v w8 ⟨rfl, hr, hk⟩; replace hD := hid (hD.out.rdstep hr hk); clear hr hk)
      | (go_at_call 51; have hk := H9; clear hk; refine (H9.out _ _ hD.out.rd).mono ?_; clear H9; rintro v w9 ⟨rfl, hr, hk⟩; replace hD := hid (hD.out.rdstep hr hk); clear hr hk; have g1 := hD.out.rd.c1; have gl := hD.out.rd.lt; have gm := hD.out.res.lt))
    have hDa := hid (hD.out.below (below_alloc w9 (.cells #[.int .i64 n1, .int .i64 n2, .int .i64 n3, .int .i64 n4, .int .i64 n5, .int .i64 n6, .string n7, .string n8, .string n9] 54)))
    clear hD g1 gl gm
    obtain ⟨wL, hL⟩ : ∃ wL, wL = w9.alloc (.cells #[.int .i64 n1, .int .i64 n2, .int .i64 n3, .int .i64 n4, .int .i64 n5, .int .i64 n6, .string n7, .string n8, .string n9] 54) := ⟨_, rfl⟩
    rw [← hL] at hDa ⊢
    clear hL
    have hD := hDa
    clear hDa
    have g1 := hD.out.rd.c1
    have f0 := hD.out.res.free 0
    have f1 := hD.out.res.free 1
    have f2 := hD.out.res.free 2
    have f3 := hD.out.res.free 3
    have f4 := hD.out.res.free 4
    have f5 := hD.out.res.free 5
    have f6 := hD.out.res.free 6
    have f7 := hD.out.res.free 7
    have f8 := hD.out.res.free 8
    obtain ⟨q0, q1, q2, q3, q4, q5, q6, q7, q8⟩ := Box.cells (show Box w.heap.size _ ⟨0, 0, 0, 0, 0, 0, ByteArray.empty, ByteArray.empty, ByteArray.empty⟩ from hD.out.res)
    go_region
    all_goals
      go_wp2
      have hb := hD.out.res.setAll 0 0 0 0 0 0 ByteArray.empty ByteArray.empty ByteArray.empty
      have hl := below_setAll hD.out.bel (Nat.le_refl _) 0 0 0 0 0 0 ByteArray.empty ByteArray.empty ByteArray.empty
      refine ret12 (R := w.heap.size) (m := Ent.zero) (n := 0) (e := e9) ?_ ?_ ?_ ?_ ?_ ?_
      · exact hb.drew
      · simp [go_sem]
      · simp [go_sem]
      · simp [go_sem]
      · simp [go_sem]
      · exact ⟨rfl, hl.drew⟩
end Go.Proofs.Ytjphfpfagnhelaa
