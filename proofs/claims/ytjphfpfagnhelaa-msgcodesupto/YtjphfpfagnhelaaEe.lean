import Derived.Test.YtjphfpfagnhelaaEd
namespace Go.Proofs.Ytjphfpfagnhelaa
open Go.RowKit

set_option maxRecDepth 100000 in
set_option maxHeartbeats 400000 in
theorem read_go (s0 s1 s2 s3 s4 s5 s6 s7 s8 s9 : ByteArray) (e0 e1 e2 e3 e4 e5 e6 e7 e8 e9 : Int) (n1 n2 n3 n4 n5 n6 : Int) (n7 n8 n9 : ByteArray) (r1 r2 r3 r4 r5 r6 r7 r8 r9 : Int) (he0 : e0 = 0)
    (H1 : ∀ g w, RIs g w s0 e0 → Calls Try.prog 61 #[.pointer (some ⟨g, 0, none⟩)] w fun x w' => x = .returned (.tuple #[.int .i64 n1, .int .i64 r1]) ∧ RIs g w' s1 e1 ∧ Kept w.heap.size g w w')
    (H2 : ∀ g w, RIs g w s1 e1 → Calls Try.prog 61 #[.pointer (some ⟨g, 0, none⟩)] w fun x w' => x = .returned (.tuple #[.int .i64 n2, .int .i64 r2]) ∧ RIs g w' s2 e2 ∧ Kept w.heap.size g w w')
    (H3 : ∀ g w, RIs g w s2 e2 → Calls Try.prog 61 #[.pointer (some ⟨g, 0, none⟩)] w fun x w' => x = .returned (.tuple #[.int .i64 n3, .int .i64 r3]) ∧ RIs g w' s3 e3 ∧ Kept w.heap.size g w w')
    (H4 : ∀ g w, RIs g w s3 e3 → Calls Try.prog 72 #[.pointer (some ⟨g, 0, none⟩)] w fun x w' => x = .returned (.tuple #[.int .i64 n4, .int .i64 r4]) ∧ RIs g w' s4 e4 ∧ Kept w.heap.size g w w')
    (H5 : ∀ g w, RIs g w s4 e4 → Calls Try.prog 72 #[.pointer (some ⟨g, 0, none⟩)] w fun x w' => x = .returned (.tuple #[.int .i64 n5, .int .i64 r5]) ∧ RIs g w' s5 e5 ∧ Kept w.heap.size g w w')
    (H6 : ∀ g w, RIs g w s5 e5 → Calls Try.prog 72 #[.pointer (some ⟨g, 0, none⟩)] w fun x w' => x = .returned (.tuple #[.int .i64 n6, .int .i64 r6]) ∧ RIs g w' s6 e6 ∧ Kept w.heap.size g w w')
    (H7 : ∀ g w, RIs g w s6 e6 → Calls Try.prog 73 #[.pointer (some ⟨g, 0, none⟩), .int .i64 4096] w fun x w' => x = .returned (.tuple #[.string n7, .int .i64 r7]) ∧ RIs g w' s7 e7 ∧ Kept w.heap.size g w w')
    (H8 : ∀ g w, RIs g w s7 e7 → Calls Try.prog 73 #[.pointer (some ⟨g, 0, none⟩), .int .i64 4096] w fun x w' => x = .returned (.tuple #[.string n8, .int .i64 r8]) ∧ RIs g w' s8 e8 ∧ Kept w.heap.size g w w')
    (H9 : ∀ g w, RIs g w s8 e8 → Calls Try.prog 73 #[.pointer (some ⟨g, 0, none⟩), .int .i64 4096] w fun x w' => x = .returned (.tuple #[.string n9, .int .i64 r9]) ∧ RIs g w' s9 e9 ∧ Kept w.heap.size g w w') (w : World) :
    Calls Try.prog 62 #[.string s0] w fun y w' => y = .returned (.tuple #[Ent.v ⟨n1, n2, n3, n4, n5, n6, n7, n8, n9⟩, .int .i64 s9.size, .int .i64 r9]) ∧ Below w.heap.size w w' := by
  have hD := hid (DS.new w s0)
  rw [← he0] at hD
  subst he0
  replace H1 := hid H1
  replace H2 := hid H2
  replace H3 := hid H3
  replace H4 := hid H4
  replace H5 := hid H5
  replace H6 := hid H6
  replace H7 := hid H7
  replace H8 := hid H8
  replace H9 := hid H9
  have c := hD.out.box.free 0
  have f := c
  go_enter Try.func62, Try.ntmps62
  go_wp2_with (first
    | (go_at_call 45; refine (of_any _ _).mono ?_; rintro v wo ⟨rfl, hwo⟩; subst hwo)
    | (go_at_call 61; have hk := H1; clear hk c f; refine (H1.out _ _ hD.out.rd).mono ?_; clear H1; rintro v w1 ⟨rfl, hr, hk⟩; replace hD := hid (hD.out.rdstep hr hk); clear hr hk; have f := hD.out.box.free 0; have c := hD.out.box.cells.1)
    | (go_at_call 61; have hk := H2; clear hk c f; refine (H2.out _ _ (hD.out.set0 _).rd).mono ?_; clear H2; rintro v w2 ⟨rfl, hr, hk⟩; replace hD := hid ((hD.out.set0 _).rdstep hr hk); clear hr hk; have f := hD.out.box.free 1; have c := hD.out.box.cells.2.1)
    | (go_at_call 61; have hk := H3; clear hk c f; refine (H3.out _ _ (hD.out.set1 _).rd).mono ?_; clear H3; rintro v w3 ⟨rfl, hr, hk⟩; replace hD := hid ((hD.out.set1 _).rdstep hr hk); clear hr hk; have f := hD.out.box.free 2; have c := hD.out.box.cells.2.2.1)
    | (go_at_call 72; have hk := H4; clear hk c f; refine (H4.out _ _ (hD.out.set2 _).rd).mono ?_; clear H4; rintro v w4 ⟨rfl, hr, hk⟩; replace hD := hid ((hD.out.set2 _).rdstep hr hk); clear hr hk; have f := hD.out.box.free 3; have c := hD.out.box.cells.2.2.2.1)
    | (go_at_call 72; have hk := H5; clear hk c f; refine (H5.out _ _ (hD.out.set3 _).rd).mono ?_; clear H5; rintro v w5 ⟨rfl, hr, hk⟩; replace hD := hid ((hD.out.set3 _).rdstep hr hk); clear hr hk; have f := hD.out.box.free 4; have c := hD.out.box.cells.2.2.2.2.1)
    | (go_at_call 72; have hk := H6; clear hk c f; refine (H6.out _ _ (hD.out.set4 _).rd).mono ?_; clear H6; rintro v w6 ⟨rfl, hr, hk⟩; replace hD := hid ((hD.out.set4 _).rdstep hr hk); clear hr hk; have f := hD.out.box.free 5; have c := hD.out.box.cells.2.2.2.2.2.1)
    | (go_at_call 73; have hk := H7; clear hk c f; refine (H7.out _ _ (hD.out.set5 _).rd).mono ?_; clear H7; rintro v w7 ⟨rfl, hr, hk⟩; replace hD := hid ((hD.out.set5 _).rdstep hr hk); clear hr hk; have f := hD.out.box.free 6; have c := hD.out.box.cells.2.2.2.2.2.2.1)
    | (go_at_call 73; have hk := H8; clear hk c f; refine (H8.out _ _ (hD.out.set6 _).rd).mono ?_; clear H8; rintro v w8 ⟨rfl, hr, hk⟩; replace hD := hid ((hD.out.set6 _).rdstep hr hk); clear hr hk; have f := hD.out.box.free 7; have c := hD.out.box.cells.2.2.2.2.2.2.2.1)
    | (go_at_call 73; have hk := H9; clear hk c f; refine (H9.out _ _ (hD.out.set7 _).rd).mono ?_; clear H9; rintro v w9 ⟨rfl, hr, hk⟩; replace hD := hid ((hD.out.set7 _).rdstep hr hk); clear hr hk; have f := hD.out.box.free 8; have c := hD.out.box.cells.2.2.2.2.2.2.2.2))
  have hNL := hD.out.set8 n9
  clear c f
  obtain ⟨wL, hL⟩ : ∃ wL, wL = w9.setCell ⟨w.heap.size + 2, 8, none⟩ (.string n9) := ⟨_, rfl⟩
  rw [← hL] at hNL ⊢
  clear hL hD
  have hN := hid hNL
  clear hNL
  obtain ⟨c0, c1, c2, c3, c4, c5, c6, c7, c8⟩ := hN.out.box.cells
  obtain ⟨r0, r1', r2', r3', r4', r5', r6', r7', r8'⟩ := Box.cells (show Box w.heap.size wL ⟨0, 0, 0, 0, 0, 0, ByteArray.empty, ByteArray.empty, ByteArray.empty⟩ from hN.out.res)
  have f0 := hN.out.res.free 0
  have f1 := hN.out.res.free 1
  have f2 := hN.out.res.free 2
  have f3 := hN.out.res.free 3
  have f4 := hN.out.res.free 4
  have f5 := hN.out.res.free 5
  have f6 := hN.out.res.free 6
  have f7 := hN.out.res.free 7
  have f8 := hN.out.res.free 8
  go_region_with (go_at_call 47; refine (left_r (w.heap.size + 1) s9 e9 _ (by exact hN.out.rd)).mono ?_; rintro v wx ⟨rfl, hwx⟩; subst hwx)
  all_goals
    go_wp2
    have hb := hN.out.res.setAll n1 n2 n3 n4 n5 n6 n7 n8 n9
    have hl := below_setAll hN.out.bel (Nat.le_refl _) n1 n2 n3 n4 n5 n6 n7 n8 n9
    refine ret40 (R := w.heap.size) (m := ⟨n1, n2, n3, n4, n5, n6, n7, n8, n9⟩) (n := s9.size) (e := r9) ?_ ?_ ?_ ?_ ?_ ?_
    · exact hb.drew
    · simp [Act.put, go_sem]
    · simp [Act.put, go_sem]
    · simp [Act.put, go_sem]
    · simp [Act.put, go_sem]
    · exact ⟨rfl, hl.drew⟩
end Go.Proofs.Ytjphfpfagnhelaa
