import Derived.Test.YtmabnnimacjplaaIu
namespace Go.Proofs.Ytmabnnimacjplaa
open Go.RowKit Go.Maps

theorem eqSame (n : Ino) (w : World) : (Op.equalIn 10000 24 n.v n.v).run Try.prog w = .ok true w := by rw [eqI]; simp
set_option maxRecDepth 100000 in
theorem back_no (b : ByteArray) (k : Int) (n : Ino) (h : rightI n = false) (w : World) : Calls Try.prog 7 #[.string b, .int .i64 k, n.v] w fun e w' => e = .returned (.bool true) ∧ Below w.heap.size w w' := by
  have HE := hid (encode_any n)
  have HS := hid speaks_any
  rw [show encV n = ByteArray.empty by unfold encV; rw [if_neg (by rw [h]; decide)], rightF h] at HE
  clear h
  obtain ⟨k', l, z, a, b1, c, d, e, f, s, t⟩ := n
  simp only [Ino.v] at HE ⊢
  go_enter Try.func7, Try.ntmps7
  go_wp2_with (first
    | (go_at_call 9; refine (HE.out _).mono ?_; rintro x w1 ⟨rfl, hb1⟩)
    | (go_at_call 15; refine (HS.out _).mono ?_; rintro x w2 ⟨rfl, hb2⟩))
  go_ret
  exact ⟨rfl, ((below_alloc _ _).next hb1).next hb2⟩
set_option maxRecDepth 100000 in
set_option maxHeartbeats 4000000 in
theorem back_err (b E : ByteArray) (k : Int) (n : Ino) (p : Int) (hp : p ≠ 0) (hE1 : ∀ w, Calls Try.prog 9 #[n.v] w fun x w' => x = .returned (.tuple #[.string E, .int .i64 0]) ∧ Below w.heap.size w w')
    (hD1 : ∀ w, Calls Try.prog 11 #[.string E] w fun x w' => x = .returned (.tuple #[n.v, .int .i64 0]) ∧ Below w.heap.size w w')
    (hP1 : ∀ w, Calls Try.prog 18 #[.string b, .int .i64 k, n.v] w fun x w' => x = .returned (.tuple #[.string ByteArray.empty, .int .i64 p]) ∧ Below w.heap.size w w') (w : World) : Calls Try.prog 7 #[.string b, .int .i64 k, n.v] w fun x w' => x = .returned (.bool true) ∧ Below w.heap.size w w' := by
  have HE := hid hE1
  have HD := hid hD1
  have HP := hid hP1
  have HS := hid speaks_any
  have heq := eqSame n
  clear hE1 hD1 hP1
  obtain ⟨k0, l, z, a, b1, cc, d, e, f, s, t⟩ := n
  simp only [Ino.v] at heq HE HD HP ⊢
  have HN : Hid (Box w.heap.size (w.alloc (.cells #[.int .i64 k0, .int .i64 l, .int .i64 z, .int .i64 a, .int .i64 b1, .int .i64 cc, .int .i64 d, .int .i64 e, .int .i64 f, .int .i64 s, .int .i64 t] 24)) ⟨k0, l, z, a, b1, cc, d, e, f, s, t⟩) := box_at _ _
  have HW : Hid (Below w.heap.size w (w.alloc (.cells #[.int .i64 k0, .int .i64 l, .int .i64 z, .int .i64 a, .int .i64 b1, .int .i64 cc, .int .i64 d, .int .i64 e, .int .i64 f, .int .i64 s, .int .i64 t] 24))) := below_alloc _ _
  go_enter Try.func7, Try.ntmps7
  go_wp2_with (first
    | (go_at_call 9; refine (HE.out _).mono ?_; rintro x w1 ⟨rfl, hb1⟩; replace HN := hid (show Box w.heap.size _ _ by first | exact HN.out.below hb1 | exact HN.out.below ((below_alloc _ _).next hb1)); replace HW := hid (show Below w.heap.size w _ by first | exact HW.out.next hb1 | exact (HW.out.next (below_alloc _ _)).next hb1); clear hb1; obtain ⟨c0, c1, c2, c3, c4, c5, c6, c7, c8, c9, c10⟩ := HN.out.cells; have hlt := HN.out.lt)
    | (go_at_call 11; clear c0 c1 c2 c3 c4 c5 c6 c7 c8 c9 c10 hlt; refine (HD.out _).mono ?_; rintro x w2 ⟨rfl, hb2⟩; replace HN := hid (show Box w.heap.size _ _ by first | exact HN.out.below hb2 | exact HN.out.below ((below_alloc _ _).next hb2)); replace HW := hid (show Below w.heap.size w _ by first | exact HW.out.next hb2 | exact (HW.out.next (below_alloc _ _)).next hb2); clear hb2; obtain ⟨c0, c1, c2, c3, c4, c5, c6, c7, c8, c9, c10⟩ := HN.out.cells; have hlt := HN.out.lt)
    | (go_at_call 18; clear c0 c1 c2 c3 c4 c5 c6 c7 c8 c9 c10 hlt; refine (HP.out _).mono ?_; rintro x w3 ⟨rfl, hb3⟩; replace HN := hid (show Box w.heap.size _ _ by first | exact HN.out.below hb3 | exact HN.out.below ((below_alloc _ _).next hb3)); replace HW := hid (show Below w.heap.size w _ by first | exact HW.out.next hb3 | exact (HW.out.next (below_alloc _ _)).next hb3); clear hb3; obtain ⟨c0, c1, c2, c3, c4, c5, c6, c7, c8, c9, c10⟩ := HN.out.cells; have hlt := HN.out.lt)
    | (go_at_call 15; refine (HS.out _).mono ?_; rintro x w4 ⟨rfl, hb4⟩; replace HN := hid (show Box w.heap.size _ _ by first | exact HN.out.below hb4 | exact HN.out.below ((below_alloc _ _).next hb4)); replace HW := hid (show Below w.heap.size w _ by first | exact HW.out.next hb4 | exact (HW.out.next (below_alloc _ _)).next hb4); clear hb4))
  go_ret
  exact ⟨rfl, HW.out⟩
set_option maxRecDepth 100000 in
set_option maxHeartbeats 8000000 in
theorem back_ok (b E c : ByteArray) (k : Nat) (n : Ino) (hk : k < 4) (hcs : c.size = 128) (gi : Nat → Ino) (pe : Nat → Int) (hE1 : ∀ w, Calls Try.prog 9 #[n.v] w fun x w' => x = .returned (.tuple #[.string E, .int .i64 0]) ∧ Below w.heap.size w w')
    (hD1 : ∀ w, Calls Try.prog 11 #[.string E] w fun x w' => x = .returned (.tuple #[n.v, .int .i64 0]) ∧ Below w.heap.size w w')
    (hP1 : ∀ w, Calls Try.prog 18 #[.string b, .int .i64 k, n.v] w fun x w' => x = .returned (.tuple #[.string c, .int .i64 0]) ∧ Below w.heap.size w w')
    (hC1 : ∀ i : Nat, i < 4 → i ≠ k → ∀ w, Calls Try.prog 16 #[.string c, .int .i64 i] w fun x w' => x = .returned (.tuple #[(gi i).v, .int .i64 (pe i)]) ∧ Below w.heap.size w w')
    (hC2 : ∀ w, Calls Try.prog 16 #[.string c, .int .i64 k] w fun x w' => x = .returned (.tuple #[n.v, .int .i64 0]) ∧ Below w.heap.size w w')
    (hB1 : ∀ i : Nat, i < 4 → ∀ w, Calls Try.prog 16 #[.string b, .int .i64 i] w fun x w' => x = .returned (.tuple #[(gi i).v, .int .i64 (pe i)]) ∧ Below w.heap.size w w')
    (w : World) : Calls Try.prog 7 #[.string b, .int .i64 k, n.v] w fun x w' => x = .returned (.bool true) ∧ Below w.heap.size w w' := by
  have HE := hid hE1
  have HD := hid hD1
  have HP := hid hP1
  have HS := hid speaks_any
  have heq := eqSame n
  have hq0 := eqSame (gi 0)
  have B0 : Hid (∀ w, Calls Try.prog 16 #[.string b, .int .i64 0] w fun x w' => x = .returned (.tuple #[(gi 0).v, .int .i64 (pe 0)]) ∧ Below w.heap.size w w') := hB1 0 (by decide)
  have hq1 := eqSame (gi 1)
  have B1 : Hid (∀ w, Calls Try.prog 16 #[.string b, .int .i64 1] w fun x w' => x = .returned (.tuple #[(gi 1).v, .int .i64 (pe 1)]) ∧ Below w.heap.size w w') := hB1 1 (by decide)
  have hq2 := eqSame (gi 2)
  have B2 : Hid (∀ w, Calls Try.prog 16 #[.string b, .int .i64 2] w fun x w' => x = .returned (.tuple #[(gi 2).v, .int .i64 (pe 2)]) ∧ Below w.heap.size w w') := hB1 2 (by decide)
  have hq3 := eqSame (gi 3)
  have B3 : Hid (∀ w, Calls Try.prog 16 #[.string b, .int .i64 3] w fun x w' => x = .returned (.tuple #[(gi 3).v, .int .i64 (pe 3)]) ∧ Below w.heap.size w w') := hB1 3 (by decide)
  rcases (show k = 0 ∨ k = 1 ∨ k = 2 ∨ k = 3 by omega) with rfl | rfl | rfl | rfl
  · have C0 : Hid (∀ w, Calls Try.prog 16 #[.string c, .int .i64 0] w fun x w' => x = .returned (.tuple #[n.v, .int .i64 0]) ∧ Below w.heap.size w w') := hC2
    have C1 : Hid (∀ w, Calls Try.prog 16 #[.string c, .int .i64 1] w fun x w' => x = .returned (.tuple #[(gi 1).v, .int .i64 (pe 1)]) ∧ Below w.heap.size w w') := hC1 1 (by decide) (by decide)
    have C2 : Hid (∀ w, Calls Try.prog 16 #[.string c, .int .i64 2] w fun x w' => x = .returned (.tuple #[(gi 2).v, .int .i64 (pe 2)]) ∧ Below w.heap.size w w') := hC1 2 (by decide) (by decide)
    have C3 : Hid (∀ w, Calls Try.prog 16 #[.string c, .int .i64 3] w fun x w' => x = .returned (.tuple #[(gi 3).v, .int .i64 (pe 3)]) ∧ Below w.heap.size w w') := hC1 3 (by decide) (by decide)
    clear hC1 hC2 hB1 hE1 hD1 hP1
    generalize gi 0 = g0 at *
    generalize pe 0 = p0 at *
    generalize gi 1 = g1 at *
    generalize pe 1 = p1 at *
    generalize gi 2 = g2 at *
    generalize pe 2 = p2 at *
    generalize gi 3 = g3 at *
    generalize pe 3 = p3 at *
    obtain ⟨gk0, gl0, gz0, ga0, gb0, gc0, gd0, ge0, gf0, gs0, gt0⟩ := g0
    obtain ⟨gk1, gl1, gz1, ga1, gb1, gc1, gd1, ge1, gf1, gs1, gt1⟩ := g1
    obtain ⟨gk2, gl2, gz2, ga2, gb2, gc2, gd2, ge2, gf2, gs2, gt2⟩ := g2
    obtain ⟨gk3, gl3, gz3, ga3, gb3, gc3, gd3, ge3, gf3, gs3, gt3⟩ := g3
    obtain ⟨k0, l, z, a, b1, cc, d, e, f, s, t⟩ := n
    simp only [Ino.v] at heq hq0 hq1 hq2 hq3 HE HD HP B0 B1 B2 B3 C0 C1 C2 C3 ⊢
    have HN : Hid (Box w.heap.size (w.alloc (.cells #[.int .i64 k0, .int .i64 l, .int .i64 z, .int .i64 a, .int .i64 b1, .int .i64 cc, .int .i64 d, .int .i64 e, .int .i64 f, .int .i64 s, .int .i64 t] 24)) ⟨k0, l, z, a, b1, cc, d, e, f, s, t⟩) := box_at _ _
    have HW : Hid (Below w.heap.size w (w.alloc (.cells #[.int .i64 k0, .int .i64 l, .int .i64 z, .int .i64 a, .int .i64 b1, .int .i64 cc, .int .i64 d, .int .i64 e, .int .i64 f, .int .i64 s, .int .i64 t] 24))) := below_alloc _ _
    go_enter Try.func7, Try.ntmps7
    go_wp2_with (first
      | (go_at_call 9; refine (HE.out _).mono ?_; rintro x w1 ⟨rfl, hb1⟩; replace HN := hid (show Box w.heap.size _ _ by first | exact HN.out.below hb1 | exact HN.out.below ((below_alloc _ _).next hb1)); replace HW := hid (show Below w.heap.size w _ by first | exact HW.out.next hb1 | exact (HW.out.next (below_alloc _ _)).next hb1); clear hb1; obtain ⟨c0, c1, c2, c3, c4, c5, c6, c7, c8, c9, c10⟩ := HN.out.cells; have hlt := HN.out.lt)
      | (go_at_call 11; clear c0 c1 c2 c3 c4 c5 c6 c7 c8 c9 c10 hlt; refine (HD.out _).mono ?_; rintro x w2 ⟨rfl, hb2⟩; replace HN := hid (show Box w.heap.size _ _ by first | exact HN.out.below hb2 | exact HN.out.below ((below_alloc _ _).next hb2)); replace HW := hid (show Below w.heap.size w _ by first | exact HW.out.next hb2 | exact (HW.out.next (below_alloc _ _)).next hb2); clear hb2; obtain ⟨c0, c1, c2, c3, c4, c5, c6, c7, c8, c9, c10⟩ := HN.out.cells; have hlt := HN.out.lt)
      | (go_at_call 18; clear c0 c1 c2 c3 c4 c5 c6 c7 c8 c9 c10 hlt; refine (HP.out _).mono ?_; rintro x w3 ⟨rfl, hb3⟩; replace HN := hid (show Box w.heap.size _ _ by first | exact HN.out.below hb3 | exact HN.out.below ((below_alloc _ _).next hb3)); replace HW := hid (show Below w.heap.size w _ by first | exact HW.out.next hb3 | exact (HW.out.next (below_alloc _ _)).next hb3); clear hb3; obtain ⟨c0, c1, c2, c3, c4, c5, c6, c7, c8, c9, c10⟩ := HN.out.cells; have hlt := HN.out.lt)
      | (go_at_call 15; refine (HS.out _).mono ?_; rintro x w4 ⟨rfl, hb4⟩; replace HN := hid (show Box w.heap.size _ _ by first | exact HN.out.below hb4 | exact HN.out.below ((below_alloc _ _).next hb4)); replace HW := hid (show Below w.heap.size w _ by first | exact HW.out.next hb4 | exact (HW.out.next (below_alloc _ _)).next hb4); clear hb4))
    clear c0 c1 c2 c3 c4 c5 c6 c7 c8 c9 c10 hlt
    refine wp_loop_rounds 5 ?_
    rw [rounds_succ]
    have tk : Hid True := trivial
    go_wp2_with (first
      | (go_at_call 16; clear tk; refine (C0.out _).mono ?_; rintro x wa ⟨rfl, hba⟩; replace HN := hid (show Box w.heap.size _ _ by first | exact HN.out.below hba | exact HN.out.below ((below_alloc _ _).next hba)); replace HW := hid (show Below w.heap.size w _ by first | exact HW.out.next hba | exact (HW.out.next (below_alloc _ _)).next hba); have HX : Hid (Box wa.heap.size (wa.alloc (.cells #[.int .i64 k0, .int .i64 l, .int .i64 z, .int .i64 a, .int .i64 b1, .int .i64 cc, .int .i64 d, .int .i64 e, .int .i64 f, .int .i64 s, .int .i64 t] 24)) ⟨k0, l, z, a, b1, cc, d, e, f, s, t⟩) := box_at _ _; clear hba)
      | (go_at_call 16; refine (B0.out _).mono ?_; rintro x wb ⟨rfl, hbb⟩; replace HN := hid (show Box w.heap.size _ _ by first | exact HN.out.below hbb | exact HN.out.below ((below_alloc _ _).next hbb)); replace HW := hid (show Below w.heap.size w _ by first | exact HW.out.next hbb | exact (HW.out.next (below_alloc _ _)).next hbb); replace HX := hid (HX.out.below hbb); obtain ⟨d0, d1, d2, d3, d4, d5, d6, d7, d8, d9, d10⟩ := HX.out.cells; have hlx := HX.out.lt; obtain ⟨c0, c1, c2, c3, c4, c5, c6, c7, c8, c9, c10⟩ := HN.out.cells; have hlt := HN.out.lt; clear hbb))
    clear d0 d1 d2 d3 d4 d5 d6 d7 d8 d9 d10 hlx c0 c1 c2 c3 c4 c5 c6 c7 c8 c9 c10 hlt HX
    rw [rounds_succ]
    have tk : Hid True := trivial
    go_wp2_with (first
      | (go_at_call 16; clear tk; refine (C1.out _).mono ?_; rintro x wa ⟨rfl, hba⟩; replace HN := hid (show Box w.heap.size _ _ by first | exact HN.out.below hba | exact HN.out.below ((below_alloc _ _).next hba)); replace HW := hid (show Below w.heap.size w _ by first | exact HW.out.next hba | exact (HW.out.next (below_alloc _ _)).next hba); have HX : Hid (Box wa.heap.size (wa.alloc (.cells #[.int .i64 gk1, .int .i64 gl1, .int .i64 gz1, .int .i64 ga1, .int .i64 gb1, .int .i64 gc1, .int .i64 gd1, .int .i64 ge1, .int .i64 gf1, .int .i64 gs1, .int .i64 gt1] 24)) ⟨gk1, gl1, gz1, ga1, gb1, gc1, gd1, ge1, gf1, gs1, gt1⟩) := box_at _ _; clear hba)
      | (go_at_call 16; refine (B1.out _).mono ?_; rintro x wb ⟨rfl, hbb⟩; replace HN := hid (show Box w.heap.size _ _ by first | exact HN.out.below hbb | exact HN.out.below ((below_alloc _ _).next hbb)); replace HW := hid (show Below w.heap.size w _ by first | exact HW.out.next hbb | exact (HW.out.next (below_alloc _ _)).next hbb); replace HX := hid (HX.out.below hbb); obtain ⟨d0, d1, d2, d3, d4, d5, d6, d7, d8, d9, d10⟩ := HX.out.cells; have hlx := HX.out.lt; obtain ⟨c0, c1, c2, c3, c4, c5, c6, c7, c8, c9, c10⟩ := HN.out.cells; have hlt := HN.out.lt; clear hbb))
    clear d0 d1 d2 d3 d4 d5 d6 d7 d8 d9 d10 hlx c0 c1 c2 c3 c4 c5 c6 c7 c8 c9 c10 hlt HX
    rw [rounds_succ]
    have tk : Hid True := trivial
    go_wp2_with (first
      | (go_at_call 16; clear tk; refine (C2.out _).mono ?_; rintro x wa ⟨rfl, hba⟩; replace HN := hid (show Box w.heap.size _ _ by first | exact HN.out.below hba | exact HN.out.below ((below_alloc _ _).next hba)); replace HW := hid (show Below w.heap.size w _ by first | exact HW.out.next hba | exact (HW.out.next (below_alloc _ _)).next hba); have HX : Hid (Box wa.heap.size (wa.alloc (.cells #[.int .i64 gk2, .int .i64 gl2, .int .i64 gz2, .int .i64 ga2, .int .i64 gb2, .int .i64 gc2, .int .i64 gd2, .int .i64 ge2, .int .i64 gf2, .int .i64 gs2, .int .i64 gt2] 24)) ⟨gk2, gl2, gz2, ga2, gb2, gc2, gd2, ge2, gf2, gs2, gt2⟩) := box_at _ _; clear hba)
      | (go_at_call 16; refine (B2.out _).mono ?_; rintro x wb ⟨rfl, hbb⟩; replace HN := hid (show Box w.heap.size _ _ by first | exact HN.out.below hbb | exact HN.out.below ((below_alloc _ _).next hbb)); replace HW := hid (show Below w.heap.size w _ by first | exact HW.out.next hbb | exact (HW.out.next (below_alloc _ _)).next hbb); replace HX := hid (HX.out.below hbb); obtain ⟨d0, d1, d2, d3, d4, d5, d6, d7, d8, d9, d10⟩ := HX.out.cells; have hlx := HX.out.lt; obtain ⟨c0, c1, c2, c3, c4, c5, c6, c7, c8, c9, c10⟩ := HN.out.cells; have hlt := HN.out.lt; clear hbb))
    clear d0 d1 d2 d3 d4 d5 d6 d7 d8 d9 d10 hlx c0 c1 c2 c3 c4 c5 c6 c7 c8 c9 c10 hlt HX
    rw [rounds_succ]
    have tk : Hid True := trivial
    go_wp2_with (first
      | (go_at_call 16; clear tk; refine (C3.out _).mono ?_; rintro x wa ⟨rfl, hba⟩; replace HN := hid (show Box w.heap.size _ _ by first | exact HN.out.below hba | exact HN.out.below ((below_alloc _ _).next hba)); replace HW := hid (show Below w.heap.size w _ by first | exact HW.out.next hba | exact (HW.out.next (below_alloc _ _)).next hba); have HX : Hid (Box wa.heap.size (wa.alloc (.cells #[.int .i64 gk3, .int .i64 gl3, .int .i64 gz3, .int .i64 ga3, .int .i64 gb3, .int .i64 gc3, .int .i64 gd3, .int .i64 ge3, .int .i64 gf3, .int .i64 gs3, .int .i64 gt3] 24)) ⟨gk3, gl3, gz3, ga3, gb3, gc3, gd3, ge3, gf3, gs3, gt3⟩) := box_at _ _; clear hba)
      | (go_at_call 16; refine (B3.out _).mono ?_; rintro x wb ⟨rfl, hbb⟩; replace HN := hid (show Box w.heap.size _ _ by first | exact HN.out.below hbb | exact HN.out.below ((below_alloc _ _).next hbb)); replace HW := hid (show Below w.heap.size w _ by first | exact HW.out.next hbb | exact (HW.out.next (below_alloc _ _)).next hbb); replace HX := hid (HX.out.below hbb); obtain ⟨d0, d1, d2, d3, d4, d5, d6, d7, d8, d9, d10⟩ := HX.out.cells; have hlx := HX.out.lt; obtain ⟨c0, c1, c2, c3, c4, c5, c6, c7, c8, c9, c10⟩ := HN.out.cells; have hlt := HN.out.lt; clear hbb))
    clear d0 d1 d2 d3 d4 d5 d6 d7 d8 d9 d10 hlx c0 c1 c2 c3 c4 c5 c6 c7 c8 c9 c10 hlt HX
    rw [rounds_succ]
    go_wp2_with (first | (go_at_call 15; refine (HS.out _).mono ?_; rintro x w4 ⟨rfl, hb4⟩; replace HN := hid (show Box w.heap.size _ _ by first | exact HN.out.below hb4 | exact HN.out.below ((below_alloc _ _).next hb4)); replace HW := hid (show Below w.heap.size w _ by first | exact HW.out.next hb4 | exact (HW.out.next (below_alloc _ _)).next hb4); clear hb4))
    go_ret
    exact ⟨rfl, HW.out⟩
  · have C0 : Hid (∀ w, Calls Try.prog 16 #[.string c, .int .i64 0] w fun x w' => x = .returned (.tuple #[(gi 0).v, .int .i64 (pe 0)]) ∧ Below w.heap.size w w') := hC1 0 (by decide) (by decide)
    have C1 : Hid (∀ w, Calls Try.prog 16 #[.string c, .int .i64 1] w fun x w' => x = .returned (.tuple #[n.v, .int .i64 0]) ∧ Below w.heap.size w w') := hC2
    have C2 : Hid (∀ w, Calls Try.prog 16 #[.string c, .int .i64 2] w fun x w' => x = .returned (.tuple #[(gi 2).v, .int .i64 (pe 2)]) ∧ Below w.heap.size w w') := hC1 2 (by decide) (by decide)
    have C3 : Hid (∀ w, Calls Try.prog 16 #[.string c, .int .i64 3] w fun x w' => x = .returned (.tuple #[(gi 3).v, .int .i64 (pe 3)]) ∧ Below w.heap.size w w') := hC1 3 (by decide) (by decide)
    clear hC1 hC2 hB1 hE1 hD1 hP1
    generalize gi 0 = g0 at *
    generalize pe 0 = p0 at *
    generalize gi 1 = g1 at *
    generalize pe 1 = p1 at *
    generalize gi 2 = g2 at *
    generalize pe 2 = p2 at *
    generalize gi 3 = g3 at *
    generalize pe 3 = p3 at *
    obtain ⟨gk0, gl0, gz0, ga0, gb0, gc0, gd0, ge0, gf0, gs0, gt0⟩ := g0
    obtain ⟨gk1, gl1, gz1, ga1, gb1, gc1, gd1, ge1, gf1, gs1, gt1⟩ := g1
    obtain ⟨gk2, gl2, gz2, ga2, gb2, gc2, gd2, ge2, gf2, gs2, gt2⟩ := g2
    obtain ⟨gk3, gl3, gz3, ga3, gb3, gc3, gd3, ge3, gf3, gs3, gt3⟩ := g3
    obtain ⟨k0, l, z, a, b1, cc, d, e, f, s, t⟩ := n
    simp only [Ino.v] at heq hq0 hq1 hq2 hq3 HE HD HP B0 B1 B2 B3 C0 C1 C2 C3 ⊢
    have HN : Hid (Box w.heap.size (w.alloc (.cells #[.int .i64 k0, .int .i64 l, .int .i64 z, .int .i64 a, .int .i64 b1, .int .i64 cc, .int .i64 d, .int .i64 e, .int .i64 f, .int .i64 s, .int .i64 t] 24)) ⟨k0, l, z, a, b1, cc, d, e, f, s, t⟩) := box_at _ _
    have HW : Hid (Below w.heap.size w (w.alloc (.cells #[.int .i64 k0, .int .i64 l, .int .i64 z, .int .i64 a, .int .i64 b1, .int .i64 cc, .int .i64 d, .int .i64 e, .int .i64 f, .int .i64 s, .int .i64 t] 24))) := below_alloc _ _
    go_enter Try.func7, Try.ntmps7
    go_wp2_with (first
      | (go_at_call 9; refine (HE.out _).mono ?_; rintro x w1 ⟨rfl, hb1⟩; replace HN := hid (show Box w.heap.size _ _ by first | exact HN.out.below hb1 | exact HN.out.below ((below_alloc _ _).next hb1)); replace HW := hid (show Below w.heap.size w _ by first | exact HW.out.next hb1 | exact (HW.out.next (below_alloc _ _)).next hb1); clear hb1; obtain ⟨c0, c1, c2, c3, c4, c5, c6, c7, c8, c9, c10⟩ := HN.out.cells; have hlt := HN.out.lt)
      | (go_at_call 11; clear c0 c1 c2 c3 c4 c5 c6 c7 c8 c9 c10 hlt; refine (HD.out _).mono ?_; rintro x w2 ⟨rfl, hb2⟩; replace HN := hid (show Box w.heap.size _ _ by first | exact HN.out.below hb2 | exact HN.out.below ((below_alloc _ _).next hb2)); replace HW := hid (show Below w.heap.size w _ by first | exact HW.out.next hb2 | exact (HW.out.next (below_alloc _ _)).next hb2); clear hb2; obtain ⟨c0, c1, c2, c3, c4, c5, c6, c7, c8, c9, c10⟩ := HN.out.cells; have hlt := HN.out.lt)
      | (go_at_call 18; clear c0 c1 c2 c3 c4 c5 c6 c7 c8 c9 c10 hlt; refine (HP.out _).mono ?_; rintro x w3 ⟨rfl, hb3⟩; replace HN := hid (show Box w.heap.size _ _ by first | exact HN.out.below hb3 | exact HN.out.below ((below_alloc _ _).next hb3)); replace HW := hid (show Below w.heap.size w _ by first | exact HW.out.next hb3 | exact (HW.out.next (below_alloc _ _)).next hb3); clear hb3; obtain ⟨c0, c1, c2, c3, c4, c5, c6, c7, c8, c9, c10⟩ := HN.out.cells; have hlt := HN.out.lt)
      | (go_at_call 15; refine (HS.out _).mono ?_; rintro x w4 ⟨rfl, hb4⟩; replace HN := hid (show Box w.heap.size _ _ by first | exact HN.out.below hb4 | exact HN.out.below ((below_alloc _ _).next hb4)); replace HW := hid (show Below w.heap.size w _ by first | exact HW.out.next hb4 | exact (HW.out.next (below_alloc _ _)).next hb4); clear hb4))
    clear c0 c1 c2 c3 c4 c5 c6 c7 c8 c9 c10 hlt
    refine wp_loop_rounds 5 ?_
    rw [rounds_succ]
    have tk : Hid True := trivial
    go_wp2_with (first
      | (go_at_call 16; clear tk; refine (C0.out _).mono ?_; rintro x wa ⟨rfl, hba⟩; replace HN := hid (show Box w.heap.size _ _ by first | exact HN.out.below hba | exact HN.out.below ((below_alloc _ _).next hba)); replace HW := hid (show Below w.heap.size w _ by first | exact HW.out.next hba | exact (HW.out.next (below_alloc _ _)).next hba); have HX : Hid (Box wa.heap.size (wa.alloc (.cells #[.int .i64 gk0, .int .i64 gl0, .int .i64 gz0, .int .i64 ga0, .int .i64 gb0, .int .i64 gc0, .int .i64 gd0, .int .i64 ge0, .int .i64 gf0, .int .i64 gs0, .int .i64 gt0] 24)) ⟨gk0, gl0, gz0, ga0, gb0, gc0, gd0, ge0, gf0, gs0, gt0⟩) := box_at _ _; clear hba)
      | (go_at_call 16; refine (B0.out _).mono ?_; rintro x wb ⟨rfl, hbb⟩; replace HN := hid (show Box w.heap.size _ _ by first | exact HN.out.below hbb | exact HN.out.below ((below_alloc _ _).next hbb)); replace HW := hid (show Below w.heap.size w _ by first | exact HW.out.next hbb | exact (HW.out.next (below_alloc _ _)).next hbb); replace HX := hid (HX.out.below hbb); obtain ⟨d0, d1, d2, d3, d4, d5, d6, d7, d8, d9, d10⟩ := HX.out.cells; have hlx := HX.out.lt; obtain ⟨c0, c1, c2, c3, c4, c5, c6, c7, c8, c9, c10⟩ := HN.out.cells; have hlt := HN.out.lt; clear hbb))
    clear d0 d1 d2 d3 d4 d5 d6 d7 d8 d9 d10 hlx c0 c1 c2 c3 c4 c5 c6 c7 c8 c9 c10 hlt HX
    rw [rounds_succ]
    have tk : Hid True := trivial
    go_wp2_with (first
      | (go_at_call 16; clear tk; refine (C1.out _).mono ?_; rintro x wa ⟨rfl, hba⟩; replace HN := hid (show Box w.heap.size _ _ by first | exact HN.out.below hba | exact HN.out.below ((below_alloc _ _).next hba)); replace HW := hid (show Below w.heap.size w _ by first | exact HW.out.next hba | exact (HW.out.next (below_alloc _ _)).next hba); have HX : Hid (Box wa.heap.size (wa.alloc (.cells #[.int .i64 k0, .int .i64 l, .int .i64 z, .int .i64 a, .int .i64 b1, .int .i64 cc, .int .i64 d, .int .i64 e, .int .i64 f, .int .i64 s, .int .i64 t] 24)) ⟨k0, l, z, a, b1, cc, d, e, f, s, t⟩) := box_at _ _; clear hba)
      | (go_at_call 16; refine (B1.out _).mono ?_; rintro x wb ⟨rfl, hbb⟩; replace HN := hid (show Box w.heap.size _ _ by first | exact HN.out.below hbb | exact HN.out.below ((below_alloc _ _).next hbb)); replace HW := hid (show Below w.heap.size w _ by first | exact HW.out.next hbb | exact (HW.out.next (below_alloc _ _)).next hbb); replace HX := hid (HX.out.below hbb); obtain ⟨d0, d1, d2, d3, d4, d5, d6, d7, d8, d9, d10⟩ := HX.out.cells; have hlx := HX.out.lt; obtain ⟨c0, c1, c2, c3, c4, c5, c6, c7, c8, c9, c10⟩ := HN.out.cells; have hlt := HN.out.lt; clear hbb))
    clear d0 d1 d2 d3 d4 d5 d6 d7 d8 d9 d10 hlx c0 c1 c2 c3 c4 c5 c6 c7 c8 c9 c10 hlt HX
    rw [rounds_succ]
    have tk : Hid True := trivial
    go_wp2_with (first
      | (go_at_call 16; clear tk; refine (C2.out _).mono ?_; rintro x wa ⟨rfl, hba⟩; replace HN := hid (show Box w.heap.size _ _ by first | exact HN.out.below hba | exact HN.out.below ((below_alloc _ _).next hba)); replace HW := hid (show Below w.heap.size w _ by first | exact HW.out.next hba | exact (HW.out.next (below_alloc _ _)).next hba); have HX : Hid (Box wa.heap.size (wa.alloc (.cells #[.int .i64 gk2, .int .i64 gl2, .int .i64 gz2, .int .i64 ga2, .int .i64 gb2, .int .i64 gc2, .int .i64 gd2, .int .i64 ge2, .int .i64 gf2, .int .i64 gs2, .int .i64 gt2] 24)) ⟨gk2, gl2, gz2, ga2, gb2, gc2, gd2, ge2, gf2, gs2, gt2⟩) := box_at _ _; clear hba)
      | (go_at_call 16; refine (B2.out _).mono ?_; rintro x wb ⟨rfl, hbb⟩; replace HN := hid (show Box w.heap.size _ _ by first | exact HN.out.below hbb | exact HN.out.below ((below_alloc _ _).next hbb)); replace HW := hid (show Below w.heap.size w _ by first | exact HW.out.next hbb | exact (HW.out.next (below_alloc _ _)).next hbb); replace HX := hid (HX.out.below hbb); obtain ⟨d0, d1, d2, d3, d4, d5, d6, d7, d8, d9, d10⟩ := HX.out.cells; have hlx := HX.out.lt; obtain ⟨c0, c1, c2, c3, c4, c5, c6, c7, c8, c9, c10⟩ := HN.out.cells; have hlt := HN.out.lt; clear hbb))
    clear d0 d1 d2 d3 d4 d5 d6 d7 d8 d9 d10 hlx c0 c1 c2 c3 c4 c5 c6 c7 c8 c9 c10 hlt HX
    rw [rounds_succ]
    have tk : Hid True := trivial
    go_wp2_with (first
      | (go_at_call 16; clear tk; refine (C3.out _).mono ?_; rintro x wa ⟨rfl, hba⟩; replace HN := hid (show Box w.heap.size _ _ by first | exact HN.out.below hba | exact HN.out.below ((below_alloc _ _).next hba)); replace HW := hid (show Below w.heap.size w _ by first | exact HW.out.next hba | exact (HW.out.next (below_alloc _ _)).next hba); have HX : Hid (Box wa.heap.size (wa.alloc (.cells #[.int .i64 gk3, .int .i64 gl3, .int .i64 gz3, .int .i64 ga3, .int .i64 gb3, .int .i64 gc3, .int .i64 gd3, .int .i64 ge3, .int .i64 gf3, .int .i64 gs3, .int .i64 gt3] 24)) ⟨gk3, gl3, gz3, ga3, gb3, gc3, gd3, ge3, gf3, gs3, gt3⟩) := box_at _ _; clear hba)
      | (go_at_call 16; refine (B3.out _).mono ?_; rintro x wb ⟨rfl, hbb⟩; replace HN := hid (show Box w.heap.size _ _ by first | exact HN.out.below hbb | exact HN.out.below ((below_alloc _ _).next hbb)); replace HW := hid (show Below w.heap.size w _ by first | exact HW.out.next hbb | exact (HW.out.next (below_alloc _ _)).next hbb); replace HX := hid (HX.out.below hbb); obtain ⟨d0, d1, d2, d3, d4, d5, d6, d7, d8, d9, d10⟩ := HX.out.cells; have hlx := HX.out.lt; obtain ⟨c0, c1, c2, c3, c4, c5, c6, c7, c8, c9, c10⟩ := HN.out.cells; have hlt := HN.out.lt; clear hbb))
    clear d0 d1 d2 d3 d4 d5 d6 d7 d8 d9 d10 hlx c0 c1 c2 c3 c4 c5 c6 c7 c8 c9 c10 hlt HX
    rw [rounds_succ]
    go_wp2_with (first | (go_at_call 15; refine (HS.out _).mono ?_; rintro x w4 ⟨rfl, hb4⟩; replace HN := hid (show Box w.heap.size _ _ by first | exact HN.out.below hb4 | exact HN.out.below ((below_alloc _ _).next hb4)); replace HW := hid (show Below w.heap.size w _ by first | exact HW.out.next hb4 | exact (HW.out.next (below_alloc _ _)).next hb4); clear hb4))
    go_ret
    exact ⟨rfl, HW.out⟩
  · have C0 : Hid (∀ w, Calls Try.prog 16 #[.string c, .int .i64 0] w fun x w' => x = .returned (.tuple #[(gi 0).v, .int .i64 (pe 0)]) ∧ Below w.heap.size w w') := hC1 0 (by decide) (by decide)
    have C1 : Hid (∀ w, Calls Try.prog 16 #[.string c, .int .i64 1] w fun x w' => x = .returned (.tuple #[(gi 1).v, .int .i64 (pe 1)]) ∧ Below w.heap.size w w') := hC1 1 (by decide) (by decide)
    have C2 : Hid (∀ w, Calls Try.prog 16 #[.string c, .int .i64 2] w fun x w' => x = .returned (.tuple #[n.v, .int .i64 0]) ∧ Below w.heap.size w w') := hC2
    have C3 : Hid (∀ w, Calls Try.prog 16 #[.string c, .int .i64 3] w fun x w' => x = .returned (.tuple #[(gi 3).v, .int .i64 (pe 3)]) ∧ Below w.heap.size w w') := hC1 3 (by decide) (by decide)
    clear hC1 hC2 hB1 hE1 hD1 hP1
    generalize gi 0 = g0 at *
    generalize pe 0 = p0 at *
    generalize gi 1 = g1 at *
    generalize pe 1 = p1 at *
    generalize gi 2 = g2 at *
    generalize pe 2 = p2 at *
    generalize gi 3 = g3 at *
    generalize pe 3 = p3 at *
    obtain ⟨gk0, gl0, gz0, ga0, gb0, gc0, gd0, ge0, gf0, gs0, gt0⟩ := g0
    obtain ⟨gk1, gl1, gz1, ga1, gb1, gc1, gd1, ge1, gf1, gs1, gt1⟩ := g1
    obtain ⟨gk2, gl2, gz2, ga2, gb2, gc2, gd2, ge2, gf2, gs2, gt2⟩ := g2
    obtain ⟨gk3, gl3, gz3, ga3, gb3, gc3, gd3, ge3, gf3, gs3, gt3⟩ := g3
    obtain ⟨k0, l, z, a, b1, cc, d, e, f, s, t⟩ := n
    simp only [Ino.v] at heq hq0 hq1 hq2 hq3 HE HD HP B0 B1 B2 B3 C0 C1 C2 C3 ⊢
    have HN : Hid (Box w.heap.size (w.alloc (.cells #[.int .i64 k0, .int .i64 l, .int .i64 z, .int .i64 a, .int .i64 b1, .int .i64 cc, .int .i64 d, .int .i64 e, .int .i64 f, .int .i64 s, .int .i64 t] 24)) ⟨k0, l, z, a, b1, cc, d, e, f, s, t⟩) := box_at _ _
    have HW : Hid (Below w.heap.size w (w.alloc (.cells #[.int .i64 k0, .int .i64 l, .int .i64 z, .int .i64 a, .int .i64 b1, .int .i64 cc, .int .i64 d, .int .i64 e, .int .i64 f, .int .i64 s, .int .i64 t] 24))) := below_alloc _ _
    go_enter Try.func7, Try.ntmps7
    go_wp2_with (first
      | (go_at_call 9; refine (HE.out _).mono ?_; rintro x w1 ⟨rfl, hb1⟩; replace HN := hid (show Box w.heap.size _ _ by first | exact HN.out.below hb1 | exact HN.out.below ((below_alloc _ _).next hb1)); replace HW := hid (show Below w.heap.size w _ by first | exact HW.out.next hb1 | exact (HW.out.next (below_alloc _ _)).next hb1); clear hb1; obtain ⟨c0, c1, c2, c3, c4, c5, c6, c7, c8, c9, c10⟩ := HN.out.cells; have hlt := HN.out.lt)
      | (go_at_call 11; clear c0 c1 c2 c3 c4 c5 c6 c7 c8 c9 c10 hlt; refine (HD.out _).mono ?_; rintro x w2 ⟨rfl, hb2⟩; replace HN := hid (show Box w.heap.size _ _ by first | exact HN.out.below hb2 | exact HN.out.below ((below_alloc _ _).next hb2)); replace HW := hid (show Below w.heap.size w _ by first | exact HW.out.next hb2 | exact (HW.out.next (below_alloc _ _)).next hb2); clear hb2; obtain ⟨c0, c1, c2, c3, c4, c5, c6, c7, c8, c9, c10⟩ := HN.out.cells; have hlt := HN.out.lt)
      | (go_at_call 18; clear c0 c1 c2 c3 c4 c5 c6 c7 c8 c9 c10 hlt; refine (HP.out _).mono ?_; rintro x w3 ⟨rfl, hb3⟩; replace HN := hid (show Box w.heap.size _ _ by first | exact HN.out.below hb3 | exact HN.out.below ((below_alloc _ _).next hb3)); replace HW := hid (show Below w.heap.size w _ by first | exact HW.out.next hb3 | exact (HW.out.next (below_alloc _ _)).next hb3); clear hb3; obtain ⟨c0, c1, c2, c3, c4, c5, c6, c7, c8, c9, c10⟩ := HN.out.cells; have hlt := HN.out.lt)
      | (go_at_call 15; refine (HS.out _).mono ?_; rintro x w4 ⟨rfl, hb4⟩; replace HN := hid (show Box w.heap.size _ _ by first | exact HN.out.below hb4 | exact HN.out.below ((below_alloc _ _).next hb4)); replace HW := hid (show Below w.heap.size w _ by first | exact HW.out.next hb4 | exact (HW.out.next (below_alloc _ _)).next hb4); clear hb4))
    clear c0 c1 c2 c3 c4 c5 c6 c7 c8 c9 c10 hlt
    refine wp_loop_rounds 5 ?_
    rw [rounds_succ]
    have tk : Hid True := trivial
    go_wp2_with (first
      | (go_at_call 16; clear tk; refine (C0.out _).mono ?_; rintro x wa ⟨rfl, hba⟩; replace HN := hid (show Box w.heap.size _ _ by first | exact HN.out.below hba | exact HN.out.below ((below_alloc _ _).next hba)); replace HW := hid (show Below w.heap.size w _ by first | exact HW.out.next hba | exact (HW.out.next (below_alloc _ _)).next hba); have HX : Hid (Box wa.heap.size (wa.alloc (.cells #[.int .i64 gk0, .int .i64 gl0, .int .i64 gz0, .int .i64 ga0, .int .i64 gb0, .int .i64 gc0, .int .i64 gd0, .int .i64 ge0, .int .i64 gf0, .int .i64 gs0, .int .i64 gt0] 24)) ⟨gk0, gl0, gz0, ga0, gb0, gc0, gd0, ge0, gf0, gs0, gt0⟩) := box_at _ _; clear hba)
      | (go_at_call 16; refine (B0.out _).mono ?_; rintro x wb ⟨rfl, hbb⟩; replace HN := hid (show Box w.heap.size _ _ by first | exact HN.out.below hbb | exact HN.out.below ((below_alloc _ _).next hbb)); replace HW := hid (show Below w.heap.size w _ by first | exact HW.out.next hbb | exact (HW.out.next (below_alloc _ _)).next hbb); replace HX := hid (HX.out.below hbb); obtain ⟨d0, d1, d2, d3, d4, d5, d6, d7, d8, d9, d10⟩ := HX.out.cells; have hlx := HX.out.lt; obtain ⟨c0, c1, c2, c3, c4, c5, c6, c7, c8, c9, c10⟩ := HN.out.cells; have hlt := HN.out.lt; clear hbb))
    clear d0 d1 d2 d3 d4 d5 d6 d7 d8 d9 d10 hlx c0 c1 c2 c3 c4 c5 c6 c7 c8 c9 c10 hlt HX
    rw [rounds_succ]
    have tk : Hid True := trivial
    go_wp2_with (first
      | (go_at_call 16; clear tk; refine (C1.out _).mono ?_; rintro x wa ⟨rfl, hba⟩; replace HN := hid (show Box w.heap.size _ _ by first | exact HN.out.below hba | exact HN.out.below ((below_alloc _ _).next hba)); replace HW := hid (show Below w.heap.size w _ by first | exact HW.out.next hba | exact (HW.out.next (below_alloc _ _)).next hba); have HX : Hid (Box wa.heap.size (wa.alloc (.cells #[.int .i64 gk1, .int .i64 gl1, .int .i64 gz1, .int .i64 ga1, .int .i64 gb1, .int .i64 gc1, .int .i64 gd1, .int .i64 ge1, .int .i64 gf1, .int .i64 gs1, .int .i64 gt1] 24)) ⟨gk1, gl1, gz1, ga1, gb1, gc1, gd1, ge1, gf1, gs1, gt1⟩) := box_at _ _; clear hba)
      | (go_at_call 16; refine (B1.out _).mono ?_; rintro x wb ⟨rfl, hbb⟩; replace HN := hid (show Box w.heap.size _ _ by first | exact HN.out.below hbb | exact HN.out.below ((below_alloc _ _).next hbb)); replace HW := hid (show Below w.heap.size w _ by first | exact HW.out.next hbb | exact (HW.out.next (below_alloc _ _)).next hbb); replace HX := hid (HX.out.below hbb); obtain ⟨d0, d1, d2, d3, d4, d5, d6, d7, d8, d9, d10⟩ := HX.out.cells; have hlx := HX.out.lt; obtain ⟨c0, c1, c2, c3, c4, c5, c6, c7, c8, c9, c10⟩ := HN.out.cells; have hlt := HN.out.lt; clear hbb))
    clear d0 d1 d2 d3 d4 d5 d6 d7 d8 d9 d10 hlx c0 c1 c2 c3 c4 c5 c6 c7 c8 c9 c10 hlt HX
    rw [rounds_succ]
    have tk : Hid True := trivial
    go_wp2_with (first
      | (go_at_call 16; clear tk; refine (C2.out _).mono ?_; rintro x wa ⟨rfl, hba⟩; replace HN := hid (show Box w.heap.size _ _ by first | exact HN.out.below hba | exact HN.out.below ((below_alloc _ _).next hba)); replace HW := hid (show Below w.heap.size w _ by first | exact HW.out.next hba | exact (HW.out.next (below_alloc _ _)).next hba); have HX : Hid (Box wa.heap.size (wa.alloc (.cells #[.int .i64 k0, .int .i64 l, .int .i64 z, .int .i64 a, .int .i64 b1, .int .i64 cc, .int .i64 d, .int .i64 e, .int .i64 f, .int .i64 s, .int .i64 t] 24)) ⟨k0, l, z, a, b1, cc, d, e, f, s, t⟩) := box_at _ _; clear hba)
      | (go_at_call 16; refine (B2.out _).mono ?_; rintro x wb ⟨rfl, hbb⟩; replace HN := hid (show Box w.heap.size _ _ by first | exact HN.out.below hbb | exact HN.out.below ((below_alloc _ _).next hbb)); replace HW := hid (show Below w.heap.size w _ by first | exact HW.out.next hbb | exact (HW.out.next (below_alloc _ _)).next hbb); replace HX := hid (HX.out.below hbb); obtain ⟨d0, d1, d2, d3, d4, d5, d6, d7, d8, d9, d10⟩ := HX.out.cells; have hlx := HX.out.lt; obtain ⟨c0, c1, c2, c3, c4, c5, c6, c7, c8, c9, c10⟩ := HN.out.cells; have hlt := HN.out.lt; clear hbb))
    clear d0 d1 d2 d3 d4 d5 d6 d7 d8 d9 d10 hlx c0 c1 c2 c3 c4 c5 c6 c7 c8 c9 c10 hlt HX
    rw [rounds_succ]
    have tk : Hid True := trivial
    go_wp2_with (first
      | (go_at_call 16; clear tk; refine (C3.out _).mono ?_; rintro x wa ⟨rfl, hba⟩; replace HN := hid (show Box w.heap.size _ _ by first | exact HN.out.below hba | exact HN.out.below ((below_alloc _ _).next hba)); replace HW := hid (show Below w.heap.size w _ by first | exact HW.out.next hba | exact (HW.out.next (below_alloc _ _)).next hba); have HX : Hid (Box wa.heap.size (wa.alloc (.cells #[.int .i64 gk3, .int .i64 gl3, .int .i64 gz3, .int .i64 ga3, .int .i64 gb3, .int .i64 gc3, .int .i64 gd3, .int .i64 ge3, .int .i64 gf3, .int .i64 gs3, .int .i64 gt3] 24)) ⟨gk3, gl3, gz3, ga3, gb3, gc3, gd3, ge3, gf3, gs3, gt3⟩) := box_at _ _; clear hba)
      | (go_at_call 16; refine (B3.out _).mono ?_; rintro x wb ⟨rfl, hbb⟩; replace HN := hid (show Box w.heap.size _ _ by first | exact HN.out.below hbb | exact HN.out.below ((below_alloc _ _).next hbb)); replace HW := hid (show Below w.heap.size w _ by first | exact HW.out.next hbb | exact (HW.out.next (below_alloc _ _)).next hbb); replace HX := hid (HX.out.below hbb); obtain ⟨d0, d1, d2, d3, d4, d5, d6, d7, d8, d9, d10⟩ := HX.out.cells; have hlx := HX.out.lt; obtain ⟨c0, c1, c2, c3, c4, c5, c6, c7, c8, c9, c10⟩ := HN.out.cells; have hlt := HN.out.lt; clear hbb))
    clear d0 d1 d2 d3 d4 d5 d6 d7 d8 d9 d10 hlx c0 c1 c2 c3 c4 c5 c6 c7 c8 c9 c10 hlt HX
    rw [rounds_succ]
    go_wp2_with (first | (go_at_call 15; refine (HS.out _).mono ?_; rintro x w4 ⟨rfl, hb4⟩; replace HN := hid (show Box w.heap.size _ _ by first | exact HN.out.below hb4 | exact HN.out.below ((below_alloc _ _).next hb4)); replace HW := hid (show Below w.heap.size w _ by first | exact HW.out.next hb4 | exact (HW.out.next (below_alloc _ _)).next hb4); clear hb4))
    go_ret
    exact ⟨rfl, HW.out⟩
  · have C0 : Hid (∀ w, Calls Try.prog 16 #[.string c, .int .i64 0] w fun x w' => x = .returned (.tuple #[(gi 0).v, .int .i64 (pe 0)]) ∧ Below w.heap.size w w') := hC1 0 (by decide) (by decide)
    have C1 : Hid (∀ w, Calls Try.prog 16 #[.string c, .int .i64 1] w fun x w' => x = .returned (.tuple #[(gi 1).v, .int .i64 (pe 1)]) ∧ Below w.heap.size w w') := hC1 1 (by decide) (by decide)
    have C2 : Hid (∀ w, Calls Try.prog 16 #[.string c, .int .i64 2] w fun x w' => x = .returned (.tuple #[(gi 2).v, .int .i64 (pe 2)]) ∧ Below w.heap.size w w') := hC1 2 (by decide) (by decide)
    have C3 : Hid (∀ w, Calls Try.prog 16 #[.string c, .int .i64 3] w fun x w' => x = .returned (.tuple #[n.v, .int .i64 0]) ∧ Below w.heap.size w w') := hC2
    clear hC1 hC2 hB1 hE1 hD1 hP1
    generalize gi 0 = g0 at *
    generalize pe 0 = p0 at *
    generalize gi 1 = g1 at *
    generalize pe 1 = p1 at *
    generalize gi 2 = g2 at *
    generalize pe 2 = p2 at *
    generalize gi 3 = g3 at *
    generalize pe 3 = p3 at *
    obtain ⟨gk0, gl0, gz0, ga0, gb0, gc0, gd0, ge0, gf0, gs0, gt0⟩ := g0
    obtain ⟨gk1, gl1, gz1, ga1, gb1, gc1, gd1, ge1, gf1, gs1, gt1⟩ := g1
    obtain ⟨gk2, gl2, gz2, ga2, gb2, gc2, gd2, ge2, gf2, gs2, gt2⟩ := g2
    obtain ⟨gk3, gl3, gz3, ga3, gb3, gc3, gd3, ge3, gf3, gs3, gt3⟩ := g3
    obtain ⟨k0, l, z, a, b1, cc, d, e, f, s, t⟩ := n
    simp only [Ino.v] at heq hq0 hq1 hq2 hq3 HE HD HP B0 B1 B2 B3 C0 C1 C2 C3 ⊢
    have HN : Hid (Box w.heap.size (w.alloc (.cells #[.int .i64 k0, .int .i64 l, .int .i64 z, .int .i64 a, .int .i64 b1, .int .i64 cc, .int .i64 d, .int .i64 e, .int .i64 f, .int .i64 s, .int .i64 t] 24)) ⟨k0, l, z, a, b1, cc, d, e, f, s, t⟩) := box_at _ _
    have HW : Hid (Below w.heap.size w (w.alloc (.cells #[.int .i64 k0, .int .i64 l, .int .i64 z, .int .i64 a, .int .i64 b1, .int .i64 cc, .int .i64 d, .int .i64 e, .int .i64 f, .int .i64 s, .int .i64 t] 24))) := below_alloc _ _
    go_enter Try.func7, Try.ntmps7
    go_wp2_with (first
      | (go_at_call 9; refine (HE.out _).mono ?_; rintro x w1 ⟨rfl, hb1⟩; replace HN := hid (show Box w.heap.size _ _ by first | exact HN.out.below hb1 | exact HN.out.below ((below_alloc _ _).next hb1)); replace HW := hid (show Below w.heap.size w _ by first | exact HW.out.next hb1 | exact (HW.out.next (below_alloc _ _)).next hb1); clear hb1; obtain ⟨c0, c1, c2, c3, c4, c5, c6, c7, c8, c9, c10⟩ := HN.out.cells; have hlt := HN.out.lt)
      | (go_at_call 11; clear c0 c1 c2 c3 c4 c5 c6 c7 c8 c9 c10 hlt; refine (HD.out _).mono ?_; rintro x w2 ⟨rfl, hb2⟩; replace HN := hid (show Box w.heap.size _ _ by first | exact HN.out.below hb2 | exact HN.out.below ((below_alloc _ _).next hb2)); replace HW := hid (show Below w.heap.size w _ by first | exact HW.out.next hb2 | exact (HW.out.next (below_alloc _ _)).next hb2); clear hb2; obtain ⟨c0, c1, c2, c3, c4, c5, c6, c7, c8, c9, c10⟩ := HN.out.cells; have hlt := HN.out.lt)
      | (go_at_call 18; clear c0 c1 c2 c3 c4 c5 c6 c7 c8 c9 c10 hlt; refine (HP.out _).mono ?_; rintro x w3 ⟨rfl, hb3⟩; replace HN := hid (show Box w.heap.size _ _ by first | exact HN.out.below hb3 | exact HN.out.below ((below_alloc _ _).next hb3)); replace HW := hid (show Below w.heap.size w _ by first | exact HW.out.next hb3 | exact (HW.out.next (below_alloc _ _)).next hb3); clear hb3; obtain ⟨c0, c1, c2, c3, c4, c5, c6, c7, c8, c9, c10⟩ := HN.out.cells; have hlt := HN.out.lt)
      | (go_at_call 15; refine (HS.out _).mono ?_; rintro x w4 ⟨rfl, hb4⟩; replace HN := hid (show Box w.heap.size _ _ by first | exact HN.out.below hb4 | exact HN.out.below ((below_alloc _ _).next hb4)); replace HW := hid (show Below w.heap.size w _ by first | exact HW.out.next hb4 | exact (HW.out.next (below_alloc _ _)).next hb4); clear hb4))
    clear c0 c1 c2 c3 c4 c5 c6 c7 c8 c9 c10 hlt
    refine wp_loop_rounds 5 ?_
    rw [rounds_succ]
    have tk : Hid True := trivial
    go_wp2_with (first
      | (go_at_call 16; clear tk; refine (C0.out _).mono ?_; rintro x wa ⟨rfl, hba⟩; replace HN := hid (show Box w.heap.size _ _ by first | exact HN.out.below hba | exact HN.out.below ((below_alloc _ _).next hba)); replace HW := hid (show Below w.heap.size w _ by first | exact HW.out.next hba | exact (HW.out.next (below_alloc _ _)).next hba); have HX : Hid (Box wa.heap.size (wa.alloc (.cells #[.int .i64 gk0, .int .i64 gl0, .int .i64 gz0, .int .i64 ga0, .int .i64 gb0, .int .i64 gc0, .int .i64 gd0, .int .i64 ge0, .int .i64 gf0, .int .i64 gs0, .int .i64 gt0] 24)) ⟨gk0, gl0, gz0, ga0, gb0, gc0, gd0, ge0, gf0, gs0, gt0⟩) := box_at _ _; clear hba)
      | (go_at_call 16; refine (B0.out _).mono ?_; rintro x wb ⟨rfl, hbb⟩; replace HN := hid (show Box w.heap.size _ _ by first | exact HN.out.below hbb | exact HN.out.below ((below_alloc _ _).next hbb)); replace HW := hid (show Below w.heap.size w _ by first | exact HW.out.next hbb | exact (HW.out.next (below_alloc _ _)).next hbb); replace HX := hid (HX.out.below hbb); obtain ⟨d0, d1, d2, d3, d4, d5, d6, d7, d8, d9, d10⟩ := HX.out.cells; have hlx := HX.out.lt; obtain ⟨c0, c1, c2, c3, c4, c5, c6, c7, c8, c9, c10⟩ := HN.out.cells; have hlt := HN.out.lt; clear hbb))
    clear d0 d1 d2 d3 d4 d5 d6 d7 d8 d9 d10 hlx c0 c1 c2 c3 c4 c5 c6 c7 c8 c9 c10 hlt HX
    rw [rounds_succ]
    have tk : Hid True := trivial
    go_wp2_with (first
      | (go_at_call 16; clear tk; refine (C1.out _).mono ?_; rintro x wa ⟨rfl, hba⟩; replace HN := hid (show Box w.heap.size _ _ by first | exact HN.out.below hba | exact HN.out.below ((below_alloc _ _).next hba)); replace HW := hid (show Below w.heap.size w _ by first | exact HW.out.next hba | exact (HW.out.next (below_alloc _ _)).next hba); have HX : Hid (Box wa.heap.size (wa.alloc (.cells #[.int .i64 gk1, .int .i64 gl1, .int .i64 gz1, .int .i64 ga1, .int .i64 gb1, .int .i64 gc1, .int .i64 gd1, .int .i64 ge1, .int .i64 gf1, .int .i64 gs1, .int .i64 gt1] 24)) ⟨gk1, gl1, gz1, ga1, gb1, gc1, gd1, ge1, gf1, gs1, gt1⟩) := box_at _ _; clear hba)
      | (go_at_call 16; refine (B1.out _).mono ?_; rintro x wb ⟨rfl, hbb⟩; replace HN := hid (show Box w.heap.size _ _ by first | exact HN.out.below hbb | exact HN.out.below ((below_alloc _ _).next hbb)); replace HW := hid (show Below w.heap.size w _ by first | exact HW.out.next hbb | exact (HW.out.next (below_alloc _ _)).next hbb); replace HX := hid (HX.out.below hbb); obtain ⟨d0, d1, d2, d3, d4, d5, d6, d7, d8, d9, d10⟩ := HX.out.cells; have hlx := HX.out.lt; obtain ⟨c0, c1, c2, c3, c4, c5, c6, c7, c8, c9, c10⟩ := HN.out.cells; have hlt := HN.out.lt; clear hbb))
    clear d0 d1 d2 d3 d4 d5 d6 d7 d8 d9 d10 hlx c0 c1 c2 c3 c4 c5 c6 c7 c8 c9 c10 hlt HX
    rw [rounds_succ]
    have tk : Hid True := trivial
    go_wp2_with (first
      | (go_at_call 16; clear tk; refine (C2.out _).mono ?_; rintro x wa ⟨rfl, hba⟩; replace HN := hid (show Box w.heap.size _ _ by first | exact HN.out.below hba | exact HN.out.below ((below_alloc _ _).next hba)); replace HW := hid (show Below w.heap.size w _ by first | exact HW.out.next hba | exact (HW.out.next (below_alloc _ _)).next hba); have HX : Hid (Box wa.heap.size (wa.alloc (.cells #[.int .i64 gk2, .int .i64 gl2, .int .i64 gz2, .int .i64 ga2, .int .i64 gb2, .int .i64 gc2, .int .i64 gd2, .int .i64 ge2, .int .i64 gf2, .int .i64 gs2, .int .i64 gt2] 24)) ⟨gk2, gl2, gz2, ga2, gb2, gc2, gd2, ge2, gf2, gs2, gt2⟩) := box_at _ _; clear hba)
      | (go_at_call 16; refine (B2.out _).mono ?_; rintro x wb ⟨rfl, hbb⟩; replace HN := hid (show Box w.heap.size _ _ by first | exact HN.out.below hbb | exact HN.out.below ((below_alloc _ _).next hbb)); replace HW := hid (show Below w.heap.size w _ by first | exact HW.out.next hbb | exact (HW.out.next (below_alloc _ _)).next hbb); replace HX := hid (HX.out.below hbb); obtain ⟨d0, d1, d2, d3, d4, d5, d6, d7, d8, d9, d10⟩ := HX.out.cells; have hlx := HX.out.lt; obtain ⟨c0, c1, c2, c3, c4, c5, c6, c7, c8, c9, c10⟩ := HN.out.cells; have hlt := HN.out.lt; clear hbb))
    clear d0 d1 d2 d3 d4 d5 d6 d7 d8 d9 d10 hlx c0 c1 c2 c3 c4 c5 c6 c7 c8 c9 c10 hlt HX
    rw [rounds_succ]
    have tk : Hid True := trivial
    go_wp2_with (first
      | (go_at_call 16; clear tk; refine (C3.out _).mono ?_; rintro x wa ⟨rfl, hba⟩; replace HN := hid (show Box w.heap.size _ _ by first | exact HN.out.below hba | exact HN.out.below ((below_alloc _ _).next hba)); replace HW := hid (show Below w.heap.size w _ by first | exact HW.out.next hba | exact (HW.out.next (below_alloc _ _)).next hba); have HX : Hid (Box wa.heap.size (wa.alloc (.cells #[.int .i64 k0, .int .i64 l, .int .i64 z, .int .i64 a, .int .i64 b1, .int .i64 cc, .int .i64 d, .int .i64 e, .int .i64 f, .int .i64 s, .int .i64 t] 24)) ⟨k0, l, z, a, b1, cc, d, e, f, s, t⟩) := box_at _ _; clear hba)
      | (go_at_call 16; refine (B3.out _).mono ?_; rintro x wb ⟨rfl, hbb⟩; replace HN := hid (show Box w.heap.size _ _ by first | exact HN.out.below hbb | exact HN.out.below ((below_alloc _ _).next hbb)); replace HW := hid (show Below w.heap.size w _ by first | exact HW.out.next hbb | exact (HW.out.next (below_alloc _ _)).next hbb); replace HX := hid (HX.out.below hbb); obtain ⟨d0, d1, d2, d3, d4, d5, d6, d7, d8, d9, d10⟩ := HX.out.cells; have hlx := HX.out.lt; obtain ⟨c0, c1, c2, c3, c4, c5, c6, c7, c8, c9, c10⟩ := HN.out.cells; have hlt := HN.out.lt; clear hbb))
    clear d0 d1 d2 d3 d4 d5 d6 d7 d8 d9 d10 hlx c0 c1 c2 c3 c4 c5 c6 c7 c8 c9 c10 hlt HX
    rw [rounds_succ]
    go_wp2_with (first | (go_at_call 15; refine (HS.out _).mono ?_; rintro x w4 ⟨rfl, hb4⟩; replace HN := hid (show Box w.heap.size _ _ by first | exact HN.out.below hb4 | exact HN.out.below ((below_alloc _ _).next hb4)); replace HW := hid (show Below w.heap.size w _ by first | exact HW.out.next hb4 | exact (HW.out.next (below_alloc _ _)).next hb4); clear hb4))
    go_ret
    exact ⟨rfl, HW.out⟩
end Go.Proofs.Ytmabnnimacjplaa
