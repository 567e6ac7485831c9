import Derived.Test.YtjnhibpebikkmaaGreatFn
namespace Go.Proofs.YtjnhibpebikkmaaGreat
open Go.RowKit Go.Maps

set_option maxRecDepth 100000 in
set_option maxHeartbeats 4000000 in
theorem reach1_hit {G : Geo} {p q cap m g : Nat} {w : World} {F B : List ByteArray} (n : Ino) (i : Nat) (h6 : ¬ i < 6) (h70 : i < 70) (A : Nat) (hA : nm G B n 0 6 = A) (hA0 : A ≠ 0) (h0 : blk G B n i = 0) (hX : Box g w n) (hgp : g ≠ p) (hgq : g ≠ q) (h : VI G p q cap m w F B) : Calls Tryz.prog 53 #[.pointer (some ⟨p, 0, none⟩), .pointer (some ⟨g, 0, none⟩), .int .i64 (i : Int)] w fun e w' => e = .returned (.tuple #[.int .i64 (optI (mkS G B n A (i - 6)).1), .int .i64 (eS (mkS G B n A (i - 6)).1)]) ∧ VI G p q cap m w' F (mkS G B n A (i - 6)).2.1 ∧ Box g w' (mkS G B n A (i - 6)).2.2 ∧ Only [g, m] w w' := by
  have HV := hid h
  have HG := hid h.ok
  have HX := hid hX
  have HGP := hid hgp
  have HGQ := hid hgq
  have HGM := hid (h.gm hX)
  have hml := h.ml
  have hgl := lt_of_block hX
  have HLT : Hid (g < w.heap.size ∧ m < w.heap.size) := hid ⟨hgl, hml⟩
  have HK := hid (blockOf_any n i (by omega) h)
  rw [h0] at HK
  have HWy := hid (wayTo_any i (by omega))
  unfold wayV at HWy
  rw [if_neg h6, if_pos h70] at HWy
  have HN1 := hid (fun w' (hv : VI G p q cap m w' F B) => named_nm (w := w') n 0 6 (by have := HG.out.c4; have := HG.out.sum; omega) (fun _ => by omega) hv)
  rw [hA] at HN1
  obtain ⟨x, hx⟩ : ∃ x : Nat, (x : Int) = (i : Int) - 6 := ⟨i - 6, by omega⟩
  rw [← hx] at HWy
  rw [show i - 6 = x by omega]
  have hAl : A < G.n := hA ▸ nm_lt HG.out _ _ _ _
  have HM := hid (fun w' (hx : Box g w' n) (hv : VI G p q cap m w' F B) => makeAt_any (w := w') n A x hAl (fun e => absurd e hA0) (by omega) hx HGP.out HGQ.out hv)
  obtain ⟨r, hr⟩ : ∃ r, r = mkS G B n A x := ⟨_, rfl⟩
  rw [← hr] at HM ⊢
  have hA1 : ¬ ((A : Int) = 0) := by omega
  clear h h6 h70 h0 hX hgp hgq hml hgl hr hx hA hA0 hAl
  obtain ⟨k, l, z, a0, b0, c0, d0, e0, f0, s0, t0⟩ := n
  simp only [Ino.v, Int.natCast_zero] at *
  obtain ⟨c0', c1', c2', c3', c4', c5', c6', c7', c8', c9', c10'⟩ := HX.out.cells
  go_enter Tryz.func53, Tryz.ntmps53
  go_wp2_with (first
    | (go_at_call 42; refine HK.out.mono ?_; rintro e w1 ⟨rfl, hb1⟩; have HB1 := hid hb1; clear hb1)
    | (go_at_call 75; refine (HWy.out _).mono ?_; rintro e w2 ⟨rfl, hb2⟩; have HB2 := hid (HB1.out.next hb2); clear hb2)
    | (go_at_call 76; fail))
  obtain ⟨w3, hw3⟩ : ∃ w3, w3 = w2.alloc (.cells #[.int .i64 6, .int .i64 (x : Int), .int .i64 0, .int .i64 2] 132) := ⟨_, rfl⟩
  have HRP : Hid (RP G p q cap m g F B w ⟨k, l, z, a0, b0, c0, d0, e0, f0, s0, t0⟩ w2.heap.size 6 (x : Int) 0 2 w3) := by
    have hs := HB2.out.size
    have hl := HLT.out
    rw [hw3]
    exact ⟨(HV.out.below HB2.out).below (below_alloc _ _), (HX.out.below HB2.out).below (below_alloc _ _), box_at _ _, by omega, by omega, Only.of_below (HB2.out.next (below_alloc _ _))⟩
  rw [← hw3]
  clear hw3 c0' c1' c2' c3' c4' c5' c6' c7' c8' c9' c10'
  refine (naming2 _ HRP.out.y).mono ?_
  rintro e w4 ⟨rfl, hd4⟩
  have HR := hid (HRP.out.drew hd4)
  clear hd4 HRP HV HX HB1 HB2 HK HWy HLT
  obtain ⟨Y, hY⟩ : ∃ Y, Y = w2.heap.size := ⟨_, rfl⟩
  rw [← hY] at HR ⊢
  clear hY
  go_wp2
  refine wp_loop_rounds 2 ?_
  rw [rounds_succ]
  obtain ⟨y0, y1, y2, y3⟩ := HR.out.y.cells
  go_wp2_with (go_at_call 58; fail)
  obtain ⟨wa1, hw5⟩ : ∃ w5, w5 = w4.alloc (.cells #[.int .i64 0, .int .i64 6] 102) := ⟨_, rfl⟩
  have HRA1 : Hid (RP G p q cap m g F B w ⟨k, l, z, a0, b0, c0, d0, e0, f0, s0, t0⟩ Y 6 (x : Int) 0 2 wa1) := by rw [hw5]; exact HR.out.below (below_alloc _ _)
  have HSA1 : Hid (Spt w4.heap.size wa1 0 6) := by rw [hw5]; exact box_at _ _
  rw [← hw5]
  clear hw5 y0 y1 y2 y3
  have hc5 : ∀ w', Box g w' ⟨k, l, z, a0, b0, c0, d0, e0, f0, s0, t0⟩ → Spt w4.heap.size w' 0 6 → (w'.cell? ⟨g, 0, none⟩ = some (.int .i64 k) ∧ w'.cell? ⟨g, 1, none⟩ = some (.int .i64 l) ∧ w'.cell? ⟨g, 2, none⟩ = some (.int .i64 z) ∧ w'.cell? ⟨g, 3, none⟩ = some (.int .i64 a0) ∧ w'.cell? ⟨g, 4, none⟩ = some (.int .i64 b0) ∧ w'.cell? ⟨g, 5, none⟩ = some (.int .i64 c0) ∧ w'.cell? ⟨g, 6, none⟩ = some (.int .i64 d0) ∧ w'.cell? ⟨g, 7, none⟩ = some (.int .i64 e0) ∧ w'.cell? ⟨g, 8, none⟩ = some (.int .i64 f0) ∧ w'.cell? ⟨g, 9, none⟩ = some (.int .i64 s0) ∧ w'.cell? ⟨g, 10, none⟩ = some (.int .i64 t0) ∧ w'.cell? ⟨w4.heap.size, 0, none⟩ = some (.int .i64 0) ∧ w'.cell? ⟨w4.heap.size, 1, none⟩ = some (.int .i64 6)) := fun w' hb hs => by
    obtain ⟨x0, x1, x2, x3, x4, x5, x6, x7, x8, x9, x10⟩ := hb.cells
    obtain ⟨z0, z1⟩ := hs.cells
    exact ⟨x0, x1, x2, x3, x4, x5, x6, x7, x8, x9, x10, z0, z1⟩
  have HC5 := hid hc5
  replace hc5 := hc5 _ HRA1.out.x HSA1.out
  go_region_held3 (fun w' => w'.cell? ⟨g, 0, none⟩ = some (.int .i64 k) ∧ w'.cell? ⟨g, 1, none⟩ = some (.int .i64 l) ∧ w'.cell? ⟨g, 2, none⟩ = some (.int .i64 z) ∧ w'.cell? ⟨g, 3, none⟩ = some (.int .i64 a0) ∧ w'.cell? ⟨g, 4, none⟩ = some (.int .i64 b0) ∧ w'.cell? ⟨g, 5, none⟩ = some (.int .i64 c0) ∧ w'.cell? ⟨g, 6, none⟩ = some (.int .i64 d0) ∧ w'.cell? ⟨g, 7, none⟩ = some (.int .i64 e0) ∧ w'.cell? ⟨g, 8, none⟩ = some (.int .i64 f0) ∧ w'.cell? ⟨g, 9, none⟩ = some (.int .i64 s0) ∧ w'.cell? ⟨g, 10, none⟩ = some (.int .i64 t0) ∧ w'.cell? ⟨w4.heap.size, 0, none⟩ = some (.int .i64 0) ∧ w'.cell? ⟨w4.heap.size, 1, none⟩ = some (.int .i64 6)) (first | exact hc5 | exact hc6 | go_keep) (first
    | (go_at_call 58; refine (HN1.out _ (by exact HRA1.out.v.below ⟨rfl, rfl, rfl, Nat.le_refl _, fun _ _ => rfl⟩)).mono ?_; rintro e wb1 ⟨rfl, hb6⟩
       have HB6 : Hid (Below wa1.heap.size wa1 wb1) := hid ⟨hb6.os, hb6.tape, hb6.output, hb6.size, hb6.block⟩
       have HRB1 := hid (HRA1.out.below HB6.out)
       have hc6 := HC5.out _ HRB1.out.x (HSA1.out.below HB6.out)
       clear hb6 HB6))
  obtain ⟨x0, x1, x2, x3, x4, x5, x6, x7, x8, x9, x10, z0, z1⟩ := hc6
  clear x0 x1 x2 x3 x4 x5 x6 x7 x8 x9 x10 hc5 HC5 HN1
  clear z0 z1
  go_wp2
  have HRC1 := hid (HRB1.out.below (w' := wb1.drewN 0) ⟨rfl, rfl, rfl, Nat.le_refl _, fun _ _ => rfl⟩)
  rw [rounds_succ]
  go_wp2_with (first
    | (go_at_call 78; refine (last2 _ HRB1.out.y).mono ?_; rintro e w9 ⟨rfl, hd9⟩
       have HRL := hid (HRB1.out.drew hd9)
       clear hd9)
    | (go_at_call 77; refine (HM.out _ HRL.out.x HRL.out.v).mono ?_; rintro e w10 ⟨rfl, hv10, hx10, ho10⟩
       have HZ := hid (HRL.out.step hv10 hx10 ho10)
       clear hv10 hx10 ho10))
  go_ret2
  exact ⟨rfl, HZ.out.v, HZ.out.x, HZ.out.o⟩
set_option maxRecDepth 100000 in
set_option maxHeartbeats 4000000 in
theorem reach1_none {G : Geo} {p q cap m g : Nat} {w : World} {F B : List ByteArray} (n : Ino) (i : Nat) (h6 : ¬ i < 6) (h70 : i < 70) (hA : nm G B n 0 6 = 0) (B1 : List ByteArray) (n1 : Ino) (hM : mkS G B n 0 6 = (none, B1, n1)) (h0 : blk G B n i = 0) (hX : Box g w n) (hgp : g ≠ p) (hgq : g ≠ q) (h : VI G p q cap m w F B) : Calls Tryz.prog 53 #[.pointer (some ⟨p, 0, none⟩), .pointer (some ⟨g, 0, none⟩), .int .i64 (i : Int)] w fun e w' => e = .returned (.tuple #[.int .i64 0, .int .i64 306]) ∧ VI G p q cap m w' F B1 ∧ Box g w' n1 ∧ Only [g, m] w w' := by
  have HV := hid h
  have HG := hid h.ok
  have HX := hid hX
  have HGP := hid hgp
  have HGQ := hid hgq
  have HGM := hid (h.gm hX)
  have hml := h.ml
  have hgl := lt_of_block hX
  have HLT : Hid (g < w.heap.size ∧ m < w.heap.size) := hid ⟨hgl, hml⟩
  have HK := hid (blockOf_any n i (by omega) h)
  rw [h0] at HK
  have HWy := hid (wayTo_any i (by omega))
  unfold wayV at HWy
  rw [if_neg h6, if_pos h70] at HWy
  have HN1 := hid (fun w' (hv : VI G p q cap m w' F B) => named_nm (w := w') n 0 6 (by have := HG.out.c4; have := HG.out.sum; omega) (fun _ => by omega) hv)
  rw [hA] at HN1
  obtain ⟨x, hx⟩ : ∃ x : Nat, (x : Int) = (i : Int) - 6 := ⟨i - 6, by omega⟩
  rw [← hx] at HWy
  have HK1 := hid (fun w' (hx : Box g w' n) (hv : VI G p q cap m w' F B) => makeAt_any (w := w') n 0 6 (by have := HG.out.c4; have := HG.out.sum; omega) (fun _ => by omega) (by omega) hx HGP.out HGQ.out hv)
  rw [hM] at HK1
  simp only [optI, eS] at HK1
  clear h h6 h70 h0 hX hgp hgq hml hgl hx hA hM
  obtain ⟨k, l, z, a0, b0, c0, d0, e0, f0, s0, t0⟩ := n
  simp only [Ino.v, Int.natCast_zero] at *
  obtain ⟨c0', c1', c2', c3', c4', c5', c6', c7', c8', c9', c10'⟩ := HX.out.cells
  go_enter Tryz.func53, Tryz.ntmps53
  go_wp2_with (first
    | (go_at_call 42; refine HK.out.mono ?_; rintro e w1 ⟨rfl, hb1⟩; have HB1 := hid hb1; clear hb1)
    | (go_at_call 75; refine (HWy.out _).mono ?_; rintro e w2 ⟨rfl, hb2⟩; have HB2 := hid (HB1.out.next hb2); clear hb2)
    | (go_at_call 76; fail))
  obtain ⟨w3, hw3⟩ : ∃ w3, w3 = w2.alloc (.cells #[.int .i64 6, .int .i64 (x : Int), .int .i64 0, .int .i64 2] 132) := ⟨_, rfl⟩
  have HRP : Hid (RP G p q cap m g F B w ⟨k, l, z, a0, b0, c0, d0, e0, f0, s0, t0⟩ w2.heap.size 6 (x : Int) 0 2 w3) := by
    have hs := HB2.out.size
    have hl := HLT.out
    rw [hw3]
    exact ⟨(HV.out.below HB2.out).below (below_alloc _ _), (HX.out.below HB2.out).below (below_alloc _ _), box_at _ _, by omega, by omega, Only.of_below (HB2.out.next (below_alloc _ _))⟩
  rw [← hw3]
  clear hw3 c0' c1' c2' c3' c4' c5' c6' c7' c8' c9' c10'
  refine (naming2 _ HRP.out.y).mono ?_
  rintro e w4 ⟨rfl, hd4⟩
  have HR := hid (HRP.out.drew hd4)
  clear hd4 HRP HV HX HB1 HB2 HK HWy HLT
  obtain ⟨Y, hY⟩ : ∃ Y, Y = w2.heap.size := ⟨_, rfl⟩
  rw [← hY] at HR ⊢
  clear hY
  go_wp2
  refine wp_loop_rounds 2 ?_
  rw [rounds_succ]
  obtain ⟨y0, y1, y2, y3⟩ := HR.out.y.cells
  go_wp2_with (go_at_call 58; fail)
  obtain ⟨wa1, hw5⟩ : ∃ w5, w5 = w4.alloc (.cells #[.int .i64 0, .int .i64 6] 102) := ⟨_, rfl⟩
  have HRA1 : Hid (RP G p q cap m g F B w ⟨k, l, z, a0, b0, c0, d0, e0, f0, s0, t0⟩ Y 6 (x : Int) 0 2 wa1) := by rw [hw5]; exact HR.out.below (below_alloc _ _)
  have HSA1 : Hid (Spt w4.heap.size wa1 0 6) := by rw [hw5]; exact box_at _ _
  rw [← hw5]
  clear hw5 y0 y1 y2 y3
  have hc5 : ∀ w', Box g w' ⟨k, l, z, a0, b0, c0, d0, e0, f0, s0, t0⟩ → Spt w4.heap.size w' 0 6 → (w'.cell? ⟨g, 0, none⟩ = some (.int .i64 k) ∧ w'.cell? ⟨g, 1, none⟩ = some (.int .i64 l) ∧ w'.cell? ⟨g, 2, none⟩ = some (.int .i64 z) ∧ w'.cell? ⟨g, 3, none⟩ = some (.int .i64 a0) ∧ w'.cell? ⟨g, 4, none⟩ = some (.int .i64 b0) ∧ w'.cell? ⟨g, 5, none⟩ = some (.int .i64 c0) ∧ w'.cell? ⟨g, 6, none⟩ = some (.int .i64 d0) ∧ w'.cell? ⟨g, 7, none⟩ = some (.int .i64 e0) ∧ w'.cell? ⟨g, 8, none⟩ = some (.int .i64 f0) ∧ w'.cell? ⟨g, 9, none⟩ = some (.int .i64 s0) ∧ w'.cell? ⟨g, 10, none⟩ = some (.int .i64 t0) ∧ w'.cell? ⟨w4.heap.size, 0, none⟩ = some (.int .i64 0) ∧ w'.cell? ⟨w4.heap.size, 1, none⟩ = some (.int .i64 6)) := fun w' hb hs => by
    obtain ⟨x0, x1, x2, x3, x4, x5, x6, x7, x8, x9, x10⟩ := hb.cells
    obtain ⟨z0, z1⟩ := hs.cells
    exact ⟨x0, x1, x2, x3, x4, x5, x6, x7, x8, x9, x10, z0, z1⟩
  have HC5 := hid hc5
  replace hc5 := hc5 _ HRA1.out.x HSA1.out
  go_region_held3 (fun w' => w'.cell? ⟨g, 0, none⟩ = some (.int .i64 k) ∧ w'.cell? ⟨g, 1, none⟩ = some (.int .i64 l) ∧ w'.cell? ⟨g, 2, none⟩ = some (.int .i64 z) ∧ w'.cell? ⟨g, 3, none⟩ = some (.int .i64 a0) ∧ w'.cell? ⟨g, 4, none⟩ = some (.int .i64 b0) ∧ w'.cell? ⟨g, 5, none⟩ = some (.int .i64 c0) ∧ w'.cell? ⟨g, 6, none⟩ = some (.int .i64 d0) ∧ w'.cell? ⟨g, 7, none⟩ = some (.int .i64 e0) ∧ w'.cell? ⟨g, 8, none⟩ = some (.int .i64 f0) ∧ w'.cell? ⟨g, 9, none⟩ = some (.int .i64 s0) ∧ w'.cell? ⟨g, 10, none⟩ = some (.int .i64 t0) ∧ w'.cell? ⟨w4.heap.size, 0, none⟩ = some (.int .i64 0) ∧ w'.cell? ⟨w4.heap.size, 1, none⟩ = some (.int .i64 6)) (first | exact hc5 | exact hc6 | go_keep) (first
    | (go_at_call 58; refine (HN1.out _ (by exact HRA1.out.v.below ⟨rfl, rfl, rfl, Nat.le_refl _, fun _ _ => rfl⟩)).mono ?_; rintro e wb1 ⟨rfl, hb6⟩
       have HB6 : Hid (Below wa1.heap.size wa1 wb1) := hid ⟨hb6.os, hb6.tape, hb6.output, hb6.size, hb6.block⟩
       have HRB1 := hid (HRA1.out.below HB6.out)
       have hc6 := HC5.out _ HRB1.out.x (HSA1.out.below HB6.out)
       clear hb6 HB6))
  obtain ⟨x0, x1, x2, x3, x4, x5, x6, x7, x8, x9, x10, z0, z1⟩ := hc6
  clear x0 x1 x2 x3 x4 x5 x6 x7 x8 x9 x10 hc5 HC5 HN1
  go_wp2_with (first
    | (go_at_call 77; refine (HK1.out _ (by exact HRB1.out.x.below ⟨rfl, rfl, rfl, Nat.le_refl _, fun _ _ => rfl⟩) (by exact HRB1.out.v.below ⟨rfl, rfl, rfl, Nat.le_refl _, fun _ _ => rfl⟩)).mono ?_; rintro e wc1 ⟨rfl, hv7, hx7, ho7⟩
       have HRC1 := hid (HRB1.out.step hv7 hx7 ⟨ho7.os, ho7.tape, ho7.output, ho7.size, ho7.block⟩)
       clear hv7 hx7 ho7 z0 z1))
  go_ret2
  exact ⟨rfl, HRC1.out.v, HRC1.out.x, HRC1.out.o⟩
set_option maxRecDepth 100000 in
set_option maxHeartbeats 4000000 in
theorem reach1_made {G : Geo} {p q cap m g : Nat} {w : World} {F B : List ByteArray} (n : Ino) (i : Nat) (h6 : ¬ i < 6) (h70 : i < 70) (hA : nm G B n 0 6 = 0) (b : Nat) (B1 : List ByteArray) (n1 : Ino) (hM : mkS G B n 0 6 = (some b, B1, n1)) (h0 : blk G B n i = 0) (hX : Box g w n) (hgp : g ≠ p) (hgq : g ≠ q) (h : VI G p q cap m w F B) : Calls Tryz.prog 53 #[.pointer (some ⟨p, 0, none⟩), .pointer (some ⟨g, 0, none⟩), .int .i64 (i : Int)] w fun e w' => e = .returned (.tuple #[.int .i64 (optI (mkS G B1 n1 b (i - 6)).1), .int .i64 (eS (mkS G B1 n1 b (i - 6)).1)]) ∧ VI G p q cap m w' F (mkS G B1 n1 b (i - 6)).2.1 ∧ Box g w' (mkS G B1 n1 b (i - 6)).2.2 ∧ Only [g, m] w w' := by
  have HV := hid h
  have HG := hid h.ok
  have HX := hid hX
  have HGP := hid hgp
  have HGQ := hid hgq
  have HGM := hid (h.gm hX)
  have hml := h.ml
  have hgl := lt_of_block hX
  have HLT : Hid (g < w.heap.size ∧ m < w.heap.size) := hid ⟨hgl, hml⟩
  have HK := hid (blockOf_any n i (by omega) h)
  rw [h0] at HK
  have HWy := hid (wayTo_any i (by omega))
  unfold wayV at HWy
  rw [if_neg h6, if_pos h70] at HWy
  have HN1 := hid (fun w' (hv : VI G p q cap m w' F B) => named_nm (w := w') n 0 6 (by have := HG.out.c4; have := HG.out.sum; omega) (fun _ => by omega) hv)
  rw [hA] at HN1
  obtain ⟨x, hx⟩ : ∃ x : Nat, (x : Int) = (i : Int) - 6 := ⟨i - 6, by omega⟩
  rw [← hx] at HWy
  rw [show i - 6 = x by omega]
  have HK1 := hid (fun w' (hx : Box g w' n) (hv : VI G p q cap m w' F B) => makeAt_any (w := w') n 0 6 (by have := HG.out.c4; have := HG.out.sum; omega) (fun _ => by omega) (by omega) hx HGP.out HGQ.out hv)
  rw [hM] at HK1
  simp only [optI, eS] at HK1
  have hbl := mkS_lt HG.out (show (mkS G B n 0 6).1 = some b by rw [hM])
  have HM := hid (fun w' (hx : Box g w' n1) (hv : VI G p q cap m w' F B1) => makeAt_any (w := w') n1 b x hbl.1 (fun e => absurd e hbl.2) (by omega) hx HGP.out HGQ.out hv)
  obtain ⟨r, hr⟩ : ∃ r, r = mkS G B1 n1 b x := ⟨_, rfl⟩
  rw [← hr] at HM ⊢
  clear h h6 h70 h0 hX hgp hgq hml hgl hr hx hA hM hbl
  obtain ⟨k, l, z, a0, b0, c0, d0, e0, f0, s0, t0⟩ := n
  simp only [Ino.v, Int.natCast_zero] at *
  obtain ⟨c0', c1', c2', c3', c4', c5', c6', c7', c8', c9', c10'⟩ := HX.out.cells
  go_enter Tryz.func53, Tryz.ntmps53
  go_wp2_with (first
    | (go_at_call 42; refine HK.out.mono ?_; rintro e w1 ⟨rfl, hb1⟩; have HB1 := hid hb1; clear hb1)
    | (go_at_call 75; refine (HWy.out _).mono ?_; rintro e w2 ⟨rfl, hb2⟩; have HB2 := hid (HB1.out.next hb2); clear hb2)
    | (go_at_call 76; fail))
  obtain ⟨w3, hw3⟩ : ∃ w3, w3 = w2.alloc (.cells #[.int .i64 6, .int .i64 (x : Int), .int .i64 0, .int .i64 2] 132) := ⟨_, rfl⟩
  have HRP : Hid (RP G p q cap m g F B w ⟨k, l, z, a0, b0, c0, d0, e0, f0, s0, t0⟩ w2.heap.size 6 (x : Int) 0 2 w3) := by
    have hs := HB2.out.size
    have hl := HLT.out
    rw [hw3]
    exact ⟨(HV.out.below HB2.out).below (below_alloc _ _), (HX.out.below HB2.out).below (below_alloc _ _), box_at _ _, by omega, by omega, Only.of_below (HB2.out.next (below_alloc _ _))⟩
  rw [← hw3]
  clear hw3 c0' c1' c2' c3' c4' c5' c6' c7' c8' c9' c10'
  refine (naming2 _ HRP.out.y).mono ?_
  rintro e w4 ⟨rfl, hd4⟩
  have HR := hid (HRP.out.drew hd4)
  clear hd4 HRP HV HX HB1 HB2 HK HWy HLT
  obtain ⟨Y, hY⟩ : ∃ Y, Y = w2.heap.size := ⟨_, rfl⟩
  rw [← hY] at HR ⊢
  clear hY
  go_wp2
  refine wp_loop_rounds 2 ?_
  rw [rounds_succ]
  obtain ⟨y0, y1, y2, y3⟩ := HR.out.y.cells
  go_wp2_with (go_at_call 58; fail)
  obtain ⟨wa1, hw5⟩ : ∃ w5, w5 = w4.alloc (.cells #[.int .i64 0, .int .i64 6] 102) := ⟨_, rfl⟩
  have HRA1 : Hid (RP G p q cap m g F B w ⟨k, l, z, a0, b0, c0, d0, e0, f0, s0, t0⟩ Y 6 (x : Int) 0 2 wa1) := by rw [hw5]; exact HR.out.below (below_alloc _ _)
  have HSA1 : Hid (Spt w4.heap.size wa1 0 6) := by rw [hw5]; exact box_at _ _
  rw [← hw5]
  clear hw5 y0 y1 y2 y3
  have hc5 : ∀ w', Box g w' ⟨k, l, z, a0, b0, c0, d0, e0, f0, s0, t0⟩ → Spt w4.heap.size w' 0 6 → (w'.cell? ⟨g, 0, none⟩ = some (.int .i64 k) ∧ w'.cell? ⟨g, 1, none⟩ = some (.int .i64 l) ∧ w'.cell? ⟨g, 2, none⟩ = some (.int .i64 z) ∧ w'.cell? ⟨g, 3, none⟩ = some (.int .i64 a0) ∧ w'.cell? ⟨g, 4, none⟩ = some (.int .i64 b0) ∧ w'.cell? ⟨g, 5, none⟩ = some (.int .i64 c0) ∧ w'.cell? ⟨g, 6, none⟩ = some (.int .i64 d0) ∧ w'.cell? ⟨g, 7, none⟩ = some (.int .i64 e0) ∧ w'.cell? ⟨g, 8, none⟩ = some (.int .i64 f0) ∧ w'.cell? ⟨g, 9, none⟩ = some (.int .i64 s0) ∧ w'.cell? ⟨g, 10, none⟩ = some (.int .i64 t0) ∧ w'.cell? ⟨w4.heap.size, 0, none⟩ = some (.int .i64 0) ∧ w'.cell? ⟨w4.heap.size, 1, none⟩ = some (.int .i64 6)) := fun w' hb hs => by
    obtain ⟨x0, x1, x2, x3, x4, x5, x6, x7, x8, x9, x10⟩ := hb.cells
    obtain ⟨z0, z1⟩ := hs.cells
    exact ⟨x0, x1, x2, x3, x4, x5, x6, x7, x8, x9, x10, z0, z1⟩
  have HC5 := hid hc5
  replace hc5 := hc5 _ HRA1.out.x HSA1.out
  go_region_held3 (fun w' => w'.cell? ⟨g, 0, none⟩ = some (.int .i64 k) ∧ w'.cell? ⟨g, 1, none⟩ = some (.int .i64 l) ∧ w'.cell? ⟨g, 2, none⟩ = some (.int .i64 z) ∧ w'.cell? ⟨g, 3, none⟩ = some (.int .i64 a0) ∧ w'.cell? ⟨g, 4, none⟩ = some (.int .i64 b0) ∧ w'.cell? ⟨g, 5, none⟩ = some (.int .i64 c0) ∧ w'.cell? ⟨g, 6, none⟩ = some (.int .i64 d0) ∧ w'.cell? ⟨g, 7, none⟩ = some (.int .i64 e0) ∧ w'.cell? ⟨g, 8, none⟩ = some (.int .i64 f0) ∧ w'.cell? ⟨g, 9, none⟩ = some (.int .i64 s0) ∧ w'.cell? ⟨g, 10, none⟩ = some (.int .i64 t0) ∧ w'.cell? ⟨w4.heap.size, 0, none⟩ = some (.int .i64 0) ∧ w'.cell? ⟨w4.heap.size, 1, none⟩ = some (.int .i64 6)) (first | exact hc5 | exact hc6 | go_keep) (first
    | (go_at_call 58; refine (HN1.out _ (by exact HRA1.out.v.below ⟨rfl, rfl, rfl, Nat.le_refl _, fun _ _ => rfl⟩)).mono ?_; rintro e wb1 ⟨rfl, hb6⟩
       have HB6 : Hid (Below wa1.heap.size wa1 wb1) := hid ⟨hb6.os, hb6.tape, hb6.output, hb6.size, hb6.block⟩
       have HRB1 := hid (HRA1.out.below HB6.out)
       have hc6 := HC5.out _ HRB1.out.x (HSA1.out.below HB6.out)
       clear hb6 HB6))
  obtain ⟨x0, x1, x2, x3, x4, x5, x6, x7, x8, x9, x10, z0, z1⟩ := hc6
  clear x0 x1 x2 x3 x4 x5 x6 x7 x8 x9 x10 hc5 HC5 HN1
  go_wp2_with (first
    | (go_at_call 77; refine (HK1.out _ (by exact HRB1.out.x.below ⟨rfl, rfl, rfl, Nat.le_refl _, fun _ _ => rfl⟩) (by exact HRB1.out.v.below ⟨rfl, rfl, rfl, Nat.le_refl _, fun _ _ => rfl⟩)).mono ?_; rintro e wc1 ⟨rfl, hv7, hx7, ho7⟩
       have HRC1 := hid (HRB1.out.step hv7 hx7 ⟨ho7.os, ho7.tape, ho7.output, ho7.size, ho7.block⟩)
       clear hv7 hx7 ho7 z0 z1))
  rw [rounds_succ]
  go_wp2_with (first
    | (go_at_call 78; refine (last2 _ HRC1.out.y).mono ?_; rintro e w9 ⟨rfl, hd9⟩
       have HRL := hid (HRC1.out.drew hd9)
       clear hd9)
    | (go_at_call 77; refine (HM.out _ HRL.out.x HRL.out.v).mono ?_; rintro e w10 ⟨rfl, hv10, hx10, ho10⟩
       have HZ := hid (HRL.out.step hv10 hx10 ho10)
       clear hv10 hx10 ho10))
  go_ret2
  exact ⟨rfl, HZ.out.v, HZ.out.x, HZ.out.o⟩
end Go.Proofs.YtjnhibpebikkmaaGreat
