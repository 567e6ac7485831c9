import Derived.Test.YtjnhibpebikkmaaGreatFn
namespace Go.Proofs.YtjnhibpebikkmaaGreat
open Go.RowKit Go.Maps

set_option maxRecDepth 100000 in
set_option maxHeartbeats 4000000 in
theorem reach2_none {G : Geo} {p q cap m g : Nat} {w : World} {F B : List ByteArray} (n : Ino) (i : Nat) (hi : i < 4166) (h70 : ¬ i < 70) (hA : nm G B n 0 7 = 0) (B1 : List ByteArray) (n1 : Ino) (hM : mkS G B n 0 7 = (none, B1, n1))  (h0 : blk G B n i = 0) (hX : Box g w n) (hgp : g ≠ p) (hgq : g ≠ q) (h : VI G p q cap m w F B) : Calls Tryz.prog 53 #[.pointer (some ⟨p, 0, none⟩), .pointer (some ⟨g, 0, none⟩), .int .i64 (i : Int)] w fun e w' => e = .returned (.tuple #[.int .i64 0, .int .i64 306]) ∧ VI G p q cap m w' F B1 ∧ Box g w' n1 ∧ Only [g, m] w w' := by
  have HV := hid h
  have HG := hid h.ok
  have HX := hid hX
  have HGP := hid hgp
  have HGQ := hid hgq
  have HGM := hid (h.gm hX)
  have hml := h.ml
  have hgl := lt_of_block hX
  have HLT : Hid (g < w.heap.size ∧ m < w.heap.size) := hid ⟨hgl, hml⟩
  have HK := hid (blockOf_any n i (by omega) h)
  rw [h0] at HK
  have HWy := hid (wayTo_any i (by omega))
  unfold wayV at HWy
  rw [if_neg (by omega), if_neg h70] at HWy
  have HN1 := hid (fun w' (hv : VI G p q cap m w' F B) => named_nm (w := w') n 0 7 (by have := HG.out.c4; have := HG.out.sum; omega) (fun _ => by omega) hv)
  rw [hA] at HN1
  obtain ⟨x, hx⟩ : ∃ x : Nat, x = (i - 70) / 64 := ⟨_, rfl⟩
  obtain ⟨y, hy⟩ : ∃ y : Nat, y = (i - 70) % 64 := ⟨_, rfl⟩
  rw [show ((i : Int) - 70) / 64 = (x : Int) by omega, show ((i : Int) - 70) % 64 = (y : Int) by omega] at HWy
  have HK1 := hid (fun w' (hx : Box g w' n) (hv : VI G p q cap m w' F B) => makeAt_any (w := w') n 0 7 (by have := HG.out.c4; have := HG.out.sum; omega) (fun _ => by omega) (by omega) hx HGP.out HGQ.out hv)
  rw [hM] at HK1
  simp only [optI, eS] at HK1
  clear h h70 h0 hX hgp hgq hml hgl hx hy hi hA hM
  obtain ⟨k, l, z, a0, b0, c0, d0, e0, f0, s0, t0⟩ := n
  simp only [Ino.v, Int.natCast_zero] at *
  obtain ⟨c0', c1', c2', c3', c4', c5', c6', c7', c8', c9', c10'⟩ := HX.out.cells
  go_enter Tryz.func53, Tryz.ntmps53
  go_wp2_with (first
    | (go_at_call 42; refine HK.out.mono ?_; rintro e w1 ⟨rfl, hb1⟩; have HB1 := hid hb1; clear hb1)
    | (go_at_call 75; refine (HWy.out _).mono ?_; rintro e w2 ⟨rfl, hb2⟩; have HB2 := hid (HB1.out.next hb2); clear hb2)
    | (go_at_call 76; fail))
  obtain ⟨w3, hw3⟩ : ∃ w3, w3 = w2.alloc (.cells #[.int .i64 7, .int .i64 (x : Int), .int .i64 (y : Int), .int .i64 3] 132) := ⟨_, rfl⟩
  have HRP : Hid (RP G p q cap m g F B w ⟨k, l, z, a0, b0, c0, d0, e0, f0, s0, t0⟩ w2.heap.size 7 (x : Int) (y : Int) 3 w3) := by
    have hs := HB2.out.size
    have hl := HLT.out
    rw [hw3]
    exact ⟨(HV.out.below HB2.out).below (below_alloc _ _), (HX.out.below HB2.out).below (below_alloc _ _), box_at _ _, by omega, by omega, Only.of_below (HB2.out.next (below_alloc _ _))⟩
  rw [← hw3]
  clear hw3 c0' c1' c2' c3' c4' c5' c6' c7' c8' c9' c10'
  refine (naming3 _ HRP.out.y).mono ?_
  rintro e w4 ⟨rfl, hd4⟩
  have HR := hid (HRP.out.drew hd4)
  clear hd4 HRP HV HX HB1 HB2 HK HWy HLT
  obtain ⟨Y, hY⟩ : ∃ Y, Y = w2.heap.size := ⟨_, rfl⟩
  rw [← hY] at HR ⊢
  clear hY
  go_wp2
  refine wp_loop_rounds 3 ?_
  rw [rounds_succ]
  obtain ⟨y0, y1, y2, y3⟩ := HR.out.y.cells
  go_wp2_with (go_at_call 58; fail)
  obtain ⟨wa1, hw5⟩ : ∃ w5, w5 = w4.alloc (.cells #[.int .i64 0, .int .i64 7] 102) := ⟨_, rfl⟩
  have HRA1 : Hid (RP G p q cap m g F B w ⟨k, l, z, a0, b0, c0, d0, e0, f0, s0, t0⟩ Y 7 (x : Int) (y : Int) 3 wa1) := by rw [hw5]; exact HR.out.below (below_alloc _ _)
  have HSA1 : Hid (Spt w4.heap.size wa1 0 7) := by rw [hw5]; exact box_at _ _
  rw [← hw5]
  clear hw5 y0 y1 y2 y3
  have hc5 : ∀ w', Box g w' ⟨k, l, z, a0, b0, c0, d0, e0, f0, s0, t0⟩ → Spt w4.heap.size w' 0 7 → (w'.cell? ⟨g, 0, none⟩ = some (.int .i64 k) ∧ w'.cell? ⟨g, 1, none⟩ = some (.int .i64 l) ∧ w'.cell? ⟨g, 2, none⟩ = some (.int .i64 z) ∧ w'.cell? ⟨g, 3, none⟩ = some (.int .i64 a0) ∧ w'.cell? ⟨g, 4, none⟩ = some (.int .i64 b0) ∧ w'.cell? ⟨g, 5, none⟩ = some (.int .i64 c0) ∧ w'.cell? ⟨g, 6, none⟩ = some (.int .i64 d0) ∧ w'.cell? ⟨g, 7, none⟩ = some (.int .i64 e0) ∧ w'.cell? ⟨g, 8, none⟩ = some (.int .i64 f0) ∧ w'.cell? ⟨g, 9, none⟩ = some (.int .i64 s0) ∧ w'.cell? ⟨g, 10, none⟩ = some (.int .i64 t0) ∧ w'.cell? ⟨w4.heap.size, 0, none⟩ = some (.int .i64 0) ∧ w'.cell? ⟨w4.heap.size, 1, none⟩ = some (.int .i64 7)) := fun w' hb hs => by
    obtain ⟨x0, x1, x2, x3, x4, x5, x6, x7, x8, x9, x10⟩ := hb.cells
    obtain ⟨z0, z1⟩ := hs.cells
    exact ⟨x0, x1, x2, x3, x4, x5, x6, x7, x8, x9, x10, z0, z1⟩
  have HC5 := hid hc5
  replace hc5 := hc5 _ HRA1.out.x HSA1.out
  go_region_held3 (fun w' => w'.cell? ⟨g, 0, none⟩ = some (.int .i64 k) ∧ w'.cell? ⟨g, 1, none⟩ = some (.int .i64 l) ∧ w'.cell? ⟨g, 2, none⟩ = some (.int .i64 z) ∧ w'.cell? ⟨g, 3, none⟩ = some (.int .i64 a0) ∧ w'.cell? ⟨g, 4, none⟩ = some (.int .i64 b0) ∧ w'.cell? ⟨g, 5, none⟩ = some (.int .i64 c0) ∧ w'.cell? ⟨g, 6, none⟩ = some (.int .i64 d0) ∧ w'.cell? ⟨g, 7, none⟩ = some (.int .i64 e0) ∧ w'.cell? ⟨g, 8, none⟩ = some (.int .i64 f0) ∧ w'.cell? ⟨g, 9, none⟩ = some (.int .i64 s0) ∧ w'.cell? ⟨g, 10, none⟩ = some (.int .i64 t0) ∧ w'.cell? ⟨w4.heap.size, 0, none⟩ = some (.int .i64 0) ∧ w'.cell? ⟨w4.heap.size, 1, none⟩ = some (.int .i64 7)) (first | exact hc5 | exact hc6 | go_keep) (first
    | (go_at_call 58; refine (HN1.out _ (by exact HRA1.out.v.below ⟨rfl, rfl, rfl, Nat.le_refl _, fun _ _ => rfl⟩)).mono ?_; rintro e wb1 ⟨rfl, hb6⟩
       have HB6 : Hid (Below wa1.heap.size wa1 wb1) := hid ⟨hb6.os, hb6.tape, hb6.output, hb6.size, hb6.block⟩
       have HRB1 := hid (HRA1.out.below HB6.out)
       have hc6 := HC5.out _ HRB1.out.x (HSA1.out.below HB6.out)
       clear hb6 HB6))
  obtain ⟨x0, x1, x2, x3, x4, x5, x6, x7, x8, x9, x10, z0, z1⟩ := hc6
  clear x0 x1 x2 x3 x4 x5 x6 x7 x8 x9 x10 hc5 HC5 HN1
  go_wp2_with (first
    | (go_at_call 77; refine (HK1.out _ (by exact HRB1.out.x.below ⟨rfl, rfl, rfl, Nat.le_refl _, fun _ _ => rfl⟩) (by exact HRB1.out.v.below ⟨rfl, rfl, rfl, Nat.le_refl _, fun _ _ => rfl⟩)).mono ?_; rintro e wc1 ⟨rfl, hv7, hx7, ho7⟩
       have HRC1 := hid (HRB1.out.step hv7 hx7 ⟨ho7.os, ho7.tape, ho7.output, ho7.size, ho7.block⟩)
       clear hv7 hx7 ho7 z0 z1))
  go_ret2
  exact ⟨rfl, HRC1.out.v, HRC1.out.x, HRC1.out.o⟩
set_option maxRecDepth 100000 in
set_option maxHeartbeats 4000000 in
theorem reach2_made_hit {G : Geo} {p q cap m g : Nat} {w : World} {F B : List ByteArray} (n : Ino) (i : Nat) (hi : i < 4166) (h70 : ¬ i < 70) (hA : nm G B n 0 7 = 0) (A : Nat) (B1 : List ByteArray) (n1 : Ino) (hM : mkS G B n 0 7 = (some A, B1, n1)) (C : Nat) (hC : nm G B1 n1 A ((i - 70) / 64) = C) (hC0 : C ≠ 0) (h0 : blk G B n i = 0) (hX : Box g w n) (hgp : g ≠ p) (hgq : g ≠ q) (h : VI G p q cap m w F B) : Calls Tryz.prog 53 #[.pointer (some ⟨p, 0, none⟩), .pointer (some ⟨g, 0, none⟩), .int .i64 (i : Int)] w fun e w' => e = .returned (.tuple #[.int .i64 (optI (mkS G B1 n1 C ((i - 70) % 64)).1), .int .i64 (eS (mkS G B1 n1 C ((i - 70) % 64)).1)]) ∧ VI G p q cap m w' F (mkS G B1 n1 C ((i - 70) % 64)).2.1 ∧ Box g w' (mkS G B1 n1 C ((i - 70) % 64)).2.2 ∧ Only [g, m] w w' := by
  have HV := hid h
  have HG := hid h.ok
  have HX := hid hX
  have HGP := hid hgp
  have HGQ := hid hgq
  have HGM := hid (h.gm hX)
  have hml := h.ml
  have hgl := lt_of_block hX
  have HLT : Hid (g < w.heap.size ∧ m < w.heap.size) := hid ⟨hgl, hml⟩
  have HK := hid (blockOf_any n i (by omega) h)
  rw [h0] at HK
  have HWy := hid (wayTo_any i (by omega))
  unfold wayV at HWy
  rw [if_neg (by omega), if_neg h70] at HWy
  have HN1 := hid (fun w' (hv : VI G p q cap m w' F B) => named_nm (w := w') n 0 7 (by have := HG.out.c4; have := HG.out.sum; omega) (fun _ => by omega) hv)
  rw [hA] at HN1
  obtain ⟨x, hx⟩ : ∃ x : Nat, x = (i - 70) / 64 := ⟨_, rfl⟩
  obtain ⟨y, hy⟩ : ∃ y : Nat, y = (i - 70) % 64 := ⟨_, rfl⟩
  rw [show ((i : Int) - 70) / 64 = (x : Int) by omega, show ((i : Int) - 70) % 64 = (y : Int) by omega] at HWy
  rw [← hx] at hC
  rw [← hy]
  have HK1 := hid (fun w' (hx : Box g w' n) (hv : VI G p q cap m w' F B) => makeAt_any (w := w') n 0 7 (by have := HG.out.c4; have := HG.out.sum; omega) (fun _ => by omega) (by omega) hx HGP.out HGQ.out hv)
  rw [hM] at HK1
  simp only [optI, eS] at HK1
  have hAl := mkS_lt HG.out (show (mkS G B n 0 7).1 = some A by rw [hM])
  have HN2 := hid (fun w' (hv : VI G p q cap m w' F B1) => named_nm (w := w') n1 A x hAl.1 (fun e => absurd e hAl.2) hv)
  rw [hC] at HN2
  have hCl : C < G.n ∧ C ≠ 0 := ⟨hC ▸ nm_lt HG.out _ _ _ _, hC0⟩
  have hC1 : ¬ ((C : Int) = 0) := by omega
  have HM := hid (fun w' (hx' : Box g w' n1) (hv : VI G p q cap m w' F B1) => makeAt_any (w := w') n1 C y hCl.1 (fun e => absurd e hCl.2) (by omega) hx' HGP.out HGQ.out hv)
  obtain ⟨r, hr⟩ : ∃ r, r = mkS G B1 n1 C y := ⟨_, rfl⟩
  rw [← hr] at HM ⊢
  clear h h70 h0 hX hgp hgq hml hgl hx hy hi hr hCl hC hAl hC0 hA hM
  obtain ⟨kk1, ll1, zz1, aa1, bb1, cc1, dd1, ee1, ff1, ss1, tt1⟩ := n1
  simp only [Ino.v] at *
  obtain ⟨k, l, z, a0, b0, c0, d0, e0, f0, s0, t0⟩ := n
  obtain ⟨c0', c1', c2', c3', c4', c5', c6', c7', c8', c9', c10'⟩ := HX.out.cells
  go_enter Tryz.func53, Tryz.ntmps53
  go_wp2_with (first
    | (go_at_call 42; refine HK.out.mono ?_; rintro e w1 ⟨rfl, hb1⟩; have HB1 := hid hb1; clear hb1)
    | (go_at_call 75; refine (HWy.out _).mono ?_; rintro e w2 ⟨rfl, hb2⟩; have HB2 := hid (HB1.out.next hb2); clear hb2)
    | (go_at_call 76; fail))
  obtain ⟨w3, hw3⟩ : ∃ w3, w3 = w2.alloc (.cells #[.int .i64 7, .int .i64 (x : Int), .int .i64 (y : Int), .int .i64 3] 132) := ⟨_, rfl⟩
  have HRP : Hid (RP G p q cap m g F B w ⟨k, l, z, a0, b0, c0, d0, e0, f0, s0, t0⟩ w2.heap.size 7 (x : Int) (y : Int) 3 w3) := by
    have hs := HB2.out.size
    have hl := HLT.out
    rw [hw3]
    exact ⟨(HV.out.below HB2.out).below (below_alloc _ _), (HX.out.below HB2.out).below (below_alloc _ _), box_at _ _, by omega, by omega, Only.of_below (HB2.out.next (below_alloc _ _))⟩
  rw [← hw3]
  clear hw3 c0' c1' c2' c3' c4' c5' c6' c7' c8' c9' c10'
  refine (naming3 _ HRP.out.y).mono ?_
  rintro e w4 ⟨rfl, hd4⟩
  have HR := hid (HRP.out.drew hd4)
  clear hd4 HRP HV HX HB1 HB2 HK HWy HLT
  obtain ⟨Y, hY⟩ : ∃ Y, Y = w2.heap.size := ⟨_, rfl⟩
  rw [← hY] at HR ⊢
  clear hY
  go_wp2
  refine wp_loop_rounds 3 ?_
  rw [rounds_succ]
  obtain ⟨y0, y1, y2, y3⟩ := HR.out.y.cells
  go_wp2_with (go_at_call 58; fail)
  obtain ⟨wa1, hw5⟩ : ∃ w5, w5 = w4.alloc (.cells #[.int .i64 0, .int .i64 7] 102) := ⟨_, rfl⟩
  have HRA1 : Hid (RP G p q cap m g F B w ⟨k, l, z, a0, b0, c0, d0, e0, f0, s0, t0⟩ Y 7 (x : Int) (y : Int) 3 wa1) := by rw [hw5]; exact HR.out.below (below_alloc _ _)
  have HSA1 : Hid (Spt w4.heap.size wa1 0 7) := by rw [hw5]; exact box_at _ _
  rw [← hw5]
  clear hw5 y0 y1 y2 y3
  have hc5 : ∀ w', Box g w' ⟨k, l, z, a0, b0, c0, d0, e0, f0, s0, t0⟩ → Spt w4.heap.size w' 0 7 → (w'.cell? ⟨g, 0, none⟩ = some (.int .i64 k) ∧ w'.cell? ⟨g, 1, none⟩ = some (.int .i64 l) ∧ w'.cell? ⟨g, 2, none⟩ = some (.int .i64 z) ∧ w'.cell? ⟨g, 3, none⟩ = some (.int .i64 a0) ∧ w'.cell? ⟨g, 4, none⟩ = some (.int .i64 b0) ∧ w'.cell? ⟨g, 5, none⟩ = some (.int .i64 c0) ∧ w'.cell? ⟨g, 6, none⟩ = some (.int .i64 d0) ∧ w'.cell? ⟨g, 7, none⟩ = some (.int .i64 e0) ∧ w'.cell? ⟨g, 8, none⟩ = some (.int .i64 f0) ∧ w'.cell? ⟨g, 9, none⟩ = some (.int .i64 s0) ∧ w'.cell? ⟨g, 10, none⟩ = some (.int .i64 t0) ∧ w'.cell? ⟨w4.heap.size, 0, none⟩ = some (.int .i64 0) ∧ w'.cell? ⟨w4.heap.size, 1, none⟩ = some (.int .i64 7)) := fun w' hb hs => by
    obtain ⟨x0, x1, x2, x3, x4, x5, x6, x7, x8, x9, x10⟩ := hb.cells
    obtain ⟨z0, z1⟩ := hs.cells
    exact ⟨x0, x1, x2, x3, x4, x5, x6, x7, x8, x9, x10, z0, z1⟩
  have HC5 := hid hc5
  replace hc5 := hc5 _ HRA1.out.x HSA1.out
  go_region_held3 (fun w' => w'.cell? ⟨g, 0, none⟩ = some (.int .i64 k) ∧ w'.cell? ⟨g, 1, none⟩ = some (.int .i64 l) ∧ w'.cell? ⟨g, 2, none⟩ = some (.int .i64 z) ∧ w'.cell? ⟨g, 3, none⟩ = some (.int .i64 a0) ∧ w'.cell? ⟨g, 4, none⟩ = some (.int .i64 b0) ∧ w'.cell? ⟨g, 5, none⟩ = some (.int .i64 c0) ∧ w'.cell? ⟨g, 6, none⟩ = some (.int .i64 d0) ∧ w'.cell? ⟨g, 7, none⟩ = some (.int .i64 e0) ∧ w'.cell? ⟨g, 8, none⟩ = some (.int .i64 f0) ∧ w'.cell? ⟨g, 9, none⟩ = some (.int .i64 s0) ∧ w'.cell? ⟨g, 10, none⟩ = some (.int .i64 t0) ∧ w'.cell? ⟨w4.heap.size, 0, none⟩ = some (.int .i64 0) ∧ w'.cell? ⟨w4.heap.size, 1, none⟩ = some (.int .i64 7)) (first | exact hc5 | exact hc6 | go_keep) (first
    | (go_at_call 58; refine (HN1.out _ (by exact HRA1.out.v.below ⟨rfl, rfl, rfl, Nat.le_refl _, fun _ _ => rfl⟩)).mono ?_; rintro e wb1 ⟨rfl, hb6⟩
       have HB6 : Hid (Below wa1.heap.size wa1 wb1) := hid ⟨hb6.os, hb6.tape, hb6.output, hb6.size, hb6.block⟩
       have HRB1 := hid (HRA1.out.below HB6.out)
       have hc6 := HC5.out _ HRB1.out.x (HSA1.out.below HB6.out)
       clear hb6 HB6))
  obtain ⟨x0, x1, x2, x3, x4, x5, x6, x7, x8, x9, x10, z0, z1⟩ := hc6
  clear x0 x1 x2 x3 x4 x5 x6 x7 x8 x9 x10 hc5 HC5 HN1
  go_wp2_with (first
    | (go_at_call 77; refine (HK1.out _ (by exact HRB1.out.x.below ⟨rfl, rfl, rfl, Nat.le_refl _, fun _ _ => rfl⟩) (by exact HRB1.out.v.below ⟨rfl, rfl, rfl, Nat.le_refl _, fun _ _ => rfl⟩)).mono ?_; rintro e wc1 ⟨rfl, hv7, hx7, ho7⟩
       have HRC1 := hid (HRB1.out.step hv7 hx7 ⟨ho7.os, ho7.tape, ho7.output, ho7.size, ho7.block⟩)
       clear hv7 hx7 ho7 z0 z1))
  rw [rounds_succ]
  obtain ⟨y0, y1, y2, y3⟩ := HRC1.out.y.cells
  go_wp2_with (go_at_call 58; fail)
  obtain ⟨wa2, hw5⟩ : ∃ w5, w5 = wc1.alloc (.cells #[.int .i64 (A : Int), .int .i64 (x : Int)] 102) := ⟨_, rfl⟩
  have HRA2 : Hid (RP G p q cap m g F B1 w ⟨kk1, ll1, zz1, aa1, bb1, cc1, dd1, ee1, ff1, ss1, tt1⟩ Y 7 (x : Int) (y : Int) 3 wa2) := by rw [hw5]; exact HRC1.out.below (below_alloc _ _)
  have HSA2 : Hid (Spt wc1.heap.size wa2 (A : Int) (x : Int)) := by rw [hw5]; exact box_at _ _
  rw [← hw5]
  clear hw5 y0 y1 y2 y3
  have hc5 : ∀ w', Box g w' ⟨kk1, ll1, zz1, aa1, bb1, cc1, dd1, ee1, ff1, ss1, tt1⟩ → Spt wc1.heap.size w' (A : Int) (x : Int) → (w'.cell? ⟨g, 0, none⟩ = some (.int .i64 kk1) ∧ w'.cell? ⟨g, 1, none⟩ = some (.int .i64 ll1) ∧ w'.cell? ⟨g, 2, none⟩ = some (.int .i64 zz1) ∧ w'.cell? ⟨g, 3, none⟩ = some (.int .i64 aa1) ∧ w'.cell? ⟨g, 4, none⟩ = some (.int .i64 bb1) ∧ w'.cell? ⟨g, 5, none⟩ = some (.int .i64 cc1) ∧ w'.cell? ⟨g, 6, none⟩ = some (.int .i64 dd1) ∧ w'.cell? ⟨g, 7, none⟩ = some (.int .i64 ee1) ∧ w'.cell? ⟨g, 8, none⟩ = some (.int .i64 ff1) ∧ w'.cell? ⟨g, 9, none⟩ = some (.int .i64 ss1) ∧ w'.cell? ⟨g, 10, none⟩ = some (.int .i64 tt1) ∧ w'.cell? ⟨wc1.heap.size, 0, none⟩ = some (.int .i64 (A : Int)) ∧ w'.cell? ⟨wc1.heap.size, 1, none⟩ = some (.int .i64 (x : Int))) := fun w' hb hs => by
    obtain ⟨x0, x1, x2, x3, x4, x5, x6, x7, x8, x9, x10⟩ := hb.cells
    obtain ⟨z0, z1⟩ := hs.cells
    exact ⟨x0, x1, x2, x3, x4, x5, x6, x7, x8, x9, x10, z0, z1⟩
  have HC5 := hid hc5
  replace hc5 := hc5 _ HRA2.out.x HSA2.out
  go_region_held3 (fun w' => w'.cell? ⟨g, 0, none⟩ = some (.int .i64 kk1) ∧ w'.cell? ⟨g, 1, none⟩ = some (.int .i64 ll1) ∧ w'.cell? ⟨g, 2, none⟩ = some (.int .i64 zz1) ∧ w'.cell? ⟨g, 3, none⟩ = some (.int .i64 aa1) ∧ w'.cell? ⟨g, 4, none⟩ = some (.int .i64 bb1) ∧ w'.cell? ⟨g, 5, none⟩ = some (.int .i64 cc1) ∧ w'.cell? ⟨g, 6, none⟩ = some (.int .i64 dd1) ∧ w'.cell? ⟨g, 7, none⟩ = some (.int .i64 ee1) ∧ w'.cell? ⟨g, 8, none⟩ = some (.int .i64 ff1) ∧ w'.cell? ⟨g, 9, none⟩ = some (.int .i64 ss1) ∧ w'.cell? ⟨g, 10, none⟩ = some (.int .i64 tt1) ∧ w'.cell? ⟨wc1.heap.size, 0, none⟩ = some (.int .i64 (A : Int)) ∧ w'.cell? ⟨wc1.heap.size, 1, none⟩ = some (.int .i64 (x : Int))) (first | exact hc5 | exact hc6 | go_keep) (first
    | (go_at_call 58; refine (HN2.out _ (by exact HRA2.out.v.below ⟨rfl, rfl, rfl, Nat.le_refl _, fun _ _ => rfl⟩)).mono ?_; rintro e wb2 ⟨rfl, hb6⟩
       have HB6 : Hid (Below wa2.heap.size wa2 wb2) := hid ⟨hb6.os, hb6.tape, hb6.output, hb6.size, hb6.block⟩
       have HRB2 := hid (HRA2.out.below HB6.out)
       have hc6 := HC5.out _ HRB2.out.x (HSA2.out.below HB6.out)
       clear hb6 HB6))
  obtain ⟨x0, x1, x2, x3, x4, x5, x6, x7, x8, x9, x10, z0, z1⟩ := hc6
  clear x0 x1 x2 x3 x4 x5 x6 x7 x8 x9 x10 hc5 HC5 HN2
  clear z0 z1
  go_wp2
  have HRC2 := hid (HRB2.out.below (w' := wb2.drewN 0) ⟨rfl, rfl, rfl, Nat.le_refl _, fun _ _ => rfl⟩)
  rw [rounds_succ]
  go_wp2_with (first
    | (go_at_call 78; refine (last3 _ HRB2.out.y).mono ?_; rintro e w9 ⟨rfl, hd9⟩
       have HRL := hid (HRB2.out.drew hd9)
       clear hd9)
    | (go_at_call 77; refine (HM.out _ HRL.out.x HRL.out.v).mono ?_; rintro e w10 ⟨rfl, hv10, hx10, ho10⟩
       have HZ := hid (HRL.out.step hv10 hx10 ho10)
       clear hv10 hx10 ho10))
  go_ret2
  exact ⟨rfl, HZ.out.v, HZ.out.x, HZ.out.o⟩
set_option maxRecDepth 100000 in
set_option maxHeartbeats 4000000 in
theorem reach2_made_none {G : Geo} {p q cap m g : Nat} {w : World} {F B : List ByteArray} (n : Ino) (i : Nat) (hi : i < 4166) (h70 : ¬ i < 70) (hA : nm G B n 0 7 = 0) (A : Nat) (B1 : List ByteArray) (n1 : Ino) (hM : mkS G B n 0 7 = (some A, B1, n1)) (hC : nm G B1 n1 A ((i - 70) / 64) = 0) (B2 : List ByteArray) (n2 : Ino) (hM2 : mkS G B1 n1 A ((i - 70) / 64) = (none, B2, n2)) (h0 : blk G B n i = 0) (hX : Box g w n) (hgp : g ≠ p) (hgq : g ≠ q) (h : VI G p q cap m w F B) : Calls Tryz.prog 53 #[.pointer (some ⟨p, 0, none⟩), .pointer (some ⟨g, 0, none⟩), .int .i64 (i : Int)] w fun e w' => e = .returned (.tuple #[.int .i64 0, .int .i64 306]) ∧ VI G p q cap m w' F B2 ∧ Box g w' n2 ∧ Only [g, m] w w' := by
  have HV := hid h
  have HG := hid h.ok
  have HX := hid hX
  have HGP := hid hgp
  have HGQ := hid hgq
  have HGM := hid (h.gm hX)
  have hml := h.ml
  have hgl := lt_of_block hX
  have HLT : Hid (g < w.heap.size ∧ m < w.heap.size) := hid ⟨hgl, hml⟩
  have HK := hid (blockOf_any n i (by omega) h)
  rw [h0] at HK
  have HWy := hid (wayTo_any i (by omega))
  unfold wayV at HWy
  rw [if_neg (by omega), if_neg h70] at HWy
  have HN1 := hid (fun w' (hv : VI G p q cap m w' F B) => named_nm (w := w') n 0 7 (by have := HG.out.c4; have := HG.out.sum; omega) (fun _ => by omega) hv)
  rw [hA] at HN1
  obtain ⟨x, hx⟩ : ∃ x : Nat, x = (i - 70) / 64 := ⟨_, rfl⟩
  obtain ⟨y, hy⟩ : ∃ y : Nat, y = (i - 70) % 64 := ⟨_, rfl⟩
  rw [show ((i : Int) - 70) / 64 = (x : Int) by omega, show ((i : Int) - 70) % 64 = (y : Int) by omega] at HWy
  rw [← hx] at hC hM2
  have HK1 := hid (fun w' (hx : Box g w' n) (hv : VI G p q cap m w' F B) => makeAt_any (w := w') n 0 7 (by have := HG.out.c4; have := HG.out.sum; omega) (fun _ => by omega) (by omega) hx HGP.out HGQ.out hv)
  rw [hM] at HK1
  simp only [optI, eS] at HK1
  have hAl := mkS_lt HG.out (show (mkS G B n 0 7).1 = some A by rw [hM])
  have HN2 := hid (fun w' (hv : VI G p q cap m w' F B1) => named_nm (w := w') n1 A x hAl.1 (fun e => absurd e hAl.2) hv)
  rw [hC] at HN2
  have HK2 := hid (fun w' (hx' : Box g w' n1) (hv : VI G p q cap m w' F B1) => makeAt_any (w := w') n1 A x hAl.1 (fun e => absurd e hAl.2) (by omega) hx' HGP.out HGQ.out hv)
  rw [hM2] at HK2
  simp only [optI, eS] at HK2
  clear h h70 h0 hX hgp hgq hml hgl hx hy hi hC hAl hM2 hA hM
  obtain ⟨kk1, ll1, zz1, aa1, bb1, cc1, dd1, ee1, ff1, ss1, tt1⟩ := n1
  simp only [Ino.v] at *
  obtain ⟨k, l, z, a0, b0, c0, d0, e0, f0, s0, t0⟩ := n
  obtain ⟨c0', c1', c2', c3', c4', c5', c6', c7', c8', c9', c10'⟩ := HX.out.cells
  go_enter Tryz.func53, Tryz.ntmps53
  go_wp2_with (first
    | (go_at_call 42; refine HK.out.mono ?_; rintro e w1 ⟨rfl, hb1⟩; have HB1 := hid hb1; clear hb1)
    | (go_at_call 75; refine (HWy.out _).mono ?_; rintro e w2 ⟨rfl, hb2⟩; have HB2 := hid (HB1.out.next hb2); clear hb2)
    | (go_at_call 76; fail))
  obtain ⟨w3, hw3⟩ : ∃ w3, w3 = w2.alloc (.cells #[.int .i64 7, .int .i64 (x : Int), .int .i64 (y : Int), .int .i64 3] 132) := ⟨_, rfl⟩
  have HRP : Hid (RP G p q cap m g F B w ⟨k, l, z, a0, b0, c0, d0, e0, f0, s0, t0⟩ w2.heap.size 7 (x : Int) (y : Int) 3 w3) := by
    have hs := HB2.out.size
    have hl := HLT.out
    rw [hw3]
    exact ⟨(HV.out.below HB2.out).below (below_alloc _ _), (HX.out.below HB2.out).below (below_alloc _ _), box_at _ _, by omega, by omega, Only.of_below (HB2.out.next (below_alloc _ _))⟩
  rw [← hw3]
  clear hw3 c0' c1' c2' c3' c4' c5' c6' c7' c8' c9' c10'
  refine (naming3 _ HRP.out.y).mono ?_
  rintro e w4 ⟨rfl, hd4⟩
  have HR := hid (HRP.out.drew hd4)
  clear hd4 HRP HV HX HB1 HB2 HK HWy HLT
  obtain ⟨Y, hY⟩ : ∃ Y, Y = w2.heap.size := ⟨_, rfl⟩
  rw [← hY] at HR ⊢
  clear hY
  go_wp2
  refine wp_loop_rounds 3 ?_
  rw [rounds_succ]
  obtain ⟨y0, y1, y2, y3⟩ := HR.out.y.cells
  go_wp2_with (go_at_call 58; fail)
  obtain ⟨wa1, hw5⟩ : ∃ w5, w5 = w4.alloc (.cells #[.int .i64 0, .int .i64 7] 102) := ⟨_, rfl⟩
  have HRA1 : Hid (RP G p q cap m g F B w ⟨k, l, z, a0, b0, c0, d0, e0, f0, s0, t0⟩ Y 7 (x : Int) (y : Int) 3 wa1) := by rw [hw5]; exact HR.out.below (below_alloc _ _)
  have HSA1 : Hid (Spt w4.heap.size wa1 0 7) := by rw [hw5]; exact box_at _ _
  rw [← hw5]
  clear hw5 y0 y1 y2 y3
  have hc5 : ∀ w', Box g w' ⟨k, l, z, a0, b0, c0, d0, e0, f0, s0, t0⟩ → Spt w4.heap.size w' 0 7 → (w'.cell? ⟨g, 0, none⟩ = some (.int .i64 k) ∧ w'.cell? ⟨g, 1, none⟩ = some (.int .i64 l) ∧ w'.cell? ⟨g, 2, none⟩ = some (.int .i64 z) ∧ w'.cell? ⟨g, 3, none⟩ = some (.int .i64 a0) ∧ w'.cell? ⟨g, 4, none⟩ = some (.int .i64 b0) ∧ w'.cell? ⟨g, 5, none⟩ = some (.int .i64 c0) ∧ w'.cell? ⟨g, 6, none⟩ = some (.int .i64 d0) ∧ w'.cell? ⟨g, 7, none⟩ = some (.int .i64 e0) ∧ w'.cell? ⟨g, 8, none⟩ = some (.int .i64 f0) ∧ w'.cell? ⟨g, 9, none⟩ = some (.int .i64 s0) ∧ w'.cell? ⟨g, 10, none⟩ = some (.int .i64 t0) ∧ w'.cell? ⟨w4.heap.size, 0, none⟩ = some (.int .i64 0) ∧ w'.cell? ⟨w4.heap.size, 1, none⟩ = some (.int .i64 7)) := fun w' hb hs => by
    obtain ⟨x0, x1, x2, x3, x4, x5, x6, x7, x8, x9, x10⟩ := hb.cells
    obtain ⟨z0, z1⟩ := hs.cells
    exact ⟨x0, x1, x2, x3, x4, x5, x6, x7, x8, x9, x10, z0, z1⟩
  have HC5 := hid hc5
  replace hc5 := hc5 _ HRA1.out.x HSA1.out
  go_region_held3 (fun w' => w'.cell? ⟨g, 0, none⟩ = some (.int .i64 k) ∧ w'.cell? ⟨g, 1, none⟩ = some (.int .i64 l) ∧ w'.cell? ⟨g, 2, none⟩ = some (.int .i64 z) ∧ w'.cell? ⟨g, 3, none⟩ = some (.int .i64 a0) ∧ w'.cell? ⟨g, 4, none⟩ = some (.int .i64 b0) ∧ w'.cell? ⟨g, 5, none⟩ = some (.int .i64 c0) ∧ w'.cell? ⟨g, 6, none⟩ = some (.int .i64 d0) ∧ w'.cell? ⟨g, 7, none⟩ = some (.int .i64 e0) ∧ w'.cell? ⟨g, 8, none⟩ = some (.int .i64 f0) ∧ w'.cell? ⟨g, 9, none⟩ = some (.int .i64 s0) ∧ w'.cell? ⟨g, 10, none⟩ = some (.int .i64 t0) ∧ w'.cell? ⟨w4.heap.size, 0, none⟩ = some (.int .i64 0) ∧ w'.cell? ⟨w4.heap.size, 1, none⟩ = some (.int .i64 7)) (first | exact hc5 | exact hc6 | go_keep) (first
    | (go_at_call 58; refine (HN1.out _ (by exact HRA1.out.v.below ⟨rfl, rfl, rfl, Nat.le_refl _, fun _ _ => rfl⟩)).mono ?_; rintro e wb1 ⟨rfl, hb6⟩
       have HB6 : Hid (Below wa1.heap.size wa1 wb1) := hid ⟨hb6.os, hb6.tape, hb6.output, hb6.size, hb6.block⟩
       have HRB1 := hid (HRA1.out.below HB6.out)
       have hc6 := HC5.out _ HRB1.out.x (HSA1.out.below HB6.out)
       clear hb6 HB6))
  obtain ⟨x0, x1, x2, x3, x4, x5, x6, x7, x8, x9, x10, z0, z1⟩ := hc6
  clear x0 x1 x2 x3 x4 x5 x6 x7 x8 x9 x10 hc5 HC5 HN1
  go_wp2_with (first
    | (go_at_call 77; refine (HK1.out _ (by exact HRB1.out.x.below ⟨rfl, rfl, rfl, Nat.le_refl _, fun _ _ => rfl⟩) (by exact HRB1.out.v.below ⟨rfl, rfl, rfl, Nat.le_refl _, fun _ _ => rfl⟩)).mono ?_; rintro e wc1 ⟨rfl, hv7, hx7, ho7⟩
       have HRC1 := hid (HRB1.out.step hv7 hx7 ⟨ho7.os, ho7.tape, ho7.output, ho7.size, ho7.block⟩)
       clear hv7 hx7 ho7 z0 z1))
  rw [rounds_succ]
  obtain ⟨y0, y1, y2, y3⟩ := HRC1.out.y.cells
  go_wp2_with (go_at_call 58; fail)
  obtain ⟨wa2, hw5⟩ : ∃ w5, w5 = wc1.alloc (.cells #[.int .i64 (A : Int), .int .i64 (x : Int)] 102) := ⟨_, rfl⟩
  have HRA2 : Hid (RP G p q cap m g F B1 w ⟨kk1, ll1, zz1, aa1, bb1, cc1, dd1, ee1, ff1, ss1, tt1⟩ Y 7 (x : Int) (y : Int) 3 wa2) := by rw [hw5]; exact HRC1.out.below (below_alloc _ _)
  have HSA2 : Hid (Spt wc1.heap.size wa2 (A : Int) (x : Int)) := by rw [hw5]; exact box_at _ _
  rw [← hw5]
  clear hw5 y0 y1 y2 y3
  have hc5 : ∀ w', Box g w' ⟨kk1, ll1, zz1, aa1, bb1, cc1, dd1, ee1, ff1, ss1, tt1⟩ → Spt wc1.heap.size w' (A : Int) (x : Int) → (w'.cell? ⟨g, 0, none⟩ = some (.int .i64 kk1) ∧ w'.cell? ⟨g, 1, none⟩ = some (.int .i64 ll1) ∧ w'.cell? ⟨g, 2, none⟩ = some (.int .i64 zz1) ∧ w'.cell? ⟨g, 3, none⟩ = some (.int .i64 aa1) ∧ w'.cell? ⟨g, 4, none⟩ = some (.int .i64 bb1) ∧ w'.cell? ⟨g, 5, none⟩ = some (.int .i64 cc1) ∧ w'.cell? ⟨g, 6, none⟩ = some (.int .i64 dd1) ∧ w'.cell? ⟨g, 7, none⟩ = some (.int .i64 ee1) ∧ w'.cell? ⟨g, 8, none⟩ = some (.int .i64 ff1) ∧ w'.cell? ⟨g, 9, none⟩ = some (.int .i64 ss1) ∧ w'.cell? ⟨g, 10, none⟩ = some (.int .i64 tt1) ∧ w'.cell? ⟨wc1.heap.size, 0, none⟩ = some (.int .i64 (A : Int)) ∧ w'.cell? ⟨wc1.heap.size, 1, none⟩ = some (.int .i64 (x : Int))) := fun w' hb hs => by
    obtain ⟨x0, x1, x2, x3, x4, x5, x6, x7, x8, x9, x10⟩ := hb.cells
    obtain ⟨z0, z1⟩ := hs.cells
    exact ⟨x0, x1, x2, x3, x4, x5, x6, x7, x8, x9, x10, z0, z1⟩
  have HC5 := hid hc5
  replace hc5 := hc5 _ HRA2.out.x HSA2.out
  go_region_held3 (fun w' => w'.cell? ⟨g, 0, none⟩ = some (.int .i64 kk1) ∧ w'.cell? ⟨g, 1, none⟩ = some (.int .i64 ll1) ∧ w'.cell? ⟨g, 2, none⟩ = some (.int .i64 zz1) ∧ w'.cell? ⟨g, 3, none⟩ = some (.int .i64 aa1) ∧ w'.cell? ⟨g, 4, none⟩ = some (.int .i64 bb1) ∧ w'.cell? ⟨g, 5, none⟩ = some (.int .i64 cc1) ∧ w'.cell? ⟨g, 6, none⟩ = some (.int .i64 dd1) ∧ w'.cell? ⟨g, 7, none⟩ = some (.int .i64 ee1) ∧ w'.cell? ⟨g, 8, none⟩ = some (.int .i64 ff1) ∧ w'.cell? ⟨g, 9, none⟩ = some (.int .i64 ss1) ∧ w'.cell? ⟨g, 10, none⟩ = some (.int .i64 tt1) ∧ w'.cell? ⟨wc1.heap.size, 0, none⟩ = some (.int .i64 (A : Int)) ∧ w'.cell? ⟨wc1.heap.size, 1, none⟩ = some (.int .i64 (x : Int))) (first | exact hc5 | exact hc6 | go_keep) (first
    | (go_at_call 58; refine (HN2.out _ (by exact HRA2.out.v.below ⟨rfl, rfl, rfl, Nat.le_refl _, fun _ _ => rfl⟩)).mono ?_; rintro e wb2 ⟨rfl, hb6⟩
       have HB6 : Hid (Below wa2.heap.size wa2 wb2) := hid ⟨hb6.os, hb6.tape, hb6.output, hb6.size, hb6.block⟩
       have HRB2 := hid (HRA2.out.below HB6.out)
       have hc6 := HC5.out _ HRB2.out.x (HSA2.out.below HB6.out)
       clear hb6 HB6))
  obtain ⟨x0, x1, x2, x3, x4, x5, x6, x7, x8, x9, x10, z0, z1⟩ := hc6
  clear x0 x1 x2 x3 x4 x5 x6 x7 x8 x9 x10 hc5 HC5 HN2
  go_wp2_with (first
    | (go_at_call 77; refine (HK2.out _ (by exact HRB2.out.x.below ⟨rfl, rfl, rfl, Nat.le_refl _, fun _ _ => rfl⟩) (by exact HRB2.out.v.below ⟨rfl, rfl, rfl, Nat.le_refl _, fun _ _ => rfl⟩)).mono ?_; rintro e wc2 ⟨rfl, hv7, hx7, ho7⟩
       have HRC2 := hid (HRB2.out.step hv7 hx7 ⟨ho7.os, ho7.tape, ho7.output, ho7.size, ho7.block⟩)
       clear hv7 hx7 ho7 z0 z1))
  go_ret2
  exact ⟨rfl, HRC2.out.v, HRC2.out.x, HRC2.out.o⟩
set_option maxRecDepth 100000 in
set_option maxHeartbeats 4000000 in
theorem reach2_made_made {G : Geo} {p q cap m g : Nat} {w : World} {F B : List ByteArray} (n : Ino) (i : Nat) (hi : i < 4166) (h70 : ¬ i < 70) (hA : nm G B n 0 7 = 0) (A : Nat) (B1 : List ByteArray) (n1 : Ino) (hM : mkS G B n 0 7 = (some A, B1, n1)) (hC : nm G B1 n1 A ((i - 70) / 64) = 0) (C : Nat) (B2 : List ByteArray) (n2 : Ino) (hM2 : mkS G B1 n1 A ((i - 70) / 64) = (some C, B2, n2)) (h0 : blk G B n i = 0) (hX : Box g w n) (hgp : g ≠ p) (hgq : g ≠ q) (h : VI G p q cap m w F B) : Calls Tryz.prog 53 #[.pointer (some ⟨p, 0, none⟩), .pointer (some ⟨g, 0, none⟩), .int .i64 (i : Int)] w fun e w' => e = .returned (.tuple #[.int .i64 (optI (mkS G B2 n2 C ((i - 70) % 64)).1), .int .i64 (eS (mkS G B2 n2 C ((i - 70) % 64)).1)]) ∧ VI G p q cap m w' F (mkS G B2 n2 C ((i - 70) % 64)).2.1 ∧ Box g w' (mkS G B2 n2 C ((i - 70) % 64)).2.2 ∧ Only [g, m] w w' := by
  have HV := hid h
  have HG := hid h.ok
  have HX := hid hX
  have HGP := hid hgp
  have HGQ := hid hgq
  have HGM := hid (h.gm hX)
  have hml := h.ml
  have hgl := lt_of_block hX
  have HLT : Hid (g < w.heap.size ∧ m < w.heap.size) := hid ⟨hgl, hml⟩
  have HK := hid (blockOf_any n i (by omega) h)
  rw [h0] at HK
  have HWy := hid (wayTo_any i (by omega))
  unfold wayV at HWy
  rw [if_neg (by omega), if_neg h70] at HWy
  have HN1 := hid (fun w' (hv : VI G p q cap m w' F B) => named_nm (w := w') n 0 7 (by have := HG.out.c4; have := HG.out.sum; omega) (fun _ => by omega) hv)
  rw [hA] at HN1
  obtain ⟨x, hx⟩ : ∃ x : Nat, x = (i - 70) / 64 := ⟨_, rfl⟩
  obtain ⟨y, hy⟩ : ∃ y : Nat, y = (i - 70) % 64 := ⟨_, rfl⟩
  rw [show ((i : Int) - 70) / 64 = (x : Int) by omega, show ((i : Int) - 70) % 64 = (y : Int) by omega] at HWy
  rw [← hx] at hC hM2
  rw [← hy]
  have HK1 := hid (fun w' (hx : Box g w' n) (hv : VI G p q cap m w' F B) => makeAt_any (w := w') n 0 7 (by have := HG.out.c4; have := HG.out.sum; omega) (fun _ => by omega) (by omega) hx HGP.out HGQ.out hv)
  rw [hM] at HK1
  simp only [optI, eS] at HK1
  have hAl := mkS_lt HG.out (show (mkS G B n 0 7).1 = some A by rw [hM])
  have HN2 := hid (fun w' (hv : VI G p q cap m w' F B1) => named_nm (w := w') n1 A x hAl.1 (fun e => absurd e hAl.2) hv)
  rw [hC] at HN2
  have HK2 := hid (fun w' (hx' : Box g w' n1) (hv : VI G p q cap m w' F B1) => makeAt_any (w := w') n1 A x hAl.1 (fun e => absurd e hAl.2) (by omega) hx' HGP.out HGQ.out hv)
  rw [hM2] at HK2
  simp only [optI, eS] at HK2
  have hCl := mkS_lt HG.out (show (mkS G B1 n1 A x).1 = some C by rw [hM2])
  have HM := hid (fun w' (hx' : Box g w' n2) (hv : VI G p q cap m w' F B2) => makeAt_any (w := w') n2 C y hCl.1 (fun e => absurd e hCl.2) (by omega) hx' HGP.out HGQ.out hv)
  obtain ⟨r, hr⟩ : ∃ r, r = mkS G B2 n2 C y := ⟨_, rfl⟩
  rw [← hr] at HM ⊢
  clear h h70 h0 hX hgp hgq hml hgl hx hy hi hr hCl hC hAl hM2 hA hM
  obtain ⟨kk1, ll1, zz1, aa1, bb1, cc1, dd1, ee1, ff1, ss1, tt1⟩ := n1
  simp only [Ino.v] at *
  obtain ⟨k, l, z, a0, b0, c0, d0, e0, f0, s0, t0⟩ := n
  obtain ⟨c0', c1', c2', c3', c4', c5', c6', c7', c8', c9', c10'⟩ := HX.out.cells
  go_enter Tryz.func53, Tryz.ntmps53
  go_wp2_with (first
    | (go_at_call 42; refine HK.out.mono ?_; rintro e w1 ⟨rfl, hb1⟩; have HB1 := hid hb1; clear hb1)
    | (go_at_call 75; refine (HWy.out _).mono ?_; rintro e w2 ⟨rfl, hb2⟩; have HB2 := hid (HB1.out.next hb2); clear hb2)
    | (go_at_call 76; fail))
  obtain ⟨w3, hw3⟩ : ∃ w3, w3 = w2.alloc (.cells #[.int .i64 7, .int .i64 (x : Int), .int .i64 (y : Int), .int .i64 3] 132) := ⟨_, rfl⟩
  have HRP : Hid (RP G p q cap m g F B w ⟨k, l, z, a0, b0, c0, d0, e0, f0, s0, t0⟩ w2.heap.size 7 (x : Int) (y : Int) 3 w3) := by
    have hs := HB2.out.size
    have hl := HLT.out
    rw [hw3]
    exact ⟨(HV.out.below HB2.out).below (below_alloc _ _), (HX.out.below HB2.out).below (below_alloc _ _), box_at _ _, by omega, by omega, Only.of_below (HB2.out.next (below_alloc _ _))⟩
  rw [← hw3]
  clear hw3 c0' c1' c2' c3' c4' c5' c6' c7' c8' c9' c10'
  refine (naming3 _ HRP.out.y).mono ?_
  rintro e w4 ⟨rfl, hd4⟩
  have HR := hid (HRP.out.drew hd4)
  clear hd4 HRP HV HX HB1 HB2 HK HWy HLT
  obtain ⟨Y, hY⟩ : ∃ Y, Y = w2.heap.size := ⟨_, rfl⟩
  rw [← hY] at HR ⊢
  clear hY
  go_wp2
  refine wp_loop_rounds 3 ?_
  rw [rounds_succ]
  obtain ⟨y0, y1, y2, y3⟩ := HR.out.y.cells
  go_wp2_with (go_at_call 58; fail)
  obtain ⟨wa1, hw5⟩ : ∃ w5, w5 = w4.alloc (.cells #[.int .i64 0, .int .i64 7] 102) := ⟨_, rfl⟩
  have HRA1 : Hid (RP G p q cap m g F B w ⟨k, l, z, a0, b0, c0, d0, e0, f0, s0, t0⟩ Y 7 (x : Int) (y : Int) 3 wa1) := by rw [hw5]; exact HR.out.below (below_alloc _ _)
  have HSA1 : Hid (Spt w4.heap.size wa1 0 7) := by rw [hw5]; exact box_at _ _
  rw [← hw5]
  clear hw5 y0 y1 y2 y3
  have hc5 : ∀ w', Box g w' ⟨k, l, z, a0, b0, c0, d0, e0, f0, s0, t0⟩ → Spt w4.heap.size w' 0 7 → (w'.cell? ⟨g, 0, none⟩ = some (.int .i64 k) ∧ w'.cell? ⟨g, 1, none⟩ = some (.int .i64 l) ∧ w'.cell? ⟨g, 2, none⟩ = some (.int .i64 z) ∧ w'.cell? ⟨g, 3, none⟩ = some (.int .i64 a0) ∧ w'.cell? ⟨g, 4, none⟩ = some (.int .i64 b0) ∧ w'.cell? ⟨g, 5, none⟩ = some (.int .i64 c0) ∧ w'.cell? ⟨g, 6, none⟩ = some (.int .i64 d0) ∧ w'.cell? ⟨g, 7, none⟩ = some (.int .i64 e0) ∧ w'.cell? ⟨g, 8, none⟩ = some (.int .i64 f0) ∧ w'.cell? ⟨g, 9, none⟩ = some (.int .i64 s0) ∧ w'.cell? ⟨g, 10, none⟩ = some (.int .i64 t0) ∧ w'.cell? ⟨w4.heap.size, 0, none⟩ = some (.int .i64 0) ∧ w'.cell? ⟨w4.heap.size, 1, none⟩ = some (.int .i64 7)) := fun w' hb hs => by
    obtain ⟨x0, x1, x2, x3, x4, x5, x6, x7, x8, x9, x10⟩ := hb.cells
    obtain ⟨z0, z1⟩ := hs.cells
    exact ⟨x0, x1, x2, x3, x4, x5, x6, x7, x8, x9, x10, z0, z1⟩
  have HC5 := hid hc5
  replace hc5 := hc5 _ HRA1.out.x HSA1.out
  go_region_held3 (fun w' => w'.cell? ⟨g, 0, none⟩ = some (.int .i64 k) ∧ w'.cell? ⟨g, 1, none⟩ = some (.int .i64 l) ∧ w'.cell? ⟨g, 2, none⟩ = some (.int .i64 z) ∧ w'.cell? ⟨g, 3, none⟩ = some (.int .i64 a0) ∧ w'.cell? ⟨g, 4, none⟩ = some (.int .i64 b0) ∧ w'.cell? ⟨g, 5, none⟩ = some (.int .i64 c0) ∧ w'.cell? ⟨g, 6, none⟩ = some (.int .i64 d0) ∧ w'.cell? ⟨g, 7, none⟩ = some (.int .i64 e0) ∧ w'.cell? ⟨g, 8, none⟩ = some (.int .i64 f0) ∧ w'.cell? ⟨g, 9, none⟩ = some (.int .i64 s0) ∧ w'.cell? ⟨g, 10, none⟩ = some (.int .i64 t0) ∧ w'.cell? ⟨w4.heap.size, 0, none⟩ = some (.int .i64 0) ∧ w'.cell? ⟨w4.heap.size, 1, none⟩ = some (.int .i64 7)) (first | exact hc5 | exact hc6 | go_keep) (first
    | (go_at_call 58; refine (HN1.out _ (by exact HRA1.out.v.below ⟨rfl, rfl, rfl, Nat.le_refl _, fun _ _ => rfl⟩)).mono ?_; rintro e wb1 ⟨rfl, hb6⟩
       have HB6 : Hid (Below wa1.heap.size wa1 wb1) := hid ⟨hb6.os, hb6.tape, hb6.output, hb6.size, hb6.block⟩
       have HRB1 := hid (HRA1.out.below HB6.out)
       have hc6 := HC5.out _ HRB1.out.x (HSA1.out.below HB6.out)
       clear hb6 HB6))
  obtain ⟨x0, x1, x2, x3, x4, x5, x6, x7, x8, x9, x10, z0, z1⟩ := hc6
  clear x0 x1 x2 x3 x4 x5 x6 x7 x8 x9 x10 hc5 HC5 HN1
  go_wp2_with (first
    | (go_at_call 77; refine (HK1.out _ (by exact HRB1.out.x.below ⟨rfl, rfl, rfl, Nat.le_refl _, fun _ _ => rfl⟩) (by exact HRB1.out.v.below ⟨rfl, rfl, rfl, Nat.le_refl _, fun _ _ => rfl⟩)).mono ?_; rintro e wc1 ⟨rfl, hv7, hx7, ho7⟩
       have HRC1 := hid (HRB1.out.step hv7 hx7 ⟨ho7.os, ho7.tape, ho7.output, ho7.size, ho7.block⟩)
       clear hv7 hx7 ho7 z0 z1))
  rw [rounds_succ]
  obtain ⟨y0, y1, y2, y3⟩ := HRC1.out.y.cells
  go_wp2_with (go_at_call 58; fail)
  obtain ⟨wa2, hw5⟩ : ∃ w5, w5 = wc1.alloc (.cells #[.int .i64 (A : Int), .int .i64 (x : Int)] 102) := ⟨_, rfl⟩
  have HRA2 : Hid (RP G p q cap m g F B1 w ⟨kk1, ll1, zz1, aa1, bb1, cc1, dd1, ee1, ff1, ss1, tt1⟩ Y 7 (x : Int) (y : Int) 3 wa2) := by rw [hw5]; exact HRC1.out.below (below_alloc _ _)
  have HSA2 : Hid (Spt wc1.heap.size wa2 (A : Int) (x : Int)) := by rw [hw5]; exact box_at _ _
  rw [← hw5]
  clear hw5 y0 y1 y2 y3
  have hc5 : ∀ w', Box g w' ⟨kk1, ll1, zz1, aa1, bb1, cc1, dd1, ee1, ff1, ss1, tt1⟩ → Spt wc1.heap.size w' (A : Int) (x : Int) → (w'.cell? ⟨g, 0, none⟩ = some (.int .i64 kk1) ∧ w'.cell? ⟨g, 1, none⟩ = some (.int .i64 ll1) ∧ w'.cell? ⟨g, 2, none⟩ = some (.int .i64 zz1) ∧ w'.cell? ⟨g, 3, none⟩ = some (.int .i64 aa1) ∧ w'.cell? ⟨g, 4, none⟩ = some (.int .i64 bb1) ∧ w'.cell? ⟨g, 5, none⟩ = some (.int .i64 cc1) ∧ w'.cell? ⟨g, 6, none⟩ = some (.int .i64 dd1) ∧ w'.cell? ⟨g, 7, none⟩ = some (.int .i64 ee1) ∧ w'.cell? ⟨g, 8, none⟩ = some (.int .i64 ff1) ∧ w'.cell? ⟨g, 9, none⟩ = some (.int .i64 ss1) ∧ w'.cell? ⟨g, 10, none⟩ = some (.int .i64 tt1) ∧ w'.cell? ⟨wc1.heap.size, 0, none⟩ = some (.int .i64 (A : Int)) ∧ w'.cell? ⟨wc1.heap.size, 1, none⟩ = some (.int .i64 (x : Int))) := fun w' hb hs => by
    obtain ⟨x0, x1, x2, x3, x4, x5, x6, x7, x8, x9, x10⟩ := hb.cells
    obtain ⟨z0, z1⟩ := hs.cells
    exact ⟨x0, x1, x2, x3, x4, x5, x6, x7, x8, x9, x10, z0, z1⟩
  have HC5 := hid hc5
  replace hc5 := hc5 _ HRA2.out.x HSA2.out
  go_region_held3 (fun w' => w'.cell? ⟨g, 0, none⟩ = some (.int .i64 kk1) ∧ w'.cell? ⟨g, 1, none⟩ = some (.int .i64 ll1) ∧ w'.cell? ⟨g, 2, none⟩ = some (.int .i64 zz1) ∧ w'.cell? ⟨g, 3, none⟩ = some (.int .i64 aa1) ∧ w'.cell? ⟨g, 4, none⟩ = some (.int .i64 bb1) ∧ w'.cell? ⟨g, 5, none⟩ = some (.int .i64 cc1) ∧ w'.cell? ⟨g, 6, none⟩ = some (.int .i64 dd1) ∧ w'.cell? ⟨g, 7, none⟩ = some (.int .i64 ee1) ∧ w'.cell? ⟨g, 8, none⟩ = some (.int .i64 ff1) ∧ w'.cell? ⟨g, 9, none⟩ = some (.int .i64 ss1) ∧ w'.cell? ⟨g, 10, none⟩ = some (.int .i64 tt1) ∧ w'.cell? ⟨wc1.heap.size, 0, none⟩ = some (.int .i64 (A : Int)) ∧ w'.cell? ⟨wc1.heap.size, 1, none⟩ = some (.int .i64 (x : Int))) (first | exact hc5 | exact hc6 | go_keep) (first
    | (go_at_call 58; refine (HN2.out _ (by exact HRA2.out.v.below ⟨rfl, rfl, rfl, Nat.le_refl _, fun _ _ => rfl⟩)).mono ?_; rintro e wb2 ⟨rfl, hb6⟩
       have HB6 : Hid (Below wa2.heap.size wa2 wb2) := hid ⟨hb6.os, hb6.tape, hb6.output, hb6.size, hb6.block⟩
       have HRB2 := hid (HRA2.out.below HB6.out)
       have hc6 := HC5.out _ HRB2.out.x (HSA2.out.below HB6.out)
       clear hb6 HB6))
  obtain ⟨x0, x1, x2, x3, x4, x5, x6, x7, x8, x9, x10, z0, z1⟩ := hc6
  clear x0 x1 x2 x3 x4 x5 x6 x7 x8 x9 x10 hc5 HC5 HN2
  go_wp2_with (first
    | (go_at_call 77; refine (HK2.out _ (by exact HRB2.out.x.below ⟨rfl, rfl, rfl, Nat.le_refl _, fun _ _ => rfl⟩) (by exact HRB2.out.v.below ⟨rfl, rfl, rfl, Nat.le_refl _, fun _ _ => rfl⟩)).mono ?_; rintro e wc2 ⟨rfl, hv7, hx7, ho7⟩
       have HRC2 := hid (HRB2.out.step hv7 hx7 ⟨ho7.os, ho7.tape, ho7.output, ho7.size, ho7.block⟩)
       clear hv7 hx7 ho7 z0 z1))
  rw [rounds_succ]
  go_wp2_with (first
    | (go_at_call 78; refine (last3 _ HRC2.out.y).mono ?_; rintro e w9 ⟨rfl, hd9⟩
       have HRL := hid (HRC2.out.drew hd9)
       clear hd9)
    | (go_at_call 77; refine (HM.out _ HRL.out.x HRL.out.v).mono ?_; rintro e w10 ⟨rfl, hv10, hx10, ho10⟩
       have HZ := hid (HRL.out.step hv10 hx10 ho10)
       clear hv10 hx10 ho10))
  go_ret2
  exact ⟨rfl, HZ.out.v, HZ.out.x, HZ.out.o⟩
end Go.Proofs.YtjnhibpebikkmaaGreat
