import Derived.Test.YtokjlgebkihimaaGreatFl
import Derived.Laws.IdiomCopy
namespace Go.Proofs.YtokjlgebkihimaaGreat
open Go.RowKit Go.Maps

set_option maxRecDepth 100000 in
set_option maxHeartbeats 1000000 in
theorem reach_hit {G : Geo} {p q cap m g : Nat} {w : World} {F B : List ByteArray} (n : Ino) (i : Nat) (hi : i < 4166) (h0 : blk G B n i ≠ 0) (hX : Box g w n) (h : VI G p q cap m w F B) : Calls Tryz.prog 124 #[.pointer (some ⟨p, 0, none⟩), .pointer (some ⟨g, 0, none⟩), .int .i64 (i : Int)] w fun e w' => e = .returned (.tuple #[.int .i64 (blk G B n i : Int), .int .i64 0]) ∧ Below w.heap.size w w' := by
  have HK := hid (blockOf_any n i hi h)
  have hr0 : ¬ ((blk G B n i : Int) = 0) := by omega
  obtain ⟨r, hr⟩ : ∃ r, r = blk G B n i := ⟨_, rfl⟩
  rw [← hr] at HK hr0 ⊢
  clear h h0 hi hr
  obtain ⟨k, l, z, a0, b0, c0, d0, e0, f0, s0, t0⟩ := n
  simp only [Ino.v] at HK
  obtain ⟨c0', c1', c2', c3', c4', c5', c6', c7', c8', c9', c10'⟩ := hX.cells
  clear hX
  go_enter Tryz.func124, Tryz.ntmps124
  go_wp2_with (first | (go_at_call 133; refine HK.out.mono ?_; rintro e w1 ⟨rfl, hb1⟩))
  go_ret2
  exact ⟨rfl, hb1⟩
set_option maxRecDepth 100000 in
set_option maxHeartbeats 4000000 in
theorem reach0 {G : Geo} {p q cap m g : Nat} {w : World} {F B : List ByteArray} (n : Ino) (i : Nat) (h6 : i < 6) (h0 : blk G B n i = 0) (hX : Box g w n) (hgp : g ≠ p) (hgq : g ≠ q) (h : VI G p q cap m w F B) : Calls Tryz.prog 124 #[.pointer (some ⟨p, 0, none⟩), .pointer (some ⟨g, 0, none⟩), .int .i64 (i : Int)] w fun e w' => e = .returned (.tuple #[.int .i64 (optI (mkS G B n 0 i).1), .int .i64 (eS (mkS G B n 0 i).1)]) ∧ VI G p q cap m w' F (mkS G B n 0 i).2.1 ∧ Box g w' (mkS G B n 0 i).2.2 ∧ Only [g, m] w w' := by
  have HV := hid h
  have HG := hid h.ok
  have HX := hid hX
  have HGP := hid hgp
  have HGQ := hid hgq
  have HGM := hid (h.gm hX)
  have hml := h.ml
  have hgl := lt_of_block hX
  have HLT : Hid (g < w.heap.size ∧ m < w.heap.size) := hid ⟨hgl, hml⟩
  have HK := hid (blockOf_any n i (by omega) h)
  rw [h0] at HK
  have HWy := hid (wayTo_any i (by omega))
  unfold wayV at HWy
  rw [if_pos h6] at HWy
  have HM := hid (fun w' (hx : Box g w' n) (hv : VI G p q cap m w' F B) => makeAt_any (w := w') n 0 i (by have := HG.out.c4; have := HG.out.sum; omega) (fun _ => by omega) (by omega) hx HGP.out HGQ.out hv)
  obtain ⟨r, hr⟩ : ∃ r, r = mkS G B n 0 i := ⟨_, rfl⟩
  rw [← hr] at HM ⊢
  clear h h6 h0 hX hgp hgq hml hgl hr
  obtain ⟨k, l, z, a0, b0, c0, d0, e0, f0, s0, t0⟩ := n
  simp only [Ino.v, Int.natCast_zero] at *
  obtain ⟨c0', c1', c2', c3', c4', c5', c6', c7', c8', c9', c10'⟩ := HX.out.cells
  go_enter Tryz.func124, Tryz.ntmps124
  go_wp2_with (first
    | (go_at_call 133; refine HK.out.mono ?_; rintro e w1 ⟨rfl, hb1⟩; have HB1 := hid hb1; clear hb1)
    | (go_at_call 154; refine (HWy.out _).mono ?_; rintro e w2 ⟨rfl, hb2⟩; have HB2 := hid (HB1.out.next hb2); clear hb2)
    | (go_at_call 155; fail))
  obtain ⟨w3, hw3⟩ : ∃ w3, w3 = w2.alloc (.cells #[.int .i64 (i : Int), .int .i64 0, .int .i64 0, .int .i64 1] 207) := ⟨_, rfl⟩
  have HRP : Hid (RP G p q cap m g F B w ⟨k, l, z, a0, b0, c0, d0, e0, f0, s0, t0⟩ w2.heap.size (i : Int) 0 0 1 w3) := by
    have hs := HB2.out.size
    have hl := HLT.out
    rw [hw3]
    exact ⟨(HV.out.below HB2.out).below (below_alloc _ _), (HX.out.below HB2.out).below (below_alloc _ _), box_at _ _, by omega, by omega, Only.of_below (HB2.out.next (below_alloc _ _))⟩
  rw [← hw3]
  clear hw3 c0' c1' c2' c3' c4' c5' c6' c7' c8' c9' c10'
  refine (naming1 _ HRP.out.y).mono ?_
  rintro e w4 ⟨rfl, hd4⟩
  have HR := hid (HRP.out.drew hd4)
  clear hd4 HRP HV HX HB1 HB2 HK HWy HLT
  obtain ⟨Y, hY⟩ : ∃ Y, Y = w2.heap.size := ⟨_, rfl⟩
  rw [← hY] at HR ⊢
  clear hY
  go_wp2
  refine wp_loop_rounds 1 ?_
  rw [rounds_succ]
  go_wp2_with (first
    | (go_at_call 158; refine (last1 _ HR.out.y).mono ?_; rintro e w9 ⟨rfl, hd9⟩
       have HRL := hid (HR.out.drew hd9)
       clear hd9)
    | (go_at_call 157; refine (HM.out _ HRL.out.x HRL.out.v).mono ?_; rintro e w10 ⟨rfl, hv10, hx10, ho10⟩
       have HZ := hid (HRL.out.step hv10 hx10 ho10)
       clear hv10 hx10 ho10))
  go_ret2
  exact ⟨rfl, HZ.out.v, HZ.out.x, HZ.out.o⟩
end Go.Proofs.YtokjlgebkihimaaGreat
namespace Go.Proofs.YtokjlgebkihimaaGreat
open Go.RowKit Go.Maps

set_option maxRecDepth 100000 in
set_option maxHeartbeats 4000000 in
theorem reach1_hit {G : Geo} {p q cap m g : Nat} {w : World} {F B : List ByteArray} (n : Ino) (i : Nat) (h6 : ¬ i < 6) (h70 : i < 70) (A : Nat) (hA : nm G B n 0 6 = A) (hA0 : A ≠ 0) (h0 : blk G B n i = 0) (hX : Box g w n) (hgp : g ≠ p) (hgq : g ≠ q) (h : VI G p q cap m w F B) : Calls Tryz.prog 124 #[.pointer (some ⟨p, 0, none⟩), .pointer (some ⟨g, 0, none⟩), .int .i64 (i : Int)] w fun e w' => e = .returned (.tuple #[.int .i64 (optI (mkS G B n A (i - 6)).1), .int .i64 (eS (mkS G B n A (i - 6)).1)]) ∧ VI G p q cap m w' F (mkS G B n A (i - 6)).2.1 ∧ Box g w' (mkS G B n A (i - 6)).2.2 ∧ Only [g, m] w w' := by
  have HV := hid h
  have HG := hid h.ok
  have HX := hid hX
  have HGP := hid hgp
  have HGQ := hid hgq
  have HGM := hid (h.gm hX)
  have hml := h.ml
  have hgl := lt_of_block hX
  have HLT : Hid (g < w.heap.size ∧ m < w.heap.size) := hid ⟨hgl, hml⟩
  have HK := hid (blockOf_any n i (by omega) h)
  rw [h0] at HK
  have HWy := hid (wayTo_any i (by omega))
  unfold wayV at HWy
  rw [if_neg h6, if_pos h70] at HWy
  have HN1 := hid (fun w' (hv : VI G p q cap m w' F B) => named_nm (w := w') n 0 6 (by have := HG.out.c4; have := HG.out.sum; omega) (fun _ => by omega) hv)
  rw [hA] at HN1
  obtain ⟨x, hx⟩ : ∃ x : Nat, (x : Int) = (i : Int) - 6 := ⟨i - 6, by omega⟩
  rw [← hx] at HWy
  rw [show i - 6 = x by omega]
  have hAl : A < G.n := hA ▸ nm_lt HG.out _ _ _ _
  have HM := hid (fun w' (hx : Box g w' n) (hv : VI G p q cap m w' F B) => makeAt_any (w := w') n A x hAl (fun e => absurd e hA0) (by omega) hx HGP.out HGQ.out hv)
  obtain ⟨r, hr⟩ : ∃ r, r = mkS G B n A x := ⟨_, rfl⟩
  rw [← hr] at HM ⊢
  have hA1 : ¬ ((A : Int) = 0) := by omega
  clear h h6 h70 h0 hX hgp hgq hml hgl hr hx hA hA0 hAl
  obtain ⟨k, l, z, a0, b0, c0, d0, e0, f0, s0, t0⟩ := n
  simp only [Ino.v, Int.natCast_zero] at *
  obtain ⟨c0', c1', c2', c3', c4', c5', c6', c7', c8', c9', c10'⟩ := HX.out.cells
  go_enter Tryz.func124, Tryz.ntmps124
  go_wp2_with (first
    | (go_at_call 133; refine HK.out.mono ?_; rintro e w1 ⟨rfl, hb1⟩; have HB1 := hid hb1; clear hb1)
    | (go_at_call 154; refine (HWy.out _).mono ?_; rintro e w2 ⟨rfl, hb2⟩; have HB2 := hid (HB1.out.next hb2); clear hb2)
    | (go_at_call 155; fail))
  obtain ⟨w3, hw3⟩ : ∃ w3, w3 = w2.alloc (.cells #[.int .i64 6, .int .i64 (x : Int), .int .i64 0, .int .i64 2] 207) := ⟨_, rfl⟩
  have HRP : Hid (RP G p q cap m g F B w ⟨k, l, z, a0, b0, c0, d0, e0, f0, s0, t0⟩ w2.heap.size 6 (x : Int) 0 2 w3) := by
    have hs := HB2.out.size
    have hl := HLT.out
    rw [hw3]
    exact ⟨(HV.out.below HB2.out).below (below_alloc _ _), (HX.out.below HB2.out).below (below_alloc _ _), box_at _ _, by omega, by omega, Only.of_below (HB2.out.next (below_alloc _ _))⟩
  rw [← hw3]
  clear hw3 c0' c1' c2' c3' c4' c5' c6' c7' c8' c9' c10'
  refine (naming2 _ HRP.out.y).mono ?_
  rintro e w4 ⟨rfl, hd4⟩
  have HR := hid (HRP.out.drew hd4)
  clear hd4 HRP HV HX HB1 HB2 HK HWy HLT
  obtain ⟨Y, hY⟩ : ∃ Y, Y = w2.heap.size := ⟨_, rfl⟩
  rw [← hY] at HR ⊢
  clear hY
  go_wp2
  refine wp_loop_rounds 2 ?_
  rw [rounds_succ]
  obtain ⟨y0, y1, y2, y3⟩ := HR.out.y.cells
  go_wp2_with (go_at_call 156; fail)
  obtain ⟨wa1, hw5⟩ : ∃ w5, w5 = w4.alloc (.cells #[.int .i64 0, .int .i64 6] 211) := ⟨_, rfl⟩
  have HRA1 : Hid (RP G p q cap m g F B w ⟨k, l, z, a0, b0, c0, d0, e0, f0, s0, t0⟩ Y 6 (x : Int) 0 2 wa1) := by rw [hw5]; exact HR.out.below (below_alloc _ _)
  have HSA1 : Hid (Spt w4.heap.size wa1 0 6) := by rw [hw5]; exact box_at _ _
  rw [← hw5]
  clear hw5 y0 y1 y2 y3
  have hc5 : ∀ w', Box g w' ⟨k, l, z, a0, b0, c0, d0, e0, f0, s0, t0⟩ → Spt w4.heap.size w' 0 6 → (w'.cell? ⟨g, 0, none⟩ = some (.int .i64 k) ∧ w'.cell? ⟨g, 1, none⟩ = some (.int .i64 l) ∧ w'.cell? ⟨g, 2, none⟩ = some (.int .i64 z) ∧ w'.cell? ⟨g, 3, none⟩ = some (.int .i64 a0) ∧ w'.cell? ⟨g, 4, none⟩ = some (.int .i64 b0) ∧ w'.cell? ⟨g, 5, none⟩ = some (.int .i64 c0) ∧ w'.cell? ⟨g, 6, none⟩ = some (.int .i64 d0) ∧ w'.cell? ⟨g, 7, none⟩ = some (.int .i64 e0) ∧ w'.cell? ⟨g, 8, none⟩ = some (.int .i64 f0) ∧ w'.cell? ⟨g, 9, none⟩ = some (.int .i64 s0) ∧ w'.cell? ⟨g, 10, none⟩ = some (.int .i64 t0) ∧ w'.cell? ⟨w4.heap.size, 0, none⟩ = some (.int .i64 0) ∧ w'.cell? ⟨w4.heap.size, 1, none⟩ = some (.int .i64 6)) := fun w' hb hs => by
    obtain ⟨x0, x1, x2, x3, x4, x5, x6, x7, x8, x9, x10⟩ := hb.cells
    obtain ⟨z0, z1⟩ := hs.cells
    exact ⟨x0, x1, x2, x3, x4, x5, x6, x7, x8, x9, x10, z0, z1⟩
  have HC5 := hid hc5
  replace hc5 := hc5 _ HRA1.out.x HSA1.out
  go_region_held3 (fun w' => w'.cell? ⟨g, 0, none⟩ = some (.int .i64 k) ∧ w'.cell? ⟨g, 1, none⟩ = some (.int .i64 l) ∧ w'.cell? ⟨g, 2, none⟩ = some (.int .i64 z) ∧ w'.cell? ⟨g, 3, none⟩ = some (.int .i64 a0) ∧ w'.cell? ⟨g, 4, none⟩ = some (.int .i64 b0) ∧ w'.cell? ⟨g, 5, none⟩ = some (.int .i64 c0) ∧ w'.cell? ⟨g, 6, none⟩ = some (.int .i64 d0) ∧ w'.cell? ⟨g, 7, none⟩ = some (.int .i64 e0) ∧ w'.cell? ⟨g, 8, none⟩ = some (.int .i64 f0) ∧ w'.cell? ⟨g, 9, none⟩ = some (.int .i64 s0) ∧ w'.cell? ⟨g, 10, none⟩ = some (.int .i64 t0) ∧ w'.cell? ⟨w4.heap.size, 0, none⟩ = some (.int .i64 0) ∧ w'.cell? ⟨w4.heap.size, 1, none⟩ = some (.int .i64 6)) (first | exact hc5 | exact hc6 | go_keep) (first
    | (go_at_call 156; refine (HN1.out _ (by exact HRA1.out.v.below ⟨rfl, rfl, rfl, Nat.le_refl _, fun _ _ => rfl⟩)).mono ?_; rintro e wb1 ⟨rfl, hb6⟩
       have HB6 : Hid (Below wa1.heap.size wa1 wb1) := hid ⟨hb6.os, hb6.tape, hb6.output, hb6.size, hb6.block⟩
       have HRB1 := hid (HRA1.out.below HB6.out)
       have hc6 := HC5.out _ HRB1.out.x (HSA1.out.below HB6.out)
       clear hb6 HB6))
  obtain ⟨x0, x1, x2, x3, x4, x5, x6, x7, x8, x9, x10, z0, z1⟩ := hc6
  clear x0 x1 x2 x3 x4 x5 x6 x7 x8 x9 x10 hc5 HC5 HN1
  clear z0 z1
  go_wp2
  have HRC1 := hid (HRB1.out.below (w' := wb1.drewN 0) ⟨rfl, rfl, rfl, Nat.le_refl _, fun _ _ => rfl⟩)
  rw [rounds_succ]
  go_wp2_with (first
    | (go_at_call 158; refine (last2 _ HRB1.out.y).mono ?_; rintro e w9 ⟨rfl, hd9⟩
       have HRL := hid (HRB1.out.drew hd9)
       clear hd9)
    | (go_at_call 157; refine (HM.out _ HRL.out.x HRL.out.v).mono ?_; rintro e w10 ⟨rfl, hv10, hx10, ho10⟩
       have HZ := hid (HRL.out.step hv10 hx10 ho10)
       clear hv10 hx10 ho10))
  go_ret2
  exact ⟨rfl, HZ.out.v, HZ.out.x, HZ.out.o⟩
set_option maxRecDepth 100000 in
set_option maxHeartbeats 4000000 in
theorem reach1_none {G : Geo} {p q cap m g : Nat} {w : World} {F B : List ByteArray} (n : Ino) (i : Nat) (h6 : ¬ i < 6) (h70 : i < 70) (hA : nm G B n 0 6 = 0) (B1 : List ByteArray) (n1 : Ino) (hM : mkS G B n 0 6 = (none, B1, n1)) (h0 : blk G B n i = 0) (hX : Box g w n) (hgp : g ≠ p) (hgq : g ≠ q) (h : VI G p q cap m w F B) : Calls Tryz.prog 124 #[.pointer (some ⟨p, 0, none⟩), .pointer (some ⟨g, 0, none⟩), .int .i64 (i : Int)] w fun e w' => e = .returned (.tuple #[.int .i64 0, .int .i64 306]) ∧ VI G p q cap m w' F B1 ∧ Box g w' n1 ∧ Only [g, m] w w' := by
  have HV := hid h
  have HG := hid h.ok
  have HX := hid hX
  have HGP := hid hgp
  have HGQ := hid hgq
  have HGM := hid (h.gm hX)
  have hml := h.ml
  have hgl := lt_of_block hX
  have HLT : Hid (g < w.heap.size ∧ m < w.heap.size) := hid ⟨hgl, hml⟩
  have HK := hid (blockOf_any n i (by omega) h)
  rw [h0] at HK
  have HWy := hid (wayTo_any i (by omega))
  unfold wayV at HWy
  rw [if_neg h6, if_pos h70] at HWy
  have HN1 := hid (fun w' (hv : VI G p q cap m w' F B) => named_nm (w := w') n 0 6 (by have := HG.out.c4; have := HG.out.sum; omega) (fun _ => by omega) hv)
  rw [hA] at HN1
  obtain ⟨x, hx⟩ : ∃ x : Nat, (x : Int) = (i : Int) - 6 := ⟨i - 6, by omega⟩
  rw [← hx] at HWy
  have HK1 := hid (fun w' (hx : Box g w' n) (hv : VI G p q cap m w' F B) => makeAt_any (w := w') n 0 6 (by have := HG.out.c4; have := HG.out.sum; omega) (fun _ => by omega) (by omega) hx HGP.out HGQ.out hv)
  rw [hM] at HK1
  simp only [optI, eS] at HK1
  clear h h6 h70 h0 hX hgp hgq hml hgl hx hA hM
  obtain ⟨k, l, z, a0, b0, c0, d0, e0, f0, s0, t0⟩ := n
  simp only [Ino.v, Int.natCast_zero] at *
  obtain ⟨c0', c1', c2', c3', c4', c5', c6', c7', c8', c9', c10'⟩ := HX.out.cells
  go_enter Tryz.func124, Tryz.ntmps124
  go_wp2_with (first
    | (go_at_call 133; refine HK.out.mono ?_; rintro e w1 ⟨rfl, hb1⟩; have HB1 := hid hb1; clear hb1)
    | (go_at_call 154; refine (HWy.out _).mono ?_; rintro e w2 ⟨rfl, hb2⟩; have HB2 := hid (HB1.out.next hb2); clear hb2)
    | (go_at_call 155; fail))
  obtain ⟨w3, hw3⟩ : ∃ w3, w3 = w2.alloc (.cells #[.int .i64 6, .int .i64 (x : Int), .int .i64 0, .int .i64 2] 207) := ⟨_, rfl⟩
  have HRP : Hid (RP G p q cap m g F B w ⟨k, l, z, a0, b0, c0, d0, e0, f0, s0, t0⟩ w2.heap.size 6 (x : Int) 0 2 w3) := by
    have hs := HB2.out.size
    have hl := HLT.out
    rw [hw3]
    exact ⟨(HV.out.below HB2.out).below (below_alloc _ _), (HX.out.below HB2.out).below (below_alloc _ _), box_at _ _, by omega, by omega, Only.of_below (HB2.out.next (below_alloc _ _))⟩
  rw [← hw3]
  clear hw3 c0' c1' c2' c3' c4' c5' c6' c7' c8' c9' c10'
  refine (naming2 _ HRP.out.y).mono ?_
  rintro e w4 ⟨rfl, hd4⟩
  have HR := hid (HRP.out.drew hd4)
  clear hd4 HRP HV HX HB1 HB2 HK HWy HLT
  obtain ⟨Y, hY⟩ : ∃ Y, Y = w2.heap.size := ⟨_, rfl⟩
  rw [← hY] at HR ⊢
  clear hY
  go_wp2
  refine wp_loop_rounds 2 ?_
  rw [rounds_succ]
  obtain ⟨y0, y1, y2, y3⟩ := HR.out.y.cells
  go_wp2_with (go_at_call 156; fail)
  obtain ⟨wa1, hw5⟩ : ∃ w5, w5 = w4.alloc (.cells #[.int .i64 0, .int .i64 6] 211) := ⟨_, rfl⟩
  have HRA1 : Hid (RP G p q cap m g F B w ⟨k, l, z, a0, b0, c0, d0, e0, f0, s0, t0⟩ Y 6 (x : Int) 0 2 wa1) := by rw [hw5]; exact HR.out.below (below_alloc _ _)
  have HSA1 : Hid (Spt w4.heap.size wa1 0 6) := by rw [hw5]; exact box_at _ _
  rw [← hw5]
  clear hw5 y0 y1 y2 y3
  have hc5 : ∀ w', Box g w' ⟨k, l, z, a0, b0, c0, d0, e0, f0, s0, t0⟩ → Spt w4.heap.size w' 0 6 → (w'.cell? ⟨g, 0, none⟩ = some (.int .i64 k) ∧ w'.cell? ⟨g, 1, none⟩ = some (.int .i64 l) ∧ w'.cell? ⟨g, 2, none⟩ = some (.int .i64 z) ∧ w'.cell? ⟨g, 3, none⟩ = some (.int .i64 a0) ∧ w'.cell? ⟨g, 4, none⟩ = some (.int .i64 b0) ∧ w'.cell? ⟨g, 5, none⟩ = some (.int .i64 c0) ∧ w'.cell? ⟨g, 6, none⟩ = some (.int .i64 d0) ∧ w'.cell? ⟨g, 7, none⟩ = some (.int .i64 e0) ∧ w'.cell? ⟨g, 8, none⟩ = some (.int .i64 f0) ∧ w'.cell? ⟨g, 9, none⟩ = some (.int .i64 s0) ∧ w'.cell? ⟨g, 10, none⟩ = some (.int .i64 t0) ∧ w'.cell? ⟨w4.heap.size, 0, none⟩ = some (.int .i64 0) ∧ w'.cell? ⟨w4.heap.size, 1, none⟩ = some (.int .i64 6)) := fun w' hb hs => by
    obtain ⟨x0, x1, x2, x3, x4, x5, x6, x7, x8, x9, x10⟩ := hb.cells
    obtain ⟨z0, z1⟩ := hs.cells
    exact ⟨x0, x1, x2, x3, x4, x5, x6, x7, x8, x9, x10, z0, z1⟩
  have HC5 := hid hc5
  replace hc5 := hc5 _ HRA1.out.x HSA1.out
  go_region_held3 (fun w' => w'.cell? ⟨g, 0, none⟩ = some (.int .i64 k) ∧ w'.cell? ⟨g, 1, none⟩ = some (.int .i64 l) ∧ w'.cell? ⟨g, 2, none⟩ = some (.int .i64 z) ∧ w'.cell? ⟨g, 3, none⟩ = some (.int .i64 a0) ∧ w'.cell? ⟨g, 4, none⟩ = some (.int .i64 b0) ∧ w'.cell? ⟨g, 5, none⟩ = some (.int .i64 c0) ∧ w'.cell? ⟨g, 6, none⟩ = some (.int .i64 d0) ∧ w'.cell? ⟨g, 7, none⟩ = some (.int .i64 e0) ∧ w'.cell? ⟨g, 8, none⟩ = some (.int .i64 f0) ∧ w'.cell? ⟨g, 9, none⟩ = some (.int .i64 s0) ∧ w'.cell? ⟨g, 10, none⟩ = some (.int .i64 t0) ∧ w'.cell? ⟨w4.heap.size, 0, none⟩ = some (.int .i64 0) ∧ w'.cell? ⟨w4.heap.size, 1, none⟩ = some (.int .i64 6)) (first | exact hc5 | exact hc6 | go_keep) (first
    | (go_at_call 156; refine (HN1.out _ (by exact HRA1.out.v.below ⟨rfl, rfl, rfl, Nat.le_refl _, fun _ _ => rfl⟩)).mono ?_; rintro e wb1 ⟨rfl, hb6⟩
       have HB6 : Hid (Below wa1.heap.size wa1 wb1) := hid ⟨hb6.os, hb6.tape, hb6.output, hb6.size, hb6.block⟩
       have HRB1 := hid (HRA1.out.below HB6.out)
       have hc6 := HC5.out _ HRB1.out.x (HSA1.out.below HB6.out)
       clear hb6 HB6))
  obtain ⟨x0, x1, x2, x3, x4, x5, x6, x7, x8, x9, x10, z0, z1⟩ := hc6
  clear x0 x1 x2 x3 x4 x5 x6 x7 x8 x9 x10 hc5 HC5 HN1
  go_wp2_with (first
    | (go_at_call 157; refine (HK1.out _ (by exact HRB1.out.x.below ⟨rfl, rfl, rfl, Nat.le_refl _, fun _ _ => rfl⟩) (by exact HRB1.out.v.below ⟨rfl, rfl, rfl, Nat.le_refl _, fun _ _ => rfl⟩)).mono ?_; rintro e wc1 ⟨rfl, hv7, hx7, ho7⟩
       have HRC1 := hid (HRB1.out.step hv7 hx7 ⟨ho7.os, ho7.tape, ho7.output, ho7.size, ho7.block⟩)
       clear hv7 hx7 ho7 z0 z1))
  go_ret2
  exact ⟨rfl, HRC1.out.v, HRC1.out.x, HRC1.out.o⟩
set_option maxRecDepth 100000 in
set_option maxHeartbeats 4000000 in
theorem reach1_made {G : Geo} {p q cap m g : Nat} {w : World} {F B : List ByteArray} (n : Ino) (i : Nat) (h6 : ¬ i < 6) (h70 : i < 70) (hA : nm G B n 0 6 = 0) (b : Nat) (B1 : List ByteArray) (n1 : Ino) (hM : mkS G B n 0 6 = (some b, B1, n1)) (h0 : blk G B n i = 0) (hX : Box g w n) (hgp : g ≠ p) (hgq : g ≠ q) (h : VI G p q cap m w F B) : Calls Tryz.prog 124 #[.pointer (some ⟨p, 0, none⟩), .pointer (some ⟨g, 0, none⟩), .int .i64 (i : Int)] w fun e w' => e = .returned (.tuple #[.int .i64 (optI (mkS G B1 n1 b (i - 6)).1), .int .i64 (eS (mkS G B1 n1 b (i - 6)).1)]) ∧ VI G p q cap m w' F (mkS G B1 n1 b (i - 6)).2.1 ∧ Box g w' (mkS G B1 n1 b (i - 6)).2.2 ∧ Only [g, m] w w' := by
  have HV := hid h
  have HG := hid h.ok
  have HX := hid hX
  have HGP := hid hgp
  have HGQ := hid hgq
  have HGM := hid (h.gm hX)
  have hml := h.ml
  have hgl := lt_of_block hX
  have HLT : Hid (g < w.heap.size ∧ m < w.heap.size) := hid ⟨hgl, hml⟩
  have HK := hid (blockOf_any n i (by omega) h)
  rw [h0] at HK
  have HWy := hid (wayTo_any i (by omega))
  unfold wayV at HWy
  rw [if_neg h6, if_pos h70] at HWy
  have HN1 := hid (fun w' (hv : VI G p q cap m w' F B) => named_nm (w := w') n 0 6 (by have := HG.out.c4; have := HG.out.sum; omega) (fun _ => by omega) hv)
  rw [hA] at HN1
  obtain ⟨x, hx⟩ : ∃ x : Nat, (x : Int) = (i : Int) - 6 := ⟨i - 6, by omega⟩
  rw [← hx] at HWy
  rw [show i - 6 = x by omega]
  have HK1 := hid (fun w' (hx : Box g w' n) (hv : VI G p q cap m w' F B) => makeAt_any (w := w') n 0 6 (by have := HG.out.c4; have := HG.out.sum; omega) (fun _ => by omega) (by omega) hx HGP.out HGQ.out hv)
  rw [hM] at HK1
  simp only [optI, eS] at HK1
  have hbl := mkS_lt HG.out (show (mkS G B n 0 6).1 = some b by rw [hM])
  have HM := hid (fun w' (hx : Box g w' n1) (hv : VI G p q cap m w' F B1) => makeAt_any (w := w') n1 b x hbl.1 (fun e => absurd e hbl.2) (by omega) hx HGP.out HGQ.out hv)
  obtain ⟨r, hr⟩ : ∃ r, r = mkS G B1 n1 b x := ⟨_, rfl⟩
  rw [← hr] at HM ⊢
  clear h h6 h70 h0 hX hgp hgq hml hgl hr hx hA hM hbl
  obtain ⟨k, l, z, a0, b0, c0, d0, e0, f0, s0, t0⟩ := n
  simp only [Ino.v, Int.natCast_zero] at *
  obtain ⟨c0', c1', c2', c3', c4', c5', c6', c7', c8', c9', c10'⟩ := HX.out.cells
  go_enter Tryz.func124, Tryz.ntmps124
  go_wp2_with (first
    | (go_at_call 133; refine HK.out.mono ?_; rintro e w1 ⟨rfl, hb1⟩; have HB1 := hid hb1; clear hb1)
    | (go_at_call 154; refine (HWy.out _).mono ?_; rintro e w2 ⟨rfl, hb2⟩; have HB2 := hid (HB1.out.next hb2); clear hb2)
    | (go_at_call 155; fail))
  obtain ⟨w3, hw3⟩ : ∃ w3, w3 = w2.alloc (.cells #[.int .i64 6, .int .i64 (x : Int), .int .i64 0, .int .i64 2] 207) := ⟨_, rfl⟩
  have HRP : Hid (RP G p q cap m g F B w ⟨k, l, z, a0, b0, c0, d0, e0, f0, s0, t0⟩ w2.heap.size 6 (x : Int) 0 2 w3) := by
    have hs := HB2.out.size
    have hl := HLT.out
    rw [hw3]
    exact ⟨(HV.out.below HB2.out).below (below_alloc _ _), (HX.out.below HB2.out).below (below_alloc _ _), box_at _ _, by omega, by omega, Only.of_below (HB2.out.next (below_alloc _ _))⟩
  rw [← hw3]
  clear hw3 c0' c1' c2' c3' c4' c5' c6' c7' c8' c9' c10'
  refine (naming2 _ HRP.out.y).mono ?_
  rintro e w4 ⟨rfl, hd4⟩
  have HR := hid (HRP.out.drew hd4)
  clear hd4 HRP HV HX HB1 HB2 HK HWy HLT
  obtain ⟨Y, hY⟩ : ∃ Y, Y = w2.heap.size := ⟨_, rfl⟩
  rw [← hY] at HR ⊢
  clear hY
  go_wp2
  refine wp_loop_rounds 2 ?_
  rw [rounds_succ]
  obtain ⟨y0, y1, y2, y3⟩ := HR.out.y.cells
  go_wp2_with (go_at_call 156; fail)
  obtain ⟨wa1, hw5⟩ : ∃ w5, w5 = w4.alloc (.cells #[.int .i64 0, .int .i64 6] 211) := ⟨_, rfl⟩
  have HRA1 : Hid (RP G p q cap m g F B w ⟨k, l, z, a0, b0, c0, d0, e0, f0, s0, t0⟩ Y 6 (x : Int) 0 2 wa1) := by rw [hw5]; exact HR.out.below (below_alloc _ _)
  have HSA1 : Hid (Spt w4.heap.size wa1 0 6) := by rw [hw5]; exact box_at _ _
  rw [← hw5]
  clear hw5 y0 y1 y2 y3
  have hc5 : ∀ w', Box g w' ⟨k, l, z, a0, b0, c0, d0, e0, f0, s0, t0⟩ → Spt w4.heap.size w' 0 6 → (w'.cell? ⟨g, 0, none⟩ = some (.int .i64 k) ∧ w'.cell? ⟨g, 1, none⟩ = some (.int .i64 l) ∧ w'.cell? ⟨g, 2, none⟩ = some (.int .i64 z) ∧ w'.cell? ⟨g, 3, none⟩ = some (.int .i64 a0) ∧ w'.cell? ⟨g, 4, none⟩ = some (.int .i64 b0) ∧ w'.cell? ⟨g, 5, none⟩ = some (.int .i64 c0) ∧ w'.cell? ⟨g, 6, none⟩ = some (.int .i64 d0) ∧ w'.cell? ⟨g, 7, none⟩ = some (.int .i64 e0) ∧ w'.cell? ⟨g, 8, none⟩ = some (.int .i64 f0) ∧ w'.cell? ⟨g, 9, none⟩ = some (.int .i64 s0) ∧ w'.cell? ⟨g, 10, none⟩ = some (.int .i64 t0) ∧ w'.cell? ⟨w4.heap.size, 0, none⟩ = some (.int .i64 0) ∧ w'.cell? ⟨w4.heap.size, 1, none⟩ = some (.int .i64 6)) := fun w' hb hs => by
    obtain ⟨x0, x1, x2, x3, x4, x5, x6, x7, x8, x9, x10⟩ := hb.cells
    obtain ⟨z0, z1⟩ := hs.cells
    exact ⟨x0, x1, x2, x3, x4, x5, x6, x7, x8, x9, x10, z0, z1⟩
  have HC5 := hid hc5
  replace hc5 := hc5 _ HRA1.out.x HSA1.out
  go_region_held3 (fun w' => w'.cell? ⟨g, 0, none⟩ = some (.int .i64 k) ∧ w'.cell? ⟨g, 1, none⟩ = some (.int .i64 l) ∧ w'.cell? ⟨g, 2, none⟩ = some (.int .i64 z) ∧ w'.cell? ⟨g, 3, none⟩ = some (.int .i64 a0) ∧ w'.cell? ⟨g, 4, none⟩ = some (.int .i64 b0) ∧ w'.cell? ⟨g, 5, none⟩ = some (.int .i64 c0) ∧ w'.cell? ⟨g, 6, none⟩ = some (.int .i64 d0) ∧ w'.cell? ⟨g, 7, none⟩ = some (.int .i64 e0) ∧ w'.cell? ⟨g, 8, none⟩ = some (.int .i64 f0) ∧ w'.cell? ⟨g, 9, none⟩ = some (.int .i64 s0) ∧ w'.cell? ⟨g, 10, none⟩ = some (.int .i64 t0) ∧ w'.cell? ⟨w4.heap.size, 0, none⟩ = some (.int .i64 0) ∧ w'.cell? ⟨w4.heap.size, 1, none⟩ = some (.int .i64 6)) (first | exact hc5 | exact hc6 | go_keep) (first
    | (go_at_call 156; refine (HN1.out _ (by exact HRA1.out.v.below ⟨rfl, rfl, rfl, Nat.le_refl _, fun _ _ => rfl⟩)).mono ?_; rintro e wb1 ⟨rfl, hb6⟩
       have HB6 : Hid (Below wa1.heap.size wa1 wb1) := hid ⟨hb6.os, hb6.tape, hb6.output, hb6.size, hb6.block⟩
       have HRB1 := hid (HRA1.out.below HB6.out)
       have hc6 := HC5.out _ HRB1.out.x (HSA1.out.below HB6.out)
       clear hb6 HB6))
  obtain ⟨x0, x1, x2, x3, x4, x5, x6, x7, x8, x9, x10, z0, z1⟩ := hc6
  clear x0 x1 x2 x3 x4 x5 x6 x7 x8 x9 x10 hc5 HC5 HN1
  go_wp2_with (first
    | (go_at_call 157; refine (HK1.out _ (by exact HRB1.out.x.below ⟨rfl, rfl, rfl, Nat.le_refl _, fun _ _ => rfl⟩) (by exact HRB1.out.v.below ⟨rfl, rfl, rfl, Nat.le_refl _, fun _ _ => rfl⟩)).mono ?_; rintro e wc1 ⟨rfl, hv7, hx7, ho7⟩
       have HRC1 := hid (HRB1.out.step hv7 hx7 ⟨ho7.os, ho7.tape, ho7.output, ho7.size, ho7.block⟩)
       clear hv7 hx7 ho7 z0 z1))
  rw [rounds_succ]
  go_wp2_with (first
    | (go_at_call 158; refine (last2 _ HRC1.out.y).mono ?_; rintro e w9 ⟨rfl, hd9⟩
       have HRL := hid (HRC1.out.drew hd9)
       clear hd9)
    | (go_at_call 157; refine (HM.out _ HRL.out.x HRL.out.v).mono ?_; rintro e w10 ⟨rfl, hv10, hx10, ho10⟩
       have HZ := hid (HRL.out.step hv10 hx10 ho10)
       clear hv10 hx10 ho10))
  go_ret2
  exact ⟨rfl, HZ.out.v, HZ.out.x, HZ.out.o⟩
end Go.Proofs.YtokjlgebkihimaaGreat
namespace Go.Proofs.YtokjlgebkihimaaGreat
open Go.RowKit Go.Maps

set_option maxRecDepth 100000 in
set_option maxHeartbeats 4000000 in
theorem reach2_hit_hit {G : Geo} {p q cap m g : Nat} {w : World} {F B : List ByteArray} (n : Ino) (i : Nat) (hi : i < 4166) (h70 : ¬ i < 70) (A : Nat) (hA : nm G B n 0 7 = A) (hA0 : A ≠ 0) (C : Nat) (hC : nm G B n A ((i - 70) / 64) = C) (hC0 : C ≠ 0) (h0 : blk G B n i = 0) (hX : Box g w n) (hgp : g ≠ p) (hgq : g ≠ q) (h : VI G p q cap m w F B) : Calls Tryz.prog 124 #[.pointer (some ⟨p, 0, none⟩), .pointer (some ⟨g, 0, none⟩), .int .i64 (i : Int)] w fun e w' => e = .returned (.tuple #[.int .i64 (optI (mkS G B n C ((i - 70) % 64)).1), .int .i64 (eS (mkS G B n C ((i - 70) % 64)).1)]) ∧ VI G p q cap m w' F (mkS G B n C ((i - 70) % 64)).2.1 ∧ Box g w' (mkS G B n C ((i - 70) % 64)).2.2 ∧ Only [g, m] w w' := by
  have HV := hid h
  have HG := hid h.ok
  have HX := hid hX
  have HGP := hid hgp
  have HGQ := hid hgq
  have HGM := hid (h.gm hX)
  have hml := h.ml
  have hgl := lt_of_block hX
  have HLT : Hid (g < w.heap.size ∧ m < w.heap.size) := hid ⟨hgl, hml⟩
  have HK := hid (blockOf_any n i (by omega) h)
  rw [h0] at HK
  have HWy := hid (wayTo_any i (by omega))
  unfold wayV at HWy
  rw [if_neg (by omega), if_neg h70] at HWy
  have HN1 := hid (fun w' (hv : VI G p q cap m w' F B) => named_nm (w := w') n 0 7 (by have := HG.out.c4; have := HG.out.sum; omega) (fun _ => by omega) hv)
  rw [hA] at HN1
  obtain ⟨x, hx⟩ : ∃ x : Nat, x = (i - 70) / 64 := ⟨_, rfl⟩
  obtain ⟨y, hy⟩ : ∃ y : Nat, y = (i - 70) % 64 := ⟨_, rfl⟩
  rw [show ((i : Int) - 70) / 64 = (x : Int) by omega, show ((i : Int) - 70) % 64 = (y : Int) by omega] at HWy
  rw [← hx] at hC
  rw [← hy]
  have hAl : A < G.n ∧ A ≠ 0 := ⟨hA ▸ nm_lt HG.out _ _ _ _, hA0⟩
  have hA1 : ¬ ((A : Int) = 0) := by omega
  have HN2 := hid (fun w' (hv : VI G p q cap m w' F B) => named_nm (w := w') n A x hAl.1 (fun e => absurd e hAl.2) hv)
  rw [hC] at HN2
  have hCl : C < G.n ∧ C ≠ 0 := ⟨hC ▸ nm_lt HG.out _ _ _ _, hC0⟩
  have hC1 : ¬ ((C : Int) = 0) := by omega
  have HM := hid (fun w' (hx' : Box g w' n) (hv : VI G p q cap m w' F B) => makeAt_any (w := w') n C y hCl.1 (fun e => absurd e hCl.2) (by omega) hx' HGP.out HGQ.out hv)
  obtain ⟨r, hr⟩ : ∃ r, r = mkS G B n C y := ⟨_, rfl⟩
  rw [← hr] at HM ⊢
  clear h h70 h0 hX hgp hgq hml hgl hx hy hi hr hCl hC hAl hC0 hA hA0
  obtain ⟨k, l, z, a0, b0, c0, d0, e0, f0, s0, t0⟩ := n
  simp only [Ino.v, Int.natCast_zero] at *
  obtain ⟨c0', c1', c2', c3', c4', c5', c6', c7', c8', c9', c10'⟩ := HX.out.cells
  go_enter Tryz.func124, Tryz.ntmps124
  go_wp2_with (first
    | (go_at_call 133; refine HK.out.mono ?_; rintro e w1 ⟨rfl, hb1⟩; have HB1 := hid hb1; clear hb1)
    | (go_at_call 154; refine (HWy.out _).mono ?_; rintro e w2 ⟨rfl, hb2⟩; have HB2 := hid (HB1.out.next hb2); clear hb2)
    | (go_at_call 155; fail))
  obtain ⟨w3, hw3⟩ : ∃ w3, w3 = w2.alloc (.cells #[.int .i64 7, .int .i64 (x : Int), .int .i64 (y : Int), .int .i64 3] 207) := ⟨_, rfl⟩
  have HRP : Hid (RP G p q cap m g F B w ⟨k, l, z, a0, b0, c0, d0, e0, f0, s0, t0⟩ w2.heap.size 7 (x : Int) (y : Int) 3 w3) := by
    have hs := HB2.out.size
    have hl := HLT.out
    rw [hw3]
    exact ⟨(HV.out.below HB2.out).below (below_alloc _ _), (HX.out.below HB2.out).below (below_alloc _ _), box_at _ _, by omega, by omega, Only.of_below (HB2.out.next (below_alloc _ _))⟩
  rw [← hw3]
  clear hw3 c0' c1' c2' c3' c4' c5' c6' c7' c8' c9' c10'
  refine (naming3 _ HRP.out.y).mono ?_
  rintro e w4 ⟨rfl, hd4⟩
  have HR := hid (HRP.out.drew hd4)
  clear hd4 HRP HV HX HB1 HB2 HK HWy HLT
  obtain ⟨Y, hY⟩ : ∃ Y, Y = w2.heap.size := ⟨_, rfl⟩
  rw [← hY] at HR ⊢
  clear hY
  go_wp2
  refine wp_loop_rounds 3 ?_
  rw [rounds_succ]
  obtain ⟨y0, y1, y2, y3⟩ := HR.out.y.cells
  go_wp2_with (go_at_call 156; fail)
  obtain ⟨wa1, hw5⟩ : ∃ w5, w5 = w4.alloc (.cells #[.int .i64 0, .int .i64 7] 211) := ⟨_, rfl⟩
  have HRA1 : Hid (RP G p q cap m g F B w ⟨k, l, z, a0, b0, c0, d0, e0, f0, s0, t0⟩ Y 7 (x : Int) (y : Int) 3 wa1) := by rw [hw5]; exact HR.out.below (below_alloc _ _)
  have HSA1 : Hid (Spt w4.heap.size wa1 0 7) := by rw [hw5]; exact box_at _ _
  rw [← hw5]
  clear hw5 y0 y1 y2 y3
  have hc5 : ∀ w', Box g w' ⟨k, l, z, a0, b0, c0, d0, e0, f0, s0, t0⟩ → Spt w4.heap.size w' 0 7 → (w'.cell? ⟨g, 0, none⟩ = some (.int .i64 k) ∧ w'.cell? ⟨g, 1, none⟩ = some (.int .i64 l) ∧ w'.cell? ⟨g, 2, none⟩ = some (.int .i64 z) ∧ w'.cell? ⟨g, 3, none⟩ = some (.int .i64 a0) ∧ w'.cell? ⟨g, 4, none⟩ = some (.int .i64 b0) ∧ w'.cell? ⟨g, 5, none⟩ = some (.int .i64 c0) ∧ w'.cell? ⟨g, 6, none⟩ = some (.int .i64 d0) ∧ w'.cell? ⟨g, 7, none⟩ = some (.int .i64 e0) ∧ w'.cell? ⟨g, 8, none⟩ = some (.int .i64 f0) ∧ w'.cell? ⟨g, 9, none⟩ = some (.int .i64 s0) ∧ w'.cell? ⟨g, 10, none⟩ = some (.int .i64 t0) ∧ w'.cell? ⟨w4.heap.size, 0, none⟩ = some (.int .i64 0) ∧ w'.cell? ⟨w4.heap.size, 1, none⟩ = some (.int .i64 7)) := fun w' hb hs => by
    obtain ⟨x0, x1, x2, x3, x4, x5, x6, x7, x8, x9, x10⟩ := hb.cells
    obtain ⟨z0, z1⟩ := hs.cells
    exact ⟨x0, x1, x2, x3, x4, x5, x6, x7, x8, x9, x10, z0, z1⟩
  have HC5 := hid hc5
  replace hc5 := hc5 _ HRA1.out.x HSA1.out
  go_region_held3 (fun w' => w'.cell? ⟨g, 0, none⟩ = some (.int .i64 k) ∧ w'.cell? ⟨g, 1, none⟩ = some (.int .i64 l) ∧ w'.cell? ⟨g, 2, none⟩ = some (.int .i64 z) ∧ w'.cell? ⟨g, 3, none⟩ = some (.int .i64 a0) ∧ w'.cell? ⟨g, 4, none⟩ = some (.int .i64 b0) ∧ w'.cell? ⟨g, 5, none⟩ = some (.int .i64 c0) ∧ w'.cell? ⟨g, 6, none⟩ = some (.int .i64 d0) ∧ w'.cell? ⟨g, 7, none⟩ = some (.int .i64 e0) ∧ w'.cell? ⟨g, 8, none⟩ = some (.int .i64 f0) ∧ w'.cell? ⟨g, 9, none⟩ = some (.int .i64 s0) ∧ w'.cell? ⟨g, 10, none⟩ = some (.int .i64 t0) ∧ w'.cell? ⟨w4.heap.size, 0, none⟩ = some (.int .i64 0) ∧ w'.cell? ⟨w4.heap.size, 1, none⟩ = some (.int .i64 7)) (first | exact hc5 | exact hc6 | go_keep) (first
    | (go_at_call 156; refine (HN1.out _ (by exact HRA1.out.v.below ⟨rfl, rfl, rfl, Nat.le_refl _, fun _ _ => rfl⟩)).mono ?_; rintro e wb1 ⟨rfl, hb6⟩
       have HB6 : Hid (Below wa1.heap.size wa1 wb1) := hid ⟨hb6.os, hb6.tape, hb6.output, hb6.size, hb6.block⟩
       have HRB1 := hid (HRA1.out.below HB6.out)
       have hc6 := HC5.out _ HRB1.out.x (HSA1.out.below HB6.out)
       clear hb6 HB6))
  obtain ⟨x0, x1, x2, x3, x4, x5, x6, x7, x8, x9, x10, z0, z1⟩ := hc6
  clear x0 x1 x2 x3 x4 x5 x6 x7 x8 x9 x10 hc5 HC5 HN1
  clear z0 z1
  go_wp2
  have HRC1 := hid (HRB1.out.below (w' := wb1.drewN 0) ⟨rfl, rfl, rfl, Nat.le_refl _, fun _ _ => rfl⟩)
  rw [rounds_succ]
  obtain ⟨y0, y1, y2, y3⟩ := HRB1.out.y.cells
  go_wp2_with (go_at_call 156; fail)
  obtain ⟨wa2, hw5⟩ : ∃ w5, w5 = wb1.alloc (.cells #[.int .i64 (A : Int), .int .i64 (x : Int)] 211) := ⟨_, rfl⟩
  have HRA2 : Hid (RP G p q cap m g F B w ⟨k, l, z, a0, b0, c0, d0, e0, f0, s0, t0⟩ Y 7 (x : Int) (y : Int) 3 wa2) := by rw [hw5]; exact HRB1.out.below (below_alloc _ _)
  have HSA2 : Hid (Spt wb1.heap.size wa2 (A : Int) (x : Int)) := by rw [hw5]; exact box_at _ _
  rw [← hw5]
  clear hw5 y0 y1 y2 y3
  have hc5 : ∀ w', Box g w' ⟨k, l, z, a0, b0, c0, d0, e0, f0, s0, t0⟩ → Spt wb1.heap.size w' (A : Int) (x : Int) → (w'.cell? ⟨g, 0, none⟩ = some (.int .i64 k) ∧ w'.cell? ⟨g, 1, none⟩ = some (.int .i64 l) ∧ w'.cell? ⟨g, 2, none⟩ = some (.int .i64 z) ∧ w'.cell? ⟨g, 3, none⟩ = some (.int .i64 a0) ∧ w'.cell? ⟨g, 4, none⟩ = some (.int .i64 b0) ∧ w'.cell? ⟨g, 5, none⟩ = some (.int .i64 c0) ∧ w'.cell? ⟨g, 6, none⟩ = some (.int .i64 d0) ∧ w'.cell? ⟨g, 7, none⟩ = some (.int .i64 e0) ∧ w'.cell? ⟨g, 8, none⟩ = some (.int .i64 f0) ∧ w'.cell? ⟨g, 9, none⟩ = some (.int .i64 s0) ∧ w'.cell? ⟨g, 10, none⟩ = some (.int .i64 t0) ∧ w'.cell? ⟨wb1.heap.size, 0, none⟩ = some (.int .i64 (A : Int)) ∧ w'.cell? ⟨wb1.heap.size, 1, none⟩ = some (.int .i64 (x : Int))) := fun w' hb hs => by
    obtain ⟨x0, x1, x2, x3, x4, x5, x6, x7, x8, x9, x10⟩ := hb.cells
    obtain ⟨z0, z1⟩ := hs.cells
    exact ⟨x0, x1, x2, x3, x4, x5, x6, x7, x8, x9, x10, z0, z1⟩
  have HC5 := hid hc5
  replace hc5 := hc5 _ HRA2.out.x HSA2.out
  go_region_held3 (fun w' => w'.cell? ⟨g, 0, none⟩ = some (.int .i64 k) ∧ w'.cell? ⟨g, 1, none⟩ = some (.int .i64 l) ∧ w'.cell? ⟨g, 2, none⟩ = some (.int .i64 z) ∧ w'.cell? ⟨g, 3, none⟩ = some (.int .i64 a0) ∧ w'.cell? ⟨g, 4, none⟩ = some (.int .i64 b0) ∧ w'.cell? ⟨g, 5, none⟩ = some (.int .i64 c0) ∧ w'.cell? ⟨g, 6, none⟩ = some (.int .i64 d0) ∧ w'.cell? ⟨g, 7, none⟩ = some (.int .i64 e0) ∧ w'.cell? ⟨g, 8, none⟩ = some (.int .i64 f0) ∧ w'.cell? ⟨g, 9, none⟩ = some (.int .i64 s0) ∧ w'.cell? ⟨g, 10, none⟩ = some (.int .i64 t0) ∧ w'.cell? ⟨wb1.heap.size, 0, none⟩ = some (.int .i64 (A : Int)) ∧ w'.cell? ⟨wb1.heap.size, 1, none⟩ = some (.int .i64 (x : Int))) (first | exact hc5 | exact hc6 | go_keep) (first
    | (go_at_call 156; refine (HN2.out _ (by exact HRA2.out.v.below ⟨rfl, rfl, rfl, Nat.le_refl _, fun _ _ => rfl⟩)).mono ?_; rintro e wb2 ⟨rfl, hb6⟩
       have HB6 : Hid (Below wa2.heap.size wa2 wb2) := hid ⟨hb6.os, hb6.tape, hb6.output, hb6.size, hb6.block⟩
       have HRB2 := hid (HRA2.out.below HB6.out)
       have hc6 := HC5.out _ HRB2.out.x (HSA2.out.below HB6.out)
       clear hb6 HB6))
  obtain ⟨x0, x1, x2, x3, x4, x5, x6, x7, x8, x9, x10, z0, z1⟩ := hc6
  clear x0 x1 x2 x3 x4 x5 x6 x7 x8 x9 x10 hc5 HC5 HN2
  clear z0 z1
  go_wp2
  have HRC2 := hid (HRB2.out.below (w' := wb2.drewN 0) ⟨rfl, rfl, rfl, Nat.le_refl _, fun _ _ => rfl⟩)
  rw [rounds_succ]
  go_wp2_with (first
    | (go_at_call 158; refine (last3 _ HRB2.out.y).mono ?_; rintro e w9 ⟨rfl, hd9⟩
       have HRL := hid (HRB2.out.drew hd9)
       clear hd9)
    | (go_at_call 157; refine (HM.out _ HRL.out.x HRL.out.v).mono ?_; rintro e w10 ⟨rfl, hv10, hx10, ho10⟩
       have HZ := hid (HRL.out.step hv10 hx10 ho10)
       clear hv10 hx10 ho10))
  go_ret2
  exact ⟨rfl, HZ.out.v, HZ.out.x, HZ.out.o⟩
set_option maxRecDepth 100000 in
set_option maxHeartbeats 4000000 in
theorem reach2_hit_none {G : Geo} {p q cap m g : Nat} {w : World} {F B : List ByteArray} (n : Ino) (i : Nat) (hi : i < 4166) (h70 : ¬ i < 70) (A : Nat) (hA : nm G B n 0 7 = A) (hA0 : A ≠ 0) (hC : nm G B n A ((i - 70) / 64) = 0) (B2 : List ByteArray) (n2 : Ino) (hM2 : mkS G B n A ((i - 70) / 64) = (none, B2, n2)) (h0 : blk G B n i = 0) (hX : Box g w n) (hgp : g ≠ p) (hgq : g ≠ q) (h : VI G p q cap m w F B) : Calls Tryz.prog 124 #[.pointer (some ⟨p, 0, none⟩), .pointer (some ⟨g, 0, none⟩), .int .i64 (i : Int)] w fun e w' => e = .returned (.tuple #[.int .i64 0, .int .i64 306]) ∧ VI G p q cap m w' F B2 ∧ Box g w' n2 ∧ Only [g, m] w w' := by
  have HV := hid h
  have HG := hid h.ok
  have HX := hid hX
  have HGP := hid hgp
  have HGQ := hid hgq
  have HGM := hid (h.gm hX)
  have hml := h.ml
  have hgl := lt_of_block hX
  have HLT : Hid (g < w.heap.size ∧ m < w.heap.size) := hid ⟨hgl, hml⟩
  have HK := hid (blockOf_any n i (by omega) h)
  rw [h0] at HK
  have HWy := hid (wayTo_any i (by omega))
  unfold wayV at HWy
  rw [if_neg (by omega), if_neg h70] at HWy
  have HN1 := hid (fun w' (hv : VI G p q cap m w' F B) => named_nm (w := w') n 0 7 (by have := HG.out.c4; have := HG.out.sum; omega) (fun _ => by omega) hv)
  rw [hA] at HN1
  obtain ⟨x, hx⟩ : ∃ x : Nat, x = (i - 70) / 64 := ⟨_, rfl⟩
  obtain ⟨y, hy⟩ : ∃ y : Nat, y = (i - 70) % 64 := ⟨_, rfl⟩
  rw [show ((i : Int) - 70) / 64 = (x : Int) by omega, show ((i : Int) - 70) % 64 = (y : Int) by omega] at HWy
  rw [← hx] at hC hM2
  have hAl : A < G.n ∧ A ≠ 0 := ⟨hA ▸ nm_lt HG.out _ _ _ _, hA0⟩
  have hA1 : ¬ ((A : Int) = 0) := by omega
  have HN2 := hid (fun w' (hv : VI G p q cap m w' F B) => named_nm (w := w') n A x hAl.1 (fun e => absurd e hAl.2) hv)
  rw [hC] at HN2
  have HK2 := hid (fun w' (hx' : Box g w' n) (hv : VI G p q cap m w' F B) => makeAt_any (w := w') n A x hAl.1 (fun e => absurd e hAl.2) (by omega) hx' HGP.out HGQ.out hv)
  rw [hM2] at HK2
  simp only [optI, eS] at HK2
  clear h h70 h0 hX hgp hgq hml hgl hx hy hi hC hAl hM2 hA hA0
  obtain ⟨k, l, z, a0, b0, c0, d0, e0, f0, s0, t0⟩ := n
  simp only [Ino.v, Int.natCast_zero] at *
  obtain ⟨c0', c1', c2', c3', c4', c5', c6', c7', c8', c9', c10'⟩ := HX.out.cells
  go_enter Tryz.func124, Tryz.ntmps124
  go_wp2_with (first
    | (go_at_call 133; refine HK.out.mono ?_; rintro e w1 ⟨rfl, hb1⟩; have HB1 := hid hb1; clear hb1)
    | (go_at_call 154; refine (HWy.out _).mono ?_; rintro e w2 ⟨rfl, hb2⟩; have HB2 := hid (HB1.out.next hb2); clear hb2)
    | (go_at_call 155; fail))
  obtain ⟨w3, hw3⟩ : ∃ w3, w3 = w2.alloc (.cells #[.int .i64 7, .int .i64 (x : Int), .int .i64 (y : Int), .int .i64 3] 207) := ⟨_, rfl⟩
  have HRP : Hid (RP G p q cap m g F B w ⟨k, l, z, a0, b0, c0, d0, e0, f0, s0, t0⟩ w2.heap.size 7 (x : Int) (y : Int) 3 w3) := by
    have hs := HB2.out.size
    have hl := HLT.out
    rw [hw3]
    exact ⟨(HV.out.below HB2.out).below (below_alloc _ _), (HX.out.below HB2.out).below (below_alloc _ _), box_at _ _, by omega, by omega, Only.of_below (HB2.out.next (below_alloc _ _))⟩
  rw [← hw3]
  clear hw3 c0' c1' c2' c3' c4' c5' c6' c7' c8' c9' c10'
  refine (naming3 _ HRP.out.y).mono ?_
  rintro e w4 ⟨rfl, hd4⟩
  have HR := hid (HRP.out.drew hd4)
  clear hd4 HRP HV HX HB1 HB2 HK HWy HLT
  obtain ⟨Y, hY⟩ : ∃ Y, Y = w2.heap.size := ⟨_, rfl⟩
  rw [← hY] at HR ⊢
  clear hY
  go_wp2
  refine wp_loop_rounds 3 ?_
  rw [rounds_succ]
  obtain ⟨y0, y1, y2, y3⟩ := HR.out.y.cells
  go_wp2_with (go_at_call 156; fail)
  obtain ⟨wa1, hw5⟩ : ∃ w5, w5 = w4.alloc (.cells #[.int .i64 0, .int .i64 7] 211) := ⟨_, rfl⟩
  have HRA1 : Hid (RP G p q cap m g F B w ⟨k, l, z, a0, b0, c0, d0, e0, f0, s0, t0⟩ Y 7 (x : Int) (y : Int) 3 wa1) := by rw [hw5]; exact HR.out.below (below_alloc _ _)
  have HSA1 : Hid (Spt w4.heap.size wa1 0 7) := by rw [hw5]; exact box_at _ _
  rw [← hw5]
  clear hw5 y0 y1 y2 y3
  have hc5 : ∀ w', Box g w' ⟨k, l, z, a0, b0, c0, d0, e0, f0, s0, t0⟩ → Spt w4.heap.size w' 0 7 → (w'.cell? ⟨g, 0, none⟩ = some (.int .i64 k) ∧ w'.cell? ⟨g, 1, none⟩ = some (.int .i64 l) ∧ w'.cell? ⟨g, 2, none⟩ = some (.int .i64 z) ∧ w'.cell? ⟨g, 3, none⟩ = some (.int .i64 a0) ∧ w'.cell? ⟨g, 4, none⟩ = some (.int .i64 b0) ∧ w'.cell? ⟨g, 5, none⟩ = some (.int .i64 c0) ∧ w'.cell? ⟨g, 6, none⟩ = some (.int .i64 d0) ∧ w'.cell? ⟨g, 7, none⟩ = some (.int .i64 e0) ∧ w'.cell? ⟨g, 8, none⟩ = some (.int .i64 f0) ∧ w'.cell? ⟨g, 9, none⟩ = some (.int .i64 s0) ∧ w'.cell? ⟨g, 10, none⟩ = some (.int .i64 t0) ∧ w'.cell? ⟨w4.heap.size, 0, none⟩ = some (.int .i64 0) ∧ w'.cell? ⟨w4.heap.size, 1, none⟩ = some (.int .i64 7)) := fun w' hb hs => by
    obtain ⟨x0, x1, x2, x3, x4, x5, x6, x7, x8, x9, x10⟩ := hb.cells
    obtain ⟨z0, z1⟩ := hs.cells
    exact ⟨x0, x1, x2, x3, x4, x5, x6, x7, x8, x9, x10, z0, z1⟩
  have HC5 := hid hc5
  replace hc5 := hc5 _ HRA1.out.x HSA1.out
  go_region_held3 (fun w' => w'.cell? ⟨g, 0, none⟩ = some (.int .i64 k) ∧ w'.cell? ⟨g, 1, none⟩ = some (.int .i64 l) ∧ w'.cell? ⟨g, 2, none⟩ = some (.int .i64 z) ∧ w'.cell? ⟨g, 3, none⟩ = some (.int .i64 a0) ∧ w'.cell? ⟨g, 4, none⟩ = some (.int .i64 b0) ∧ w'.cell? ⟨g, 5, none⟩ = some (.int .i64 c0) ∧ w'.cell? ⟨g, 6, none⟩ = some (.int .i64 d0) ∧ w'.cell? ⟨g, 7, none⟩ = some (.int .i64 e0) ∧ w'.cell? ⟨g, 8, none⟩ = some (.int .i64 f0) ∧ w'.cell? ⟨g, 9, none⟩ = some (.int .i64 s0) ∧ w'.cell? ⟨g, 10, none⟩ = some (.int .i64 t0) ∧ w'.cell? ⟨w4.heap.size, 0, none⟩ = some (.int .i64 0) ∧ w'.cell? ⟨w4.heap.size, 1, none⟩ = some (.int .i64 7)) (first | exact hc5 | exact hc6 | go_keep) (first
    | (go_at_call 156; refine (HN1.out _ (by exact HRA1.out.v.below ⟨rfl, rfl, rfl, Nat.le_refl _, fun _ _ => rfl⟩)).mono ?_; rintro e wb1 ⟨rfl, hb6⟩
       have HB6 : Hid (Below wa1.heap.size wa1 wb1) := hid ⟨hb6.os, hb6.tape, hb6.output, hb6.size, hb6.block⟩
       have HRB1 := hid (HRA1.out.below HB6.out)
       have hc6 := HC5.out _ HRB1.out.x (HSA1.out.below HB6.out)
       clear hb6 HB6))
  obtain ⟨x0, x1, x2, x3, x4, x5, x6, x7, x8, x9, x10, z0, z1⟩ := hc6
  clear x0 x1 x2 x3 x4 x5 x6 x7 x8 x9 x10 hc5 HC5 HN1
  clear z0 z1
  go_wp2
  have HRC1 := hid (HRB1.out.below (w' := wb1.drewN 0) ⟨rfl, rfl, rfl, Nat.le_refl _, fun _ _ => rfl⟩)
  rw [rounds_succ]
  obtain ⟨y0, y1, y2, y3⟩ := HRB1.out.y.cells
  go_wp2_with (go_at_call 156; fail)
  obtain ⟨wa2, hw5⟩ : ∃ w5, w5 = wb1.alloc (.cells #[.int .i64 (A : Int), .int .i64 (x : Int)] 211) := ⟨_, rfl⟩
  have HRA2 : Hid (RP G p q cap m g F B w ⟨k, l, z, a0, b0, c0, d0, e0, f0, s0, t0⟩ Y 7 (x : Int) (y : Int) 3 wa2) := by rw [hw5]; exact HRB1.out.below (below_alloc _ _)
  have HSA2 : Hid (Spt wb1.heap.size wa2 (A : Int) (x : Int)) := by rw [hw5]; exact box_at _ _
  rw [← hw5]
  clear hw5 y0 y1 y2 y3
  have hc5 : ∀ w', Box g w' ⟨k, l, z, a0, b0, c0, d0, e0, f0, s0, t0⟩ → Spt wb1.heap.size w' (A : Int) (x : Int) → (w'.cell? ⟨g, 0, none⟩ = some (.int .i64 k) ∧ w'.cell? ⟨g, 1, none⟩ = some (.int .i64 l) ∧ w'.cell? ⟨g, 2, none⟩ = some (.int .i64 z) ∧ w'.cell? ⟨g, 3, none⟩ = some (.int .i64 a0) ∧ w'.cell? ⟨g, 4, none⟩ = some (.int .i64 b0) ∧ w'.cell? ⟨g, 5, none⟩ = some (.int .i64 c0) ∧ w'.cell? ⟨g, 6, none⟩ = some (.int .i64 d0) ∧ w'.cell? ⟨g, 7, none⟩ = some (.int .i64 e0) ∧ w'.cell? ⟨g, 8, none⟩ = some (.int .i64 f0) ∧ w'.cell? ⟨g, 9, none⟩ = some (.int .i64 s0) ∧ w'.cell? ⟨g, 10, none⟩ = some (.int .i64 t0) ∧ w'.cell? ⟨wb1.heap.size, 0, none⟩ = some (.int .i64 (A : Int)) ∧ w'.cell? ⟨wb1.heap.size, 1, none⟩ = some (.int .i64 (x : Int))) := fun w' hb hs => by
    obtain ⟨x0, x1, x2, x3, x4, x5, x6, x7, x8, x9, x10⟩ := hb.cells
    obtain ⟨z0, z1⟩ := hs.cells
    exact ⟨x0, x1, x2, x3, x4, x5, x6, x7, x8, x9, x10, z0, z1⟩
  have HC5 := hid hc5
  replace hc5 := hc5 _ HRA2.out.x HSA2.out
  go_region_held3 (fun w' => w'.cell? ⟨g, 0, none⟩ = some (.int .i64 k) ∧ w'.cell? ⟨g, 1, none⟩ = some (.int .i64 l) ∧ w'.cell? ⟨g, 2, none⟩ = some (.int .i64 z) ∧ w'.cell? ⟨g, 3, none⟩ = some (.int .i64 a0) ∧ w'.cell? ⟨g, 4, none⟩ = some (.int .i64 b0) ∧ w'.cell? ⟨g, 5, none⟩ = some (.int .i64 c0) ∧ w'.cell? ⟨g, 6, none⟩ = some (.int .i64 d0) ∧ w'.cell? ⟨g, 7, none⟩ = some (.int .i64 e0) ∧ w'.cell? ⟨g, 8, none⟩ = some (.int .i64 f0) ∧ w'.cell? ⟨g, 9, none⟩ = some (.int .i64 s0) ∧ w'.cell? ⟨g, 10, none⟩ = some (.int .i64 t0) ∧ w'.cell? ⟨wb1.heap.size, 0, none⟩ = some (.int .i64 (A : Int)) ∧ w'.cell? ⟨wb1.heap.size, 1, none⟩ = some (.int .i64 (x : Int))) (first | exact hc5 | exact hc6 | go_keep) (first
    | (go_at_call 156; refine (HN2.out _ (by exact HRA2.out.v.below ⟨rfl, rfl, rfl, Nat.le_refl _, fun _ _ => rfl⟩)).mono ?_; rintro e wb2 ⟨rfl, hb6⟩
       have HB6 : Hid (Below wa2.heap.size wa2 wb2) := hid ⟨hb6.os, hb6.tape, hb6.output, hb6.size, hb6.block⟩
       have HRB2 := hid (HRA2.out.below HB6.out)
       have hc6 := HC5.out _ HRB2.out.x (HSA2.out.below HB6.out)
       clear hb6 HB6))
  obtain ⟨x0, x1, x2, x3, x4, x5, x6, x7, x8, x9, x10, z0, z1⟩ := hc6
  clear x0 x1 x2 x3 x4 x5 x6 x7 x8 x9 x10 hc5 HC5 HN2
  go_wp2_with (first
    | (go_at_call 157; refine (HK2.out _ (by exact HRB2.out.x.below ⟨rfl, rfl, rfl, Nat.le_refl _, fun _ _ => rfl⟩) (by exact HRB2.out.v.below ⟨rfl, rfl, rfl, Nat.le_refl _, fun _ _ => rfl⟩)).mono ?_; rintro e wc2 ⟨rfl, hv7, hx7, ho7⟩
       have HRC2 := hid (HRB2.out.step hv7 hx7 ⟨ho7.os, ho7.tape, ho7.output, ho7.size, ho7.block⟩)
       clear hv7 hx7 ho7 z0 z1))
  go_ret2
  exact ⟨rfl, HRC2.out.v, HRC2.out.x, HRC2.out.o⟩
set_option maxRecDepth 100000 in
set_option maxHeartbeats 4000000 in
theorem reach2_hit_made {G : Geo} {p q cap m g : Nat} {w : World} {F B : List ByteArray} (n : Ino) (i : Nat) (hi : i < 4166) (h70 : ¬ i < 70) (A : Nat) (hA : nm G B n 0 7 = A) (hA0 : A ≠ 0) (hC : nm G B n A ((i - 70) / 64) = 0) (C : Nat) (B2 : List ByteArray) (n2 : Ino) (hM2 : mkS G B n A ((i - 70) / 64) = (some C, B2, n2)) (h0 : blk G B n i = 0) (hX : Box g w n) (hgp : g ≠ p) (hgq : g ≠ q) (h : VI G p q cap m w F B) : Calls Tryz.prog 124 #[.pointer (some ⟨p, 0, none⟩), .pointer (some ⟨g, 0, none⟩), .int .i64 (i : Int)] w fun e w' => e = .returned (.tuple #[.int .i64 (optI (mkS G B2 n2 C ((i - 70) % 64)).1), .int .i64 (eS (mkS G B2 n2 C ((i - 70) % 64)).1)]) ∧ VI G p q cap m w' F (mkS G B2 n2 C ((i - 70) % 64)).2.1 ∧ Box g w' (mkS G B2 n2 C ((i - 70) % 64)).2.2 ∧ Only [g, m] w w' := by
  have HV := hid h
  have HG := hid h.ok
  have HX := hid hX
  have HGP := hid hgp
  have HGQ := hid hgq
  have HGM := hid (h.gm hX)
  have hml := h.ml
  have hgl := lt_of_block hX
  have HLT : Hid (g < w.heap.size ∧ m < w.heap.size) := hid ⟨hgl, hml⟩
  have HK := hid (blockOf_any n i (by omega) h)
  rw [h0] at HK
  have HWy := hid (wayTo_any i (by omega))
  unfold wayV at HWy
  rw [if_neg (by omega), if_neg h70] at HWy
  have HN1 := hid (fun w' (hv : VI G p q cap m w' F B) => named_nm (w := w') n 0 7 (by have := HG.out.c4; have := HG.out.sum; omega) (fun _ => by omega) hv)
  rw [hA] at HN1
  obtain ⟨x, hx⟩ : ∃ x : Nat, x = (i - 70) / 64 := ⟨_, rfl⟩
  obtain ⟨y, hy⟩ : ∃ y : Nat, y = (i - 70) % 64 := ⟨_, rfl⟩
  rw [show ((i : Int) - 70) / 64 = (x : Int) by omega, show ((i : Int) - 70) % 64 = (y : Int) by omega] at HWy
  rw [← hx] at hC hM2
  rw [← hy]
  have hAl : A < G.n ∧ A ≠ 0 := ⟨hA ▸ nm_lt HG.out _ _ _ _, hA0⟩
  have hA1 : ¬ ((A : Int) = 0) := by omega
  have HN2 := hid (fun w' (hv : VI G p q cap m w' F B) => named_nm (w := w') n A x hAl.1 (fun e => absurd e hAl.2) hv)
  rw [hC] at HN2
  have HK2 := hid (fun w' (hx' : Box g w' n) (hv : VI G p q cap m w' F B) => makeAt_any (w := w') n A x hAl.1 (fun e => absurd e hAl.2) (by omega) hx' HGP.out HGQ.out hv)
  rw [hM2] at HK2
  simp only [optI, eS] at HK2
  have hCl := mkS_lt HG.out (show (mkS G B n A x).1 = some C by rw [hM2])
  have HM := hid (fun w' (hx' : Box g w' n2) (hv : VI G p q cap m w' F B2) => makeAt_any (w := w') n2 C y hCl.1 (fun e => absurd e hCl.2) (by omega) hx' HGP.out HGQ.out hv)
  obtain ⟨r, hr⟩ : ∃ r, r = mkS G B2 n2 C y := ⟨_, rfl⟩
  rw [← hr] at HM ⊢
  clear h h70 h0 hX hgp hgq hml hgl hx hy hi hr hCl hC hAl hM2 hA hA0
  obtain ⟨k, l, z, a0, b0, c0, d0, e0, f0, s0, t0⟩ := n
  simp only [Ino.v, Int.natCast_zero] at *
  obtain ⟨c0', c1', c2', c3', c4', c5', c6', c7', c8', c9', c10'⟩ := HX.out.cells
  go_enter Tryz.func124, Tryz.ntmps124
  go_wp2_with (first
    | (go_at_call 133; refine HK.out.mono ?_; rintro e w1 ⟨rfl, hb1⟩; have HB1 := hid hb1; clear hb1)
    | (go_at_call 154; refine (HWy.out _).mono ?_; rintro e w2 ⟨rfl, hb2⟩; have HB2 := hid (HB1.out.next hb2); clear hb2)
    | (go_at_call 155; fail))
  obtain ⟨w3, hw3⟩ : ∃ w3, w3 = w2.alloc (.cells #[.int .i64 7, .int .i64 (x : Int), .int .i64 (y : Int), .int .i64 3] 207) := ⟨_, rfl⟩
  have HRP : Hid (RP G p q cap m g F B w ⟨k, l, z, a0, b0, c0, d0, e0, f0, s0, t0⟩ w2.heap.size 7 (x : Int) (y : Int) 3 w3) := by
    have hs := HB2.out.size
    have hl := HLT.out
    rw [hw3]
    exact ⟨(HV.out.below HB2.out).below (below_alloc _ _), (HX.out.below HB2.out).below (below_alloc _ _), box_at _ _, by omega, by omega, Only.of_below (HB2.out.next (below_alloc _ _))⟩
  rw [← hw3]
  clear hw3 c0' c1' c2' c3' c4' c5' c6' c7' c8' c9' c10'
  refine (naming3 _ HRP.out.y).mono ?_
  rintro e w4 ⟨rfl, hd4⟩
  have HR := hid (HRP.out.drew hd4)
  clear hd4 HRP HV HX HB1 HB2 HK HWy HLT
  obtain ⟨Y, hY⟩ : ∃ Y, Y = w2.heap.size := ⟨_, rfl⟩
  rw [← hY] at HR ⊢
  clear hY
  go_wp2
  refine wp_loop_rounds 3 ?_
  rw [rounds_succ]
  obtain ⟨y0, y1, y2, y3⟩ := HR.out.y.cells
  go_wp2_with (go_at_call 156; fail)
  obtain ⟨wa1, hw5⟩ : ∃ w5, w5 = w4.alloc (.cells #[.int .i64 0, .int .i64 7] 211) := ⟨_, rfl⟩
  have HRA1 : Hid (RP G p q cap m g F B w ⟨k, l, z, a0, b0, c0, d0, e0, f0, s0, t0⟩ Y 7 (x : Int) (y : Int) 3 wa1) := by rw [hw5]; exact HR.out.below (below_alloc _ _)
  have HSA1 : Hid (Spt w4.heap.size wa1 0 7) := by rw [hw5]; exact box_at _ _
  rw [← hw5]
  clear hw5 y0 y1 y2 y3
  have hc5 : ∀ w', Box g w' ⟨k, l, z, a0, b0, c0, d0, e0, f0, s0, t0⟩ → Spt w4.heap.size w' 0 7 → (w'.cell? ⟨g, 0, none⟩ = some (.int .i64 k) ∧ w'.cell? ⟨g, 1, none⟩ = some (.int .i64 l) ∧ w'.cell? ⟨g, 2, none⟩ = some (.int .i64 z) ∧ w'.cell? ⟨g, 3, none⟩ = some (.int .i64 a0) ∧ w'.cell? ⟨g, 4, none⟩ = some (.int .i64 b0) ∧ w'.cell? ⟨g, 5, none⟩ = some (.int .i64 c0) ∧ w'.cell? ⟨g, 6, none⟩ = some (.int .i64 d0) ∧ w'.cell? ⟨g, 7, none⟩ = some (.int .i64 e0) ∧ w'.cell? ⟨g, 8, none⟩ = some (.int .i64 f0) ∧ w'.cell? ⟨g, 9, none⟩ = some (.int .i64 s0) ∧ w'.cell? ⟨g, 10, none⟩ = some (.int .i64 t0) ∧ w'.cell? ⟨w4.heap.size, 0, none⟩ = some (.int .i64 0) ∧ w'.cell? ⟨w4.heap.size, 1, none⟩ = some (.int .i64 7)) := fun w' hb hs => by
    obtain ⟨x0, x1, x2, x3, x4, x5, x6, x7, x8, x9, x10⟩ := hb.cells
    obtain ⟨z0, z1⟩ := hs.cells
    exact ⟨x0, x1, x2, x3, x4, x5, x6, x7, x8, x9, x10, z0, z1⟩
  have HC5 := hid hc5
  replace hc5 := hc5 _ HRA1.out.x HSA1.out
  go_region_held3 (fun w' => w'.cell? ⟨g, 0, none⟩ = some (.int .i64 k) ∧ w'.cell? ⟨g, 1, none⟩ = some (.int .i64 l) ∧ w'.cell? ⟨g, 2, none⟩ = some (.int .i64 z) ∧ w'.cell? ⟨g, 3, none⟩ = some (.int .i64 a0) ∧ w'.cell? ⟨g, 4, none⟩ = some (.int .i64 b0) ∧ w'.cell? ⟨g, 5, none⟩ = some (.int .i64 c0) ∧ w'.cell? ⟨g, 6, none⟩ = some (.int .i64 d0) ∧ w'.cell? ⟨g, 7, none⟩ = some (.int .i64 e0) ∧ w'.cell? ⟨g, 8, none⟩ = some (.int .i64 f0) ∧ w'.cell? ⟨g, 9, none⟩ = some (.int .i64 s0) ∧ w'.cell? ⟨g, 10, none⟩ = some (.int .i64 t0) ∧ w'.cell? ⟨w4.heap.size, 0, none⟩ = some (.int .i64 0) ∧ w'.cell? ⟨w4.heap.size, 1, none⟩ = some (.int .i64 7)) (first | exact hc5 | exact hc6 | go_keep) (first
    | (go_at_call 156; refine (HN1.out _ (by exact HRA1.out.v.below ⟨rfl, rfl, rfl, Nat.le_refl _, fun _ _ => rfl⟩)).mono ?_; rintro e wb1 ⟨rfl, hb6⟩
       have HB6 : Hid (Below wa1.heap.size wa1 wb1) := hid ⟨hb6.os, hb6.tape, hb6.output, hb6.size, hb6.block⟩
       have HRB1 := hid (HRA1.out.below HB6.out)
       have hc6 := HC5.out _ HRB1.out.x (HSA1.out.below HB6.out)
       clear hb6 HB6))
  obtain ⟨x0, x1, x2, x3, x4, x5, x6, x7, x8, x9, x10, z0, z1⟩ := hc6
  clear x0 x1 x2 x3 x4 x5 x6 x7 x8 x9 x10 hc5 HC5 HN1
  clear z0 z1
  go_wp2
  have HRC1 := hid (HRB1.out.below (w' := wb1.drewN 0) ⟨rfl, rfl, rfl, Nat.le_refl _, fun _ _ => rfl⟩)
  rw [rounds_succ]
  obtain ⟨y0, y1, y2, y3⟩ := HRB1.out.y.cells
  go_wp2_with (go_at_call 156; fail)
  obtain ⟨wa2, hw5⟩ : ∃ w5, w5 = wb1.alloc (.cells #[.int .i64 (A : Int), .int .i64 (x : Int)] 211) := ⟨_, rfl⟩
  have HRA2 : Hid (RP G p q cap m g F B w ⟨k, l, z, a0, b0, c0, d0, e0, f0, s0, t0⟩ Y 7 (x : Int) (y : Int) 3 wa2) := by rw [hw5]; exact HRB1.out.below (below_alloc _ _)
  have HSA2 : Hid (Spt wb1.heap.size wa2 (A : Int) (x : Int)) := by rw [hw5]; exact box_at _ _
  rw [← hw5]
  clear hw5 y0 y1 y2 y3
  have hc5 : ∀ w', Box g w' ⟨k, l, z, a0, b0, c0, d0, e0, f0, s0, t0⟩ → Spt wb1.heap.size w' (A : Int) (x : Int) → (w'.cell? ⟨g, 0, none⟩ = some (.int .i64 k) ∧ w'.cell? ⟨g, 1, none⟩ = some (.int .i64 l) ∧ w'.cell? ⟨g, 2, none⟩ = some (.int .i64 z) ∧ w'.cell? ⟨g, 3, none⟩ = some (.int .i64 a0) ∧ w'.cell? ⟨g, 4, none⟩ = some (.int .i64 b0) ∧ w'.cell? ⟨g, 5, none⟩ = some (.int .i64 c0) ∧ w'.cell? ⟨g, 6, none⟩ = some (.int .i64 d0) ∧ w'.cell? ⟨g, 7, none⟩ = some (.int .i64 e0) ∧ w'.cell? ⟨g, 8, none⟩ = some (.int .i64 f0) ∧ w'.cell? ⟨g, 9, none⟩ = some (.int .i64 s0) ∧ w'.cell? ⟨g, 10, none⟩ = some (.int .i64 t0) ∧ w'.cell? ⟨wb1.heap.size, 0, none⟩ = some (.int .i64 (A : Int)) ∧ w'.cell? ⟨wb1.heap.size, 1, none⟩ = some (.int .i64 (x : Int))) := fun w' hb hs => by
    obtain ⟨x0, x1, x2, x3, x4, x5, x6, x7, x8, x9, x10⟩ := hb.cells
    obtain ⟨z0, z1⟩ := hs.cells
    exact ⟨x0, x1, x2, x3, x4, x5, x6, x7, x8, x9, x10, z0, z1⟩
  have HC5 := hid hc5
  replace hc5 := hc5 _ HRA2.out.x HSA2.out
  go_region_held3 (fun w' => w'.cell? ⟨g, 0, none⟩ = some (.int .i64 k) ∧ w'.cell? ⟨g, 1, none⟩ = some (.int .i64 l) ∧ w'.cell? ⟨g, 2, none⟩ = some (.int .i64 z) ∧ w'.cell? ⟨g, 3, none⟩ = some (.int .i64 a0) ∧ w'.cell? ⟨g, 4, none⟩ = some (.int .i64 b0) ∧ w'.cell? ⟨g, 5, none⟩ = some (.int .i64 c0) ∧ w'.cell? ⟨g, 6, none⟩ = some (.int .i64 d0) ∧ w'.cell? ⟨g, 7, none⟩ = some (.int .i64 e0) ∧ w'.cell? ⟨g, 8, none⟩ = some (.int .i64 f0) ∧ w'.cell? ⟨g, 9, none⟩ = some (.int .i64 s0) ∧ w'.cell? ⟨g, 10, none⟩ = some (.int .i64 t0) ∧ w'.cell? ⟨wb1.heap.size, 0, none⟩ = some (.int .i64 (A : Int)) ∧ w'.cell? ⟨wb1.heap.size, 1, none⟩ = some (.int .i64 (x : Int))) (first | exact hc5 | exact hc6 | go_keep) (first
    | (go_at_call 156; refine (HN2.out _ (by exact HRA2.out.v.below ⟨rfl, rfl, rfl, Nat.le_refl _, fun _ _ => rfl⟩)).mono ?_; rintro e wb2 ⟨rfl, hb6⟩
       have HB6 : Hid (Below wa2.heap.size wa2 wb2) := hid ⟨hb6.os, hb6.tape, hb6.output, hb6.size, hb6.block⟩
       have HRB2 := hid (HRA2.out.below HB6.out)
       have hc6 := HC5.out _ HRB2.out.x (HSA2.out.below HB6.out)
       clear hb6 HB6))
  obtain ⟨x0, x1, x2, x3, x4, x5, x6, x7, x8, x9, x10, z0, z1⟩ := hc6
  clear x0 x1 x2 x3 x4 x5 x6 x7 x8 x9 x10 hc5 HC5 HN2
  go_wp2_with (first
    | (go_at_call 157; refine (HK2.out _ (by exact HRB2.out.x.below ⟨rfl, rfl, rfl, Nat.le_refl _, fun _ _ => rfl⟩) (by exact HRB2.out.v.below ⟨rfl, rfl, rfl, Nat.le_refl _, fun _ _ => rfl⟩)).mono ?_; rintro e wc2 ⟨rfl, hv7, hx7, ho7⟩
       have HRC2 := hid (HRB2.out.step hv7 hx7 ⟨ho7.os, ho7.tape, ho7.output, ho7.size, ho7.block⟩)
       clear hv7 hx7 ho7 z0 z1))
  rw [rounds_succ]
  go_wp2_with (first
    | (go_at_call 158; refine (last3 _ HRC2.out.y).mono ?_; rintro e w9 ⟨rfl, hd9⟩
       have HRL := hid (HRC2.out.drew hd9)
       clear hd9)
    | (go_at_call 157; refine (HM.out _ HRL.out.x HRL.out.v).mono ?_; rintro e w10 ⟨rfl, hv10, hx10, ho10⟩
       have HZ := hid (HRL.out.step hv10 hx10 ho10)
       clear hv10 hx10 ho10))
  go_ret2
  exact ⟨rfl, HZ.out.v, HZ.out.x, HZ.out.o⟩
end Go.Proofs.YtokjlgebkihimaaGreat
namespace Go.Proofs.YtokjlgebkihimaaGreat
open Go.RowKit Go.Maps

set_option maxRecDepth 100000 in
set_option maxHeartbeats 4000000 in
theorem reach2_none {G : Geo} {p q cap m g : Nat} {w : World} {F B : List ByteArray} (n : Ino) (i : Nat) (hi : i < 4166) (h70 : ¬ i < 70) (hA : nm G B n 0 7 = 0) (B1 : List ByteArray) (n1 : Ino) (hM : mkS G B n 0 7 = (none, B1, n1))  (h0 : blk G B n i = 0) (hX : Box g w n) (hgp : g ≠ p) (hgq : g ≠ q) (h : VI G p q cap m w F B) : Calls Tryz.prog 124 #[.pointer (some ⟨p, 0, none⟩), .pointer (some ⟨g, 0, none⟩), .int .i64 (i : Int)] w fun e w' => e = .returned (.tuple #[.int .i64 0, .int .i64 306]) ∧ VI G p q cap m w' F B1 ∧ Box g w' n1 ∧ Only [g, m] w w' := by
  have HV := hid h
  have HG := hid h.ok
  have HX := hid hX
  have HGP := hid hgp
  have HGQ := hid hgq
  have HGM := hid (h.gm hX)
  have hml := h.ml
  have hgl := lt_of_block hX
  have HLT : Hid (g < w.heap.size ∧ m < w.heap.size) := hid ⟨hgl, hml⟩
  have HK := hid (blockOf_any n i (by omega) h)
  rw [h0] at HK
  have HWy := hid (wayTo_any i (by omega))
  unfold wayV at HWy
  rw [if_neg (by omega), if_neg h70] at HWy
  have HN1 := hid (fun w' (hv : VI G p q cap m w' F B) => named_nm (w := w') n 0 7 (by have := HG.out.c4; have := HG.out.sum; omega) (fun _ => by omega) hv)
  rw [hA] at HN1
  obtain ⟨x, hx⟩ : ∃ x : Nat, x = (i - 70) / 64 := ⟨_, rfl⟩
  obtain ⟨y, hy⟩ : ∃ y : Nat, y = (i - 70) % 64 := ⟨_, rfl⟩
  rw [show ((i : Int) - 70) / 64 = (x : Int) by omega, show ((i : Int) - 70) % 64 = (y : Int) by omega] at HWy
  have HK1 := hid (fun w' (hx : Box g w' n) (hv : VI G p q cap m w' F B) => makeAt_any (w := w') n 0 7 (by have := HG.out.c4; have := HG.out.sum; omega) (fun _ => by omega) (by omega) hx HGP.out HGQ.out hv)
  rw [hM] at HK1
  simp only [optI, eS] at HK1
  clear h h70 h0 hX hgp hgq hml hgl hx hy hi hA hM
  obtain ⟨k, l, z, a0, b0, c0, d0, e0, f0, s0, t0⟩ := n
  simp only [Ino.v, Int.natCast_zero] at *
  obtain ⟨c0', c1', c2', c3', c4', c5', c6', c7', c8', c9', c10'⟩ := HX.out.cells
  go_enter Tryz.func124, Tryz.ntmps124
  go_wp2_with (first
    | (go_at_call 133; refine HK.out.mono ?_; rintro e w1 ⟨rfl, hb1⟩; have HB1 := hid hb1; clear hb1)
    | (go_at_call 154; refine (HWy.out _).mono ?_; rintro e w2 ⟨rfl, hb2⟩; have HB2 := hid (HB1.out.next hb2); clear hb2)
    | (go_at_call 155; fail))
  obtain ⟨w3, hw3⟩ : ∃ w3, w3 = w2.alloc (.cells #[.int .i64 7, .int .i64 (x : Int), .int .i64 (y : Int), .int .i64 3] 207) := ⟨_, rfl⟩
  have HRP : Hid (RP G p q cap m g F B w ⟨k, l, z, a0, b0, c0, d0, e0, f0, s0, t0⟩ w2.heap.size 7 (x : Int) (y : Int) 3 w3) := by
    have hs := HB2.out.size
    have hl := HLT.out
    rw [hw3]
    exact ⟨(HV.out.below HB2.out).below (below_alloc _ _), (HX.out.below HB2.out).below (below_alloc _ _), box_at _ _, by omega, by omega, Only.of_below (HB2.out.next (below_alloc _ _))⟩
  rw [← hw3]
  clear hw3 c0' c1' c2' c3' c4' c5' c6' c7' c8' c9' c10'
  refine (naming3 _ HRP.out.y).mono ?_
  rintro e w4 ⟨rfl, hd4⟩
  have HR := hid (HRP.out.drew hd4)
  clear hd4 HRP HV HX HB1 HB2 HK HWy HLT
  obtain ⟨Y, hY⟩ : ∃ Y, Y = w2.heap.size := ⟨_, rfl⟩
  rw [← hY] at HR ⊢
  clear hY
  go_wp2
  refine wp_loop_rounds 3 ?_
  rw [rounds_succ]
  obtain ⟨y0, y1, y2, y3⟩ := HR.out.y.cells
  go_wp2_with (go_at_call 156; fail)
  obtain ⟨wa1, hw5⟩ : ∃ w5, w5 = w4.alloc (.cells #[.int .i64 0, .int .i64 7] 211) := ⟨_, rfl⟩
  have HRA1 : Hid (RP G p q cap m g F B w ⟨k, l, z, a0, b0, c0, d0, e0, f0, s0, t0⟩ Y 7 (x : Int) (y : Int) 3 wa1) := by rw [hw5]; exact HR.out.below (below_alloc _ _)
  have HSA1 : Hid (Spt w4.heap.size wa1 0 7) := by rw [hw5]; exact box_at _ _
  rw [← hw5]
  clear hw5 y0 y1 y2 y3
  have hc5 : ∀ w', Box g w' ⟨k, l, z, a0, b0, c0, d0, e0, f0, s0, t0⟩ → Spt w4.heap.size w' 0 7 → (w'.cell? ⟨g, 0, none⟩ = some (.int .i64 k) ∧ w'.cell? ⟨g, 1, none⟩ = some (.int .i64 l) ∧ w'.cell? ⟨g, 2, none⟩ = some (.int .i64 z) ∧ w'.cell? ⟨g, 3, none⟩ = some (.int .i64 a0) ∧ w'.cell? ⟨g, 4, none⟩ = some (.int .i64 b0) ∧ w'.cell? ⟨g, 5, none⟩ = some (.int .i64 c0) ∧ w'.cell? ⟨g, 6, none⟩ = some (.int .i64 d0) ∧ w'.cell? ⟨g, 7, none⟩ = some (.int .i64 e0) ∧ w'.cell? ⟨g, 8, none⟩ = some (.int .i64 f0) ∧ w'.cell? ⟨g, 9, none⟩ = some (.int .i64 s0) ∧ w'.cell? ⟨g, 10, none⟩ = some (.int .i64 t0) ∧ w'.cell? ⟨w4.heap.size, 0, none⟩ = some (.int .i64 0) ∧ w'.cell? ⟨w4.heap.size, 1, none⟩ = some (.int .i64 7)) := fun w' hb hs => by
    obtain ⟨x0, x1, x2, x3, x4, x5, x6, x7, x8, x9, x10⟩ := hb.cells
    obtain ⟨z0, z1⟩ := hs.cells
    exact ⟨x0, x1, x2, x3, x4, x5, x6, x7, x8, x9, x10, z0, z1⟩
  have HC5 := hid hc5
  replace hc5 := hc5 _ HRA1.out.x HSA1.out
  go_region_held3 (fun w' => w'.cell? ⟨g, 0, none⟩ = some (.int .i64 k) ∧ w'.cell? ⟨g, 1, none⟩ = some (.int .i64 l) ∧ w'.cell? ⟨g, 2, none⟩ = some (.int .i64 z) ∧ w'.cell? ⟨g, 3, none⟩ = some (.int .i64 a0) ∧ w'.cell? ⟨g, 4, none⟩ = some (.int .i64 b0) ∧ w'.cell? ⟨g, 5, none⟩ = some (.int .i64 c0) ∧ w'.cell? ⟨g, 6, none⟩ = some (.int .i64 d0) ∧ w'.cell? ⟨g, 7, none⟩ = some (.int .i64 e0) ∧ w'.cell? ⟨g, 8, none⟩ = some (.int .i64 f0) ∧ w'.cell? ⟨g, 9, none⟩ = some (.int .i64 s0) ∧ w'.cell? ⟨g, 10, none⟩ = some (.int .i64 t0) ∧ w'.cell? ⟨w4.heap.size, 0, none⟩ = some (.int .i64 0) ∧ w'.cell? ⟨w4.heap.size, 1, none⟩ = some (.int .i64 7)) (first | exact hc5 | exact hc6 | go_keep) (first
    | (go_at_call 156; refine (HN1.out _ (by exact HRA1.out.v.below ⟨rfl, rfl, rfl, Nat.le_refl _, fun _ _ => rfl⟩)).mono ?_; rintro e wb1 ⟨rfl, hb6⟩
       have HB6 : Hid (Below wa1.heap.size wa1 wb1) := hid ⟨hb6.os, hb6.tape, hb6.output, hb6.size, hb6.block⟩
       have HRB1 := hid (HRA1.out.below HB6.out)
       have hc6 := HC5.out _ HRB1.out.x (HSA1.out.below HB6.out)
       clear hb6 HB6))
  obtain ⟨x0, x1, x2, x3, x4, x5, x6, x7, x8, x9, x10, z0, z1⟩ := hc6
  clear x0 x1 x2 x3 x4 x5 x6 x7 x8 x9 x10 hc5 HC5 HN1
  go_wp2_with (first
    | (go_at_call 157; refine (HK1.out _ (by exact HRB1.out.x.below ⟨rfl, rfl, rfl, Nat.le_refl _, fun _ _ => rfl⟩) (by exact HRB1.out.v.below ⟨rfl, rfl, rfl, Nat.le_refl _, fun _ _ => rfl⟩)).mono ?_; rintro e wc1 ⟨rfl, hv7, hx7, ho7⟩
       have HRC1 := hid (HRB1.out.step hv7 hx7 ⟨ho7.os, ho7.tape, ho7.output, ho7.size, ho7.block⟩)
       clear hv7 hx7 ho7 z0 z1))
  go_ret2
  exact ⟨rfl, HRC1.out.v, HRC1.out.x, HRC1.out.o⟩
set_option maxRecDepth 100000 in
set_option maxHeartbeats 4000000 in
theorem reach2_made_hit {G : Geo} {p q cap m g : Nat} {w : World} {F B : List ByteArray} (n : Ino) (i : Nat) (hi : i < 4166) (h70 : ¬ i < 70) (hA : nm G B n 0 7 = 0) (A : Nat) (B1 : List ByteArray) (n1 : Ino) (hM : mkS G B n 0 7 = (some A, B1, n1)) (C : Nat) (hC : nm G B1 n1 A ((i - 70) / 64) = C) (hC0 : C ≠ 0) (h0 : blk G B n i = 0) (hX : Box g w n) (hgp : g ≠ p) (hgq : g ≠ q) (h : VI G p q cap m w F B) : Calls Tryz.prog 124 #[.pointer (some ⟨p, 0, none⟩), .pointer (some ⟨g, 0, none⟩), .int .i64 (i : Int)] w fun e w' => e = .returned (.tuple #[.int .i64 (optI (mkS G B1 n1 C ((i - 70) % 64)).1), .int .i64 (eS (mkS G B1 n1 C ((i - 70) % 64)).1)]) ∧ VI G p q cap m w' F (mkS G B1 n1 C ((i - 70) % 64)).2.1 ∧ Box g w' (mkS G B1 n1 C ((i - 70) % 64)).2.2 ∧ Only [g, m] w w' := by
  have HV := hid h
  have HG := hid h.ok
  have HX := hid hX
  have HGP := hid hgp
  have HGQ := hid hgq
  have HGM := hid (h.gm hX)
  have hml := h.ml
  have hgl := lt_of_block hX
  have HLT : Hid (g < w.heap.size ∧ m < w.heap.size) := hid ⟨hgl, hml⟩
  have HK := hid (blockOf_any n i (by omega) h)
  rw [h0] at HK
  have HWy := hid (wayTo_any i (by omega))
  unfold wayV at HWy
  rw [if_neg (by omega), if_neg h70] at HWy
  have HN1 := hid (fun w' (hv : VI G p q cap m w' F B) => named_nm (w := w') n 0 7 (by have := HG.out.c4; have := HG.out.sum; omega) (fun _ => by omega) hv)
  rw [hA] at HN1
  obtain ⟨x, hx⟩ : ∃ x : Nat, x = (i - 70) / 64 := ⟨_, rfl⟩
  obtain ⟨y, hy⟩ : ∃ y : Nat, y = (i - 70) % 64 := ⟨_, rfl⟩
  rw [show ((i : Int) - 70) / 64 = (x : Int) by omega, show ((i : Int) - 70) % 64 = (y : Int) by omega] at HWy
  rw [← hx] at hC
  rw [← hy]
  have HK1 := hid (fun w' (hx : Box g w' n) (hv : VI G p q cap m w' F B) => makeAt_any (w := w') n 0 7 (by have := HG.out.c4; have := HG.out.sum; omega) (fun _ => by omega) (by omega) hx HGP.out HGQ.out hv)
  rw [hM] at HK1
  simp only [optI, eS] at HK1
  have hAl := mkS_lt HG.out (show (mkS G B n 0 7).1 = some A by rw [hM])
  have HN2 := hid (fun w' (hv : VI G p q cap m w' F B1) => named_nm (w := w') n1 A x hAl.1 (fun e => absurd e hAl.2) hv)
  rw [hC] at HN2
  have hCl : C < G.n ∧ C ≠ 0 := ⟨hC ▸ nm_lt HG.out _ _ _ _, hC0⟩
  have hC1 : ¬ ((C : Int) = 0) := by omega
  have HM := hid (fun w' (hx' : Box g w' n1) (hv : VI G p q cap m w' F B1) => makeAt_any (w := w') n1 C y hCl.1 (fun e => absurd e hCl.2) (by omega) hx' HGP.out HGQ.out hv)
  obtain ⟨r, hr⟩ : ∃ r, r = mkS G B1 n1 C y := ⟨_, rfl⟩
  rw [← hr] at HM ⊢
  clear h h70 h0 hX hgp hgq hml hgl hx hy hi hr hCl hC hAl hC0 hA hM
  obtain ⟨kk1, ll1, zz1, aa1, bb1, cc1, dd1, ee1, ff1, ss1, tt1⟩ := n1
  simp only [Ino.v] at *
  obtain ⟨k, l, z, a0, b0, c0, d0, e0, f0, s0, t0⟩ := n
  obtain ⟨c0', c1', c2', c3', c4', c5', c6', c7', c8', c9', c10'⟩ := HX.out.cells
  go_enter Tryz.func124, Tryz.ntmps124
  go_wp2_with (first
    | (go_at_call 133; refine HK.out.mono ?_; rintro e w1 ⟨rfl, hb1⟩; have HB1 := hid hb1; clear hb1)
    | (go_at_call 154; refine (HWy.out _).mono ?_; rintro e w2 ⟨rfl, hb2⟩; have HB2 := hid (HB1.out.next hb2); clear hb2)
    | (go_at_call 155; fail))
  obtain ⟨w3, hw3⟩ : ∃ w3, w3 = w2.alloc (.cells #[.int .i64 7, .int .i64 (x : Int), .int .i64 (y : Int), .int .i64 3] 207) := ⟨_, rfl⟩
  have HRP : Hid (RP G p q cap m g F B w ⟨k, l, z, a0, b0, c0, d0, e0, f0, s0, t0⟩ w2.heap.size 7 (x : Int) (y : Int) 3 w3) := by
    have hs := HB2.out.size
    have hl := HLT.out
    rw [hw3]
    exact ⟨(HV.out.below HB2.out).below (below_alloc _ _), (HX.out.below HB2.out).below (below_alloc _ _), box_at _ _, by omega, by omega, Only.of_below (HB2.out.next (below_alloc _ _))⟩
  rw [← hw3]
  clear hw3 c0' c1' c2' c3' c4' c5' c6' c7' c8' c9' c10'
  refine (naming3 _ HRP.out.y).mono ?_
  rintro e w4 ⟨rfl, hd4⟩
  have HR := hid (HRP.out.drew hd4)
  clear hd4 HRP HV HX HB1 HB2 HK HWy HLT
  obtain ⟨Y, hY⟩ : ∃ Y, Y = w2.heap.size := ⟨_, rfl⟩
  rw [← hY] at HR ⊢
  clear hY
  go_wp2
  refine wp_loop_rounds 3 ?_
  rw [rounds_succ]
  obtain ⟨y0, y1, y2, y3⟩ := HR.out.y.cells
  go_wp2_with (go_at_call 156; fail)
  obtain ⟨wa1, hw5⟩ : ∃ w5, w5 = w4.alloc (.cells #[.int .i64 0, .int .i64 7] 211) := ⟨_, rfl⟩
  have HRA1 : Hid (RP G p q cap m g F B w ⟨k, l, z, a0, b0, c0, d0, e0, f0, s0, t0⟩ Y 7 (x : Int) (y : Int) 3 wa1) := by rw [hw5]; exact HR.out.below (below_alloc _ _)
  have HSA1 : Hid (Spt w4.heap.size wa1 0 7) := by rw [hw5]; exact box_at _ _
  rw [← hw5]
  clear hw5 y0 y1 y2 y3
  have hc5 : ∀ w', Box g w' ⟨k, l, z, a0, b0, c0, d0, e0, f0, s0, t0⟩ → Spt w4.heap.size w' 0 7 → (w'.cell? ⟨g, 0, none⟩ = some (.int .i64 k) ∧ w'.cell? ⟨g, 1, none⟩ = some (.int .i64 l) ∧ w'.cell? ⟨g, 2, none⟩ = some (.int .i64 z) ∧ w'.cell? ⟨g, 3, none⟩ = some (.int .i64 a0) ∧ w'.cell? ⟨g, 4, none⟩ = some (.int .i64 b0) ∧ w'.cell? ⟨g, 5, none⟩ = some (.int .i64 c0) ∧ w'.cell? ⟨g, 6, none⟩ = some (.int .i64 d0) ∧ w'.cell? ⟨g, 7, none⟩ = some (.int .i64 e0) ∧ w'.cell? ⟨g, 8, none⟩ = some (.int .i64 f0) ∧ w'.cell? ⟨g, 9, none⟩ = some (.int .i64 s0) ∧ w'.cell? ⟨g, 10, none⟩ = some (.int .i64 t0) ∧ w'.cell? ⟨w4.heap.size, 0, none⟩ = some (.int .i64 0) ∧ w'.cell? ⟨w4.heap.size, 1, none⟩ = some (.int .i64 7)) := fun w' hb hs => by
    obtain ⟨x0, x1, x2, x3, x4, x5, x6, x7, x8, x9, x10⟩ := hb.cells
    obtain ⟨z0, z1⟩ := hs.cells
    exact ⟨x0, x1, x2, x3, x4, x5, x6, x7, x8, x9, x10, z0, z1⟩
  have HC5 := hid hc5
  replace hc5 := hc5 _ HRA1.out.x HSA1.out
  go_region_held3 (fun w' => w'.cell? ⟨g, 0, none⟩ = some (.int .i64 k) ∧ w'.cell? ⟨g, 1, none⟩ = some (.int .i64 l) ∧ w'.cell? ⟨g, 2, none⟩ = some (.int .i64 z) ∧ w'.cell? ⟨g, 3, none⟩ = some (.int .i64 a0) ∧ w'.cell? ⟨g, 4, none⟩ = some (.int .i64 b0) ∧ w'.cell? ⟨g, 5, none⟩ = some (.int .i64 c0) ∧ w'.cell? ⟨g, 6, none⟩ = some (.int .i64 d0) ∧ w'.cell? ⟨g, 7, none⟩ = some (.int .i64 e0) ∧ w'.cell? ⟨g, 8, none⟩ = some (.int .i64 f0) ∧ w'.cell? ⟨g, 9, none⟩ = some (.int .i64 s0) ∧ w'.cell? ⟨g, 10, none⟩ = some (.int .i64 t0) ∧ w'.cell? ⟨w4.heap.size, 0, none⟩ = some (.int .i64 0) ∧ w'.cell? ⟨w4.heap.size, 1, none⟩ = some (.int .i64 7)) (first | exact hc5 | exact hc6 | go_keep) (first
    | (go_at_call 156; refine (HN1.out _ (by exact HRA1.out.v.below ⟨rfl, rfl, rfl, Nat.le_refl _, fun _ _ => rfl⟩)).mono ?_; rintro e wb1 ⟨rfl, hb6⟩
       have HB6 : Hid (Below wa1.heap.size wa1 wb1) := hid ⟨hb6.os, hb6.tape, hb6.output, hb6.size, hb6.block⟩
       have HRB1 := hid (HRA1.out.below HB6.out)
       have hc6 := HC5.out _ HRB1.out.x (HSA1.out.below HB6.out)
       clear hb6 HB6))
  obtain ⟨x0, x1, x2, x3, x4, x5, x6, x7, x8, x9, x10, z0, z1⟩ := hc6
  clear x0 x1 x2 x3 x4 x5 x6 x7 x8 x9 x10 hc5 HC5 HN1
  go_wp2_with (first
    | (go_at_call 157; refine (HK1.out _ (by exact HRB1.out.x.below ⟨rfl, rfl, rfl, Nat.le_refl _, fun _ _ => rfl⟩) (by exact HRB1.out.v.below ⟨rfl, rfl, rfl, Nat.le_refl _, fun _ _ => rfl⟩)).mono ?_; rintro e wc1 ⟨rfl, hv7, hx7, ho7⟩
       have HRC1 := hid (HRB1.out.step hv7 hx7 ⟨ho7.os, ho7.tape, ho7.output, ho7.size, ho7.block⟩)
       clear hv7 hx7 ho7 z0 z1))
  rw [rounds_succ]
  obtain ⟨y0, y1, y2, y3⟩ := HRC1.out.y.cells
  go_wp2_with (go_at_call 156; fail)
  obtain ⟨wa2, hw5⟩ : ∃ w5, w5 = wc1.alloc (.cells #[.int .i64 (A : Int), .int .i64 (x : Int)] 211) := ⟨_, rfl⟩
  have HRA2 : Hid (RP G p q cap m g F B1 w ⟨kk1, ll1, zz1, aa1, bb1, cc1, dd1, ee1, ff1, ss1, tt1⟩ Y 7 (x : Int) (y : Int) 3 wa2) := by rw [hw5]; exact HRC1.out.below (below_alloc _ _)
  have HSA2 : Hid (Spt wc1.heap.size wa2 (A : Int) (x : Int)) := by rw [hw5]; exact box_at _ _
  rw [← hw5]
  clear hw5 y0 y1 y2 y3
  have hc5 : ∀ w', Box g w' ⟨kk1, ll1, zz1, aa1, bb1, cc1, dd1, ee1, ff1, ss1, tt1⟩ → Spt wc1.heap.size w' (A : Int) (x : Int) → (w'.cell? ⟨g, 0, none⟩ = some (.int .i64 kk1) ∧ w'.cell? ⟨g, 1, none⟩ = some (.int .i64 ll1) ∧ w'.cell? ⟨g, 2, none⟩ = some (.int .i64 zz1) ∧ w'.cell? ⟨g, 3, none⟩ = some (.int .i64 aa1) ∧ w'.cell? ⟨g, 4, none⟩ = some (.int .i64 bb1) ∧ w'.cell? ⟨g, 5, none⟩ = some (.int .i64 cc1) ∧ w'.cell? ⟨g, 6, none⟩ = some (.int .i64 dd1) ∧ w'.cell? ⟨g, 7, none⟩ = some (.int .i64 ee1) ∧ w'.cell? ⟨g, 8, none⟩ = some (.int .i64 ff1) ∧ w'.cell? ⟨g, 9, none⟩ = some (.int .i64 ss1) ∧ w'.cell? ⟨g, 10, none⟩ = some (.int .i64 tt1) ∧ w'.cell? ⟨wc1.heap.size, 0, none⟩ = some (.int .i64 (A : Int)) ∧ w'.cell? ⟨wc1.heap.size, 1, none⟩ = some (.int .i64 (x : Int))) := fun w' hb hs => by
    obtain ⟨x0, x1, x2, x3, x4, x5, x6, x7, x8, x9, x10⟩ := hb.cells
    obtain ⟨z0, z1⟩ := hs.cells
    exact ⟨x0, x1, x2, x3, x4, x5, x6, x7, x8, x9, x10, z0, z1⟩
  have HC5 := hid hc5
  replace hc5 := hc5 _ HRA2.out.x HSA2.out
  go_region_held3 (fun w' => w'.cell? ⟨g, 0, none⟩ = some (.int .i64 kk1) ∧ w'.cell? ⟨g, 1, none⟩ = some (.int .i64 ll1) ∧ w'.cell? ⟨g, 2, none⟩ = some (.int .i64 zz1) ∧ w'.cell? ⟨g, 3, none⟩ = some (.int .i64 aa1) ∧ w'.cell? ⟨g, 4, none⟩ = some (.int .i64 bb1) ∧ w'.cell? ⟨g, 5, none⟩ = some (.int .i64 cc1) ∧ w'.cell? ⟨g, 6, none⟩ = some (.int .i64 dd1) ∧ w'.cell? ⟨g, 7, none⟩ = some (.int .i64 ee1) ∧ w'.cell? ⟨g, 8, none⟩ = some (.int .i64 ff1) ∧ w'.cell? ⟨g, 9, none⟩ = some (.int .i64 ss1) ∧ w'.cell? ⟨g, 10, none⟩ = some (.int .i64 tt1) ∧ w'.cell? ⟨wc1.heap.size, 0, none⟩ = some (.int .i64 (A : Int)) ∧ w'.cell? ⟨wc1.heap.size, 1, none⟩ = some (.int .i64 (x : Int))) (first | exact hc5 | exact hc6 | go_keep) (first
    | (go_at_call 156; refine (HN2.out _ (by exact HRA2.out.v.below ⟨rfl, rfl, rfl, Nat.le_refl _, fun _ _ => rfl⟩)).mono ?_; rintro e wb2 ⟨rfl, hb6⟩
       have HB6 : Hid (Below wa2.heap.size wa2 wb2) := hid ⟨hb6.os, hb6.tape, hb6.output, hb6.size, hb6.block⟩
       have HRB2 := hid (HRA2.out.below HB6.out)
       have hc6 := HC5.out _ HRB2.out.x (HSA2.out.below HB6.out)
       clear hb6 HB6))
  obtain ⟨x0, x1, x2, x3, x4, x5, x6, x7, x8, x9, x10, z0, z1⟩ := hc6
  clear x0 x1 x2 x3 x4 x5 x6 x7 x8 x9 x10 hc5 HC5 HN2
  clear z0 z1
  go_wp2
  have HRC2 := hid (HRB2.out.below (w' := wb2.drewN 0) ⟨rfl, rfl, rfl, Nat.le_refl _, fun _ _ => rfl⟩)
  rw [rounds_succ]
  go_wp2_with (first
    | (go_at_call 158; refine (last3 _ HRB2.out.y).mono ?_; rintro e w9 ⟨rfl, hd9⟩
       have HRL := hid (HRB2.out.drew hd9)
       clear hd9)
    | (go_at_call 157; refine (HM.out _ HRL.out.x HRL.out.v).mono ?_; rintro e w10 ⟨rfl, hv10, hx10, ho10⟩
       have HZ := hid (HRL.out.step hv10 hx10 ho10)
       clear hv10 hx10 ho10))
  go_ret2
  exact ⟨rfl, HZ.out.v, HZ.out.x, HZ.out.o⟩
set_option maxRecDepth 100000 in
set_option maxHeartbeats 4000000 in
theorem reach2_made_none {G : Geo} {p q cap m g : Nat} {w : World} {F B : List ByteArray} (n : Ino) (i : Nat) (hi : i < 4166) (h70 : ¬ i < 70) (hA : nm G B n 0 7 = 0) (A : Nat) (B1 : List ByteArray) (n1 : Ino) (hM : mkS G B n 0 7 = (some A, B1, n1)) (hC : nm G B1 n1 A ((i - 70) / 64) = 0) (B2 : List ByteArray) (n2 : Ino) (hM2 : mkS G B1 n1 A ((i - 70) / 64) = (none, B2, n2)) (h0 : blk G B n i = 0) (hX : Box g w n) (hgp : g ≠ p) (hgq : g ≠ q) (h : VI G p q cap m w F B) : Calls Tryz.prog 124 #[.pointer (some ⟨p, 0, none⟩), .pointer (some ⟨g, 0, none⟩), .int .i64 (i : Int)] w fun e w' => e = .returned (.tuple #[.int .i64 0, .int .i64 306]) ∧ VI G p q cap m w' F B2 ∧ Box g w' n2 ∧ Only [g, m] w w' := by
  have HV := hid h
  have HG := hid h.ok
  have HX := hid hX
  have HGP := hid hgp
  have HGQ := hid hgq
  have HGM := hid (h.gm hX)
  have hml := h.ml
  have hgl := lt_of_block hX
  have HLT : Hid (g < w.heap.size ∧ m < w.heap.size) := hid ⟨hgl, hml⟩
  have HK := hid (blockOf_any n i (by omega) h)
  rw [h0] at HK
  have HWy := hid (wayTo_any i (by omega))
  unfold wayV at HWy
  rw [if_neg (by omega), if_neg h70] at HWy
  have HN1 := hid (fun w' (hv : VI G p q cap m w' F B) => named_nm (w := w') n 0 7 (by have := HG.out.c4; have := HG.out.sum; omega) (fun _ => by omega) hv)
  rw [hA] at HN1
  obtain ⟨x, hx⟩ : ∃ x : Nat, x = (i - 70) / 64 := ⟨_, rfl⟩
  obtain ⟨y, hy⟩ : ∃ y : Nat, y = (i - 70) % 64 := ⟨_, rfl⟩
  rw [show ((i : Int) - 70) / 64 = (x : Int) by omega, show ((i : Int) - 70) % 64 = (y : Int) by omega] at HWy
  rw [← hx] at hC hM2
  have HK1 := hid (fun w' (hx : Box g w' n) (hv : VI G p q cap m w' F B) => makeAt_any (w := w') n 0 7 (by have := HG.out.c4; have := HG.out.sum; omega) (fun _ => by omega) (by omega) hx HGP.out HGQ.out hv)
  rw [hM] at HK1
  simp only [optI, eS] at HK1
  have hAl := mkS_lt HG.out (show (mkS G B n 0 7).1 = some A by rw [hM])
  have HN2 := hid (fun w' (hv : VI G p q cap m w' F B1) => named_nm (w := w') n1 A x hAl.1 (fun e => absurd e hAl.2) hv)
  rw [hC] at HN2
  have HK2 := hid (fun w' (hx' : Box g w' n1) (hv : VI G p q cap m w' F B1) => makeAt_any (w := w') n1 A x hAl.1 (fun e => absurd e hAl.2) (by omega) hx' HGP.out HGQ.out hv)
  rw [hM2] at HK2
  simp only [optI, eS] at HK2
  clear h h70 h0 hX hgp hgq hml hgl hx hy hi hC hAl hM2 hA hM
  obtain ⟨kk1, ll1, zz1, aa1, bb1, cc1, dd1, ee1, ff1, ss1, tt1⟩ := n1
  simp only [Ino.v] at *
  obtain ⟨k, l, z, a0, b0, c0, d0, e0, f0, s0, t0⟩ := n
  obtain ⟨c0', c1', c2', c3', c4', c5', c6', c7', c8', c9', c10'⟩ := HX.out.cells
  go_enter Tryz.func124, Tryz.ntmps124
  go_wp2_with (first
    | (go_at_call 133; refine HK.out.mono ?_; rintro e w1 ⟨rfl, hb1⟩; have HB1 := hid hb1; clear hb1)
    | (go_at_call 154; refine (HWy.out _).mono ?_; rintro e w2 ⟨rfl, hb2⟩; have HB2 := hid (HB1.out.next hb2); clear hb2)
    | (go_at_call 155; fail))
  obtain ⟨w3, hw3⟩ : ∃ w3, w3 = w2.alloc (.cells #[.int .i64 7, .int .i64 (x : Int), .int .i64 (y : Int), .int .i64 3] 207) := ⟨_, rfl⟩
  have HRP : Hid (RP G p q cap m g F B w ⟨k, l, z, a0, b0, c0, d0, e0, f0, s0, t0⟩ w2.heap.size 7 (x : Int) (y : Int) 3 w3) := by
    have hs := HB2.out.size
    have hl := HLT.out
    rw [hw3]
    exact ⟨(HV.out.below HB2.out).below (below_alloc _ _), (HX.out.below HB2.out).below (below_alloc _ _), box_at _ _, by omega, by omega, Only.of_below (HB2.out.next (below_alloc _ _))⟩
  rw [← hw3]
  clear hw3 c0' c1' c2' c3' c4' c5' c6' c7' c8' c9' c10'
  refine (naming3 _ HRP.out.y).mono ?_
  rintro e w4 ⟨rfl, hd4⟩
  have HR := hid (HRP.out.drew hd4)
  clear hd4 HRP HV HX HB1 HB2 HK HWy HLT
  obtain ⟨Y, hY⟩ : ∃ Y, Y = w2.heap.size := ⟨_, rfl⟩
  rw [← hY] at HR ⊢
  clear hY
  go_wp2
  refine wp_loop_rounds 3 ?_
  rw [rounds_succ]
  obtain ⟨y0, y1, y2, y3⟩ := HR.out.y.cells
  go_wp2_with (go_at_call 156; fail)
  obtain ⟨wa1, hw5⟩ : ∃ w5, w5 = w4.alloc (.cells #[.int .i64 0, .int .i64 7] 211) := ⟨_, rfl⟩
  have HRA1 : Hid (RP G p q cap m g F B w ⟨k, l, z, a0, b0, c0, d0, e0, f0, s0, t0⟩ Y 7 (x : Int) (y : Int) 3 wa1) := by rw [hw5]; exact HR.out.below (below_alloc _ _)
  have HSA1 : Hid (Spt w4.heap.size wa1 0 7) := by rw [hw5]; exact box_at _ _
  rw [← hw5]
  clear hw5 y0 y1 y2 y3
  have hc5 : ∀ w', Box g w' ⟨k, l, z, a0, b0, c0, d0, e0, f0, s0, t0⟩ → Spt w4.heap.size w' 0 7 → (w'.cell? ⟨g, 0, none⟩ = some (.int .i64 k) ∧ w'.cell? ⟨g, 1, none⟩ = some (.int .i64 l) ∧ w'.cell? ⟨g, 2, none⟩ = some (.int .i64 z) ∧ w'.cell? ⟨g, 3, none⟩ = some (.int .i64 a0) ∧ w'.cell? ⟨g, 4, none⟩ = some (.int .i64 b0) ∧ w'.cell? ⟨g, 5, none⟩ = some (.int .i64 c0) ∧ w'.cell? ⟨g, 6, none⟩ = some (.int .i64 d0) ∧ w'.cell? ⟨g, 7, none⟩ = some (.int .i64 e0) ∧ w'.cell? ⟨g, 8, none⟩ = some (.int .i64 f0) ∧ w'.cell? ⟨g, 9, none⟩ = some (.int .i64 s0) ∧ w'.cell? ⟨g, 10, none⟩ = some (.int .i64 t0) ∧ w'.cell? ⟨w4.heap.size, 0, none⟩ = some (.int .i64 0) ∧ w'.cell? ⟨w4.heap.size, 1, none⟩ = some (.int .i64 7)) := fun w' hb hs => by
    obtain ⟨x0, x1, x2, x3, x4, x5, x6, x7, x8, x9, x10⟩ := hb.cells
    obtain ⟨z0, z1⟩ := hs.cells
    exact ⟨x0, x1, x2, x3, x4, x5, x6, x7, x8, x9, x10, z0, z1⟩
  have HC5 := hid hc5
  replace hc5 := hc5 _ HRA1.out.x HSA1.out
  go_region_held3 (fun w' => w'.cell? ⟨g, 0, none⟩ = some (.int .i64 k) ∧ w'.cell? ⟨g, 1, none⟩ = some (.int .i64 l) ∧ w'.cell? ⟨g, 2, none⟩ = some (.int .i64 z) ∧ w'.cell? ⟨g, 3, none⟩ = some (.int .i64 a0) ∧ w'.cell? ⟨g, 4, none⟩ = some (.int .i64 b0) ∧ w'.cell? ⟨g, 5, none⟩ = some (.int .i64 c0) ∧ w'.cell? ⟨g, 6, none⟩ = some (.int .i64 d0) ∧ w'.cell? ⟨g, 7, none⟩ = some (.int .i64 e0) ∧ w'.cell? ⟨g, 8, none⟩ = some (.int .i64 f0) ∧ w'.cell? ⟨g, 9, none⟩ = some (.int .i64 s0) ∧ w'.cell? ⟨g, 10, none⟩ = some (.int .i64 t0) ∧ w'.cell? ⟨w4.heap.size, 0, none⟩ = some (.int .i64 0) ∧ w'.cell? ⟨w4.heap.size, 1, none⟩ = some (.int .i64 7)) (first | exact hc5 | exact hc6 | go_keep) (first
    | (go_at_call 156; refine (HN1.out _ (by exact HRA1.out.v.below ⟨rfl, rfl, rfl, Nat.le_refl _, fun _ _ => rfl⟩)).mono ?_; rintro e wb1 ⟨rfl, hb6⟩
       have HB6 : Hid (Below wa1.heap.size wa1 wb1) := hid ⟨hb6.os, hb6.tape, hb6.output, hb6.size, hb6.block⟩
       have HRB1 := hid (HRA1.out.below HB6.out)
       have hc6 := HC5.out _ HRB1.out.x (HSA1.out.below HB6.out)
       clear hb6 HB6))
  obtain ⟨x0, x1, x2, x3, x4, x5, x6, x7, x8, x9, x10, z0, z1⟩ := hc6
  clear x0 x1 x2 x3 x4 x5 x6 x7 x8 x9 x10 hc5 HC5 HN1
  go_wp2_with (first
    | (go_at_call 157; refine (HK1.out _ (by exact HRB1.out.x.below ⟨rfl, rfl, rfl, Nat.le_refl _, fun _ _ => rfl⟩) (by exact HRB1.out.v.below ⟨rfl, rfl, rfl, Nat.le_refl _, fun _ _ => rfl⟩)).mono ?_; rintro e wc1 ⟨rfl, hv7, hx7, ho7⟩
       have HRC1 := hid (HRB1.out.step hv7 hx7 ⟨ho7.os, ho7.tape, ho7.output, ho7.size, ho7.block⟩)
       clear hv7 hx7 ho7 z0 z1))
  rw [rounds_succ]
  obtain ⟨y0, y1, y2, y3⟩ := HRC1.out.y.cells
  go_wp2_with (go_at_call 156; fail)
  obtain ⟨wa2, hw5⟩ : ∃ w5, w5 = wc1.alloc (.cells #[.int .i64 (A : Int), .int .i64 (x : Int)] 211) := ⟨_, rfl⟩
  have HRA2 : Hid (RP G p q cap m g F B1 w ⟨kk1, ll1, zz1, aa1, bb1, cc1, dd1, ee1, ff1, ss1, tt1⟩ Y 7 (x : Int) (y : Int) 3 wa2) := by rw [hw5]; exact HRC1.out.below (below_alloc _ _)
  have HSA2 : Hid (Spt wc1.heap.size wa2 (A : Int) (x : Int)) := by rw [hw5]; exact box_at _ _
  rw [← hw5]
  clear hw5 y0 y1 y2 y3
  have hc5 : ∀ w', Box g w' ⟨kk1, ll1, zz1, aa1, bb1, cc1, dd1, ee1, ff1, ss1, tt1⟩ → Spt wc1.heap.size w' (A : Int) (x : Int) → (w'.cell? ⟨g, 0, none⟩ = some (.int .i64 kk1) ∧ w'.cell? ⟨g, 1, none⟩ = some (.int .i64 ll1) ∧ w'.cell? ⟨g, 2, none⟩ = some (.int .i64 zz1) ∧ w'.cell? ⟨g, 3, none⟩ = some (.int .i64 aa1) ∧ w'.cell? ⟨g, 4, none⟩ = some (.int .i64 bb1) ∧ w'.cell? ⟨g, 5, none⟩ = some (.int .i64 cc1) ∧ w'.cell? ⟨g, 6, none⟩ = some (.int .i64 dd1) ∧ w'.cell? ⟨g, 7, none⟩ = some (.int .i64 ee1) ∧ w'.cell? ⟨g, 8, none⟩ = some (.int .i64 ff1) ∧ w'.cell? ⟨g, 9, none⟩ = some (.int .i64 ss1) ∧ w'.cell? ⟨g, 10, none⟩ = some (.int .i64 tt1) ∧ w'.cell? ⟨wc1.heap.size, 0, none⟩ = some (.int .i64 (A : Int)) ∧ w'.cell? ⟨wc1.heap.size, 1, none⟩ = some (.int .i64 (x : Int))) := fun w' hb hs => by
    obtain ⟨x0, x1, x2, x3, x4, x5, x6, x7, x8, x9, x10⟩ := hb.cells
    obtain ⟨z0, z1⟩ := hs.cells
    exact ⟨x0, x1, x2, x3, x4, x5, x6, x7, x8, x9, x10, z0, z1⟩
  have HC5 := hid hc5
  replace hc5 := hc5 _ HRA2.out.x HSA2.out
  go_region_held3 (fun w' => w'.cell? ⟨g, 0, none⟩ = some (.int .i64 kk1) ∧ w'.cell? ⟨g, 1, none⟩ = some (.int .i64 ll1) ∧ w'.cell? ⟨g, 2, none⟩ = some (.int .i64 zz1) ∧ w'.cell? ⟨g, 3, none⟩ = some (.int .i64 aa1) ∧ w'.cell? ⟨g, 4, none⟩ = some (.int .i64 bb1) ∧ w'.cell? ⟨g, 5, none⟩ = some (.int .i64 cc1) ∧ w'.cell? ⟨g, 6, none⟩ = some (.int .i64 dd1) ∧ w'.cell? ⟨g, 7, none⟩ = some (.int .i64 ee1) ∧ w'.cell? ⟨g, 8, none⟩ = some (.int .i64 ff1) ∧ w'.cell? ⟨g, 9, none⟩ = some (.int .i64 ss1) ∧ w'.cell? ⟨g, 10, none⟩ = some (.int .i64 tt1) ∧ w'.cell? ⟨wc1.heap.size, 0, none⟩ = some (.int .i64 (A : Int)) ∧ w'.cell? ⟨wc1.heap.size, 1, none⟩ = some (.int .i64 (x : Int))) (first | exact hc5 | exact hc6 | go_keep) (first
    | (go_at_call 156; refine (HN2.out _ (by exact HRA2.out.v.below ⟨rfl, rfl, rfl, Nat.le_refl _, fun _ _ => rfl⟩)).mono ?_; rintro e wb2 ⟨rfl, hb6⟩
       have HB6 : Hid (Below wa2.heap.size wa2 wb2) := hid ⟨hb6.os, hb6.tape, hb6.output, hb6.size, hb6.block⟩
       have HRB2 := hid (HRA2.out.below HB6.out)
       have hc6 := HC5.out _ HRB2.out.x (HSA2.out.below HB6.out)
       clear hb6 HB6))
  obtain ⟨x0, x1, x2, x3, x4, x5, x6, x7, x8, x9, x10, z0, z1⟩ := hc6
  clear x0 x1 x2 x3 x4 x5 x6 x7 x8 x9 x10 hc5 HC5 HN2
  go_wp2_with (first
    | (go_at_call 157; refine (HK2.out _ (by exact HRB2.out.x.below ⟨rfl, rfl, rfl, Nat.le_refl _, fun _ _ => rfl⟩) (by exact HRB2.out.v.below ⟨rfl, rfl, rfl, Nat.le_refl _, fun _ _ => rfl⟩)).mono ?_; rintro e wc2 ⟨rfl, hv7, hx7, ho7⟩
       have HRC2 := hid (HRB2.out.step hv7 hx7 ⟨ho7.os, ho7.tape, ho7.output, ho7.size, ho7.block⟩)
       clear hv7 hx7 ho7 z0 z1))
  go_ret2
  exact ⟨rfl, HRC2.out.v, HRC2.out.x, HRC2.out.o⟩
set_option maxRecDepth 100000 in
set_option maxHeartbeats 4000000 in
theorem reach2_made_made {G : Geo} {p q cap m g : Nat} {w : World} {F B : List ByteArray} (n : Ino) (i : Nat) (hi : i < 4166) (h70 : ¬ i < 70) (hA : nm G B n 0 7 = 0) (A : Nat) (B1 : List ByteArray) (n1 : Ino) (hM : mkS G B n 0 7 = (some A, B1, n1)) (hC : nm G B1 n1 A ((i - 70) / 64) = 0) (C : Nat) (B2 : List ByteArray) (n2 : Ino) (hM2 : mkS G B1 n1 A ((i - 70) / 64) = (some C, B2, n2)) (h0 : blk G B n i = 0) (hX : Box g w n) (hgp : g ≠ p) (hgq : g ≠ q) (h : VI G p q cap m w F B) : Calls Tryz.prog 124 #[.pointer (some ⟨p, 0, none⟩), .pointer (some ⟨g, 0, none⟩), .int .i64 (i : Int)] w fun e w' => e = .returned (.tuple #[.int .i64 (optI (mkS G B2 n2 C ((i - 70) % 64)).1), .int .i64 (eS (mkS G B2 n2 C ((i - 70) % 64)).1)]) ∧ VI G p q cap m w' F (mkS G B2 n2 C ((i - 70) % 64)).2.1 ∧ Box g w' (mkS G B2 n2 C ((i - 70) % 64)).2.2 ∧ Only [g, m] w w' := by
  have HV := hid h
  have HG := hid h.ok
  have HX := hid hX
  have HGP := hid hgp
  have HGQ := hid hgq
  have HGM := hid (h.gm hX)
  have hml := h.ml
  have hgl := lt_of_block hX
  have HLT : Hid (g < w.heap.size ∧ m < w.heap.size) := hid ⟨hgl, hml⟩
  have HK := hid (blockOf_any n i (by omega) h)
  rw [h0] at HK
  have HWy := hid (wayTo_any i (by omega))
  unfold wayV at HWy
  rw [if_neg (by omega), if_neg h70] at HWy
  have HN1 := hid (fun w' (hv : VI G p q cap m w' F B) => named_nm (w := w') n 0 7 (by have := HG.out.c4; have := HG.out.sum; omega) (fun _ => by omega) hv)
  rw [hA] at HN1
  obtain ⟨x, hx⟩ : ∃ x : Nat, x = (i - 70) / 64 := ⟨_, rfl⟩
  obtain ⟨y, hy⟩ : ∃ y : Nat, y = (i - 70) % 64 := ⟨_, rfl⟩
  rw [show ((i : Int) - 70) / 64 = (x : Int) by omega, show ((i : Int) - 70) % 64 = (y : Int) by omega] at HWy
  rw [← hx] at hC hM2
  rw [← hy]
  have HK1 := hid (fun w' (hx : Box g w' n) (hv : VI G p q cap m w' F B) => makeAt_any (w := w') n 0 7 (by have := HG.out.c4; have := HG.out.sum; omega) (fun _ => by omega) (by omega) hx HGP.out HGQ.out hv)
  rw [hM] at HK1
  simp only [optI, eS] at HK1
  have hAl := mkS_lt HG.out (show (mkS G B n 0 7).1 = some A by rw [hM])
  have HN2 := hid (fun w' (hv : VI G p q cap m w' F B1) => named_nm (w := w') n1 A x hAl.1 (fun e => absurd e hAl.2) hv)
  rw [hC] at HN2
  have HK2 := hid (fun w' (hx' : Box g w' n1) (hv : VI G p q cap m w' F B1) => makeAt_any (w := w') n1 A x hAl.1 (fun e => absurd e hAl.2) (by omega) hx' HGP.out HGQ.out hv)
  rw [hM2] at HK2
  simp only [optI, eS] at HK2
  have hCl := mkS_lt HG.out (show (mkS G B1 n1 A x).1 = some C by rw [hM2])
  have HM := hid (fun w' (hx' : Box g w' n2) (hv : VI G p q cap m w' F B2) => makeAt_any (w := w') n2 C y hCl.1 (fun e => absurd e hCl.2) (by omega) hx' HGP.out HGQ.out hv)
  obtain ⟨r, hr⟩ : ∃ r, r = mkS G B2 n2 C y := ⟨_, rfl⟩
  rw [← hr] at HM ⊢
  clear h h70 h0 hX hgp hgq hml hgl hx hy hi hr hCl hC hAl hM2 hA hM
  obtain ⟨kk1, ll1, zz1, aa1, bb1, cc1, dd1, ee1, ff1, ss1, tt1⟩ := n1
  simp only [Ino.v] at *
  obtain ⟨k, l, z, a0, b0, c0, d0, e0, f0, s0, t0⟩ := n
  obtain ⟨c0', c1', c2', c3', c4', c5', c6', c7', c8', c9', c10'⟩ := HX.out.cells
  go_enter Tryz.func124, Tryz.ntmps124
  go_wp2_with (first
    | (go_at_call 133; refine HK.out.mono ?_; rintro e w1 ⟨rfl, hb1⟩; have HB1 := hid hb1; clear hb1)
    | (go_at_call 154; refine (HWy.out _).mono ?_; rintro e w2 ⟨rfl, hb2⟩; have HB2 := hid (HB1.out.next hb2); clear hb2)
    | (go_at_call 155; fail))
  obtain ⟨w3, hw3⟩ : ∃ w3, w3 = w2.alloc (.cells #[.int .i64 7, .int .i64 (x : Int), .int .i64 (y : Int), .int .i64 3] 207) := ⟨_, rfl⟩
  have HRP : Hid (RP G p q cap m g F B w ⟨k, l, z, a0, b0, c0, d0, e0, f0, s0, t0⟩ w2.heap.size 7 (x : Int) (y : Int) 3 w3) := by
    have hs := HB2.out.size
    have hl := HLT.out
    rw [hw3]
    exact ⟨(HV.out.below HB2.out).below (below_alloc _ _), (HX.out.below HB2.out).below (below_alloc _ _), box_at _ _, by omega, by omega, Only.of_below (HB2.out.next (below_alloc _ _))⟩
  rw [← hw3]
  clear hw3 c0' c1' c2' c3' c4' c5' c6' c7' c8' c9' c10'
  refine (naming3 _ HRP.out.y).mono ?_
  rintro e w4 ⟨rfl, hd4⟩
  have HR := hid (HRP.out.drew hd4)
  clear hd4 HRP HV HX HB1 HB2 HK HWy HLT
  obtain ⟨Y, hY⟩ : ∃ Y, Y = w2.heap.size := ⟨_, rfl⟩
  rw [← hY] at HR ⊢
  clear hY
  go_wp2
  refine wp_loop_rounds 3 ?_
  rw [rounds_succ]
  obtain ⟨y0, y1, y2, y3⟩ := HR.out.y.cells
  go_wp2_with (go_at_call 156; fail)
  obtain ⟨wa1, hw5⟩ : ∃ w5, w5 = w4.alloc (.cells #[.int .i64 0, .int .i64 7] 211) := ⟨_, rfl⟩
  have HRA1 : Hid (RP G p q cap m g F B w ⟨k, l, z, a0, b0, c0, d0, e0, f0, s0, t0⟩ Y 7 (x : Int) (y : Int) 3 wa1) := by rw [hw5]; exact HR.out.below (below_alloc _ _)
  have HSA1 : Hid (Spt w4.heap.size wa1 0 7) := by rw [hw5]; exact box_at _ _
  rw [← hw5]
  clear hw5 y0 y1 y2 y3
  have hc5 : ∀ w', Box g w' ⟨k, l, z, a0, b0, c0, d0, e0, f0, s0, t0⟩ → Spt w4.heap.size w' 0 7 → (w'.cell? ⟨g, 0, none⟩ = some (.int .i64 k) ∧ w'.cell? ⟨g, 1, none⟩ = some (.int .i64 l) ∧ w'.cell? ⟨g, 2, none⟩ = some (.int .i64 z) ∧ w'.cell? ⟨g, 3, none⟩ = some (.int .i64 a0) ∧ w'.cell? ⟨g, 4, none⟩ = some (.int .i64 b0) ∧ w'.cell? ⟨g, 5, none⟩ = some (.int .i64 c0) ∧ w'.cell? ⟨g, 6, none⟩ = some (.int .i64 d0) ∧ w'.cell? ⟨g, 7, none⟩ = some (.int .i64 e0) ∧ w'.cell? ⟨g, 8, none⟩ = some (.int .i64 f0) ∧ w'.cell? ⟨g, 9, none⟩ = some (.int .i64 s0) ∧ w'.cell? ⟨g, 10, none⟩ = some (.int .i64 t0) ∧ w'.cell? ⟨w4.heap.size, 0, none⟩ = some (.int .i64 0) ∧ w'.cell? ⟨w4.heap.size, 1, none⟩ = some (.int .i64 7)) := fun w' hb hs => by
    obtain ⟨x0, x1, x2, x3, x4, x5, x6, x7, x8, x9, x10⟩ := hb.cells
    obtain ⟨z0, z1⟩ := hs.cells
    exact ⟨x0, x1, x2, x3, x4, x5, x6, x7, x8, x9, x10, z0, z1⟩
  have HC5 := hid hc5
  replace hc5 := hc5 _ HRA1.out.x HSA1.out
  go_region_held3 (fun w' => w'.cell? ⟨g, 0, none⟩ = some (.int .i64 k) ∧ w'.cell? ⟨g, 1, none⟩ = some (.int .i64 l) ∧ w'.cell? ⟨g, 2, none⟩ = some (.int .i64 z) ∧ w'.cell? ⟨g, 3, none⟩ = some (.int .i64 a0) ∧ w'.cell? ⟨g, 4, none⟩ = some (.int .i64 b0) ∧ w'.cell? ⟨g, 5, none⟩ = some (.int .i64 c0) ∧ w'.cell? ⟨g, 6, none⟩ = some (.int .i64 d0) ∧ w'.cell? ⟨g, 7, none⟩ = some (.int .i64 e0) ∧ w'.cell? ⟨g, 8, none⟩ = some (.int .i64 f0) ∧ w'.cell? ⟨g, 9, none⟩ = some (.int .i64 s0) ∧ w'.cell? ⟨g, 10, none⟩ = some (.int .i64 t0) ∧ w'.cell? ⟨w4.heap.size, 0, none⟩ = some (.int .i64 0) ∧ w'.cell? ⟨w4.heap.size, 1, none⟩ = some (.int .i64 7)) (first | exact hc5 | exact hc6 | go_keep) (first
    | (go_at_call 156; refine (HN1.out _ (by exact HRA1.out.v.below ⟨rfl, rfl, rfl, Nat.le_refl _, fun _ _ => rfl⟩)).mono ?_; rintro e wb1 ⟨rfl, hb6⟩
       have HB6 : Hid (Below wa1.heap.size wa1 wb1) := hid ⟨hb6.os, hb6.tape, hb6.output, hb6.size, hb6.block⟩
       have HRB1 := hid (HRA1.out.below HB6.out)
       have hc6 := HC5.out _ HRB1.out.x (HSA1.out.below HB6.out)
       clear hb6 HB6))
  obtain ⟨x0, x1, x2, x3, x4, x5, x6, x7, x8, x9, x10, z0, z1⟩ := hc6
  clear x0 x1 x2 x3 x4 x5 x6 x7 x8 x9 x10 hc5 HC5 HN1
  go_wp2_with (first
    | (go_at_call 157; refine (HK1.out _ (by exact HRB1.out.x.below ⟨rfl, rfl, rfl, Nat.le_refl _, fun _ _ => rfl⟩) (by exact HRB1.out.v.below ⟨rfl, rfl, rfl, Nat.le_refl _, fun _ _ => rfl⟩)).mono ?_; rintro e wc1 ⟨rfl, hv7, hx7, ho7⟩
       have HRC1 := hid (HRB1.out.step hv7 hx7 ⟨ho7.os, ho7.tape, ho7.output, ho7.size, ho7.block⟩)
       clear hv7 hx7 ho7 z0 z1))
  rw [rounds_succ]
  obtain ⟨y0, y1, y2, y3⟩ := HRC1.out.y.cells
  go_wp2_with (go_at_call 156; fail)
  obtain ⟨wa2, hw5⟩ : ∃ w5, w5 = wc1.alloc (.cells #[.int .i64 (A : Int), .int .i64 (x : Int)] 211) := ⟨_, rfl⟩
  have HRA2 : Hid (RP G p q cap m g F B1 w ⟨kk1, ll1, zz1, aa1, bb1, cc1, dd1, ee1, ff1, ss1, tt1⟩ Y 7 (x : Int) (y : Int) 3 wa2) := by rw [hw5]; exact HRC1.out.below (below_alloc _ _)
  have HSA2 : Hid (Spt wc1.heap.size wa2 (A : Int) (x : Int)) := by rw [hw5]; exact box_at _ _
  rw [← hw5]
  clear hw5 y0 y1 y2 y3
  have hc5 : ∀ w', Box g w' ⟨kk1, ll1, zz1, aa1, bb1, cc1, dd1, ee1, ff1, ss1, tt1⟩ → Spt wc1.heap.size w' (A : Int) (x : Int) → (w'.cell? ⟨g, 0, none⟩ = some (.int .i64 kk1) ∧ w'.cell? ⟨g, 1, none⟩ = some (.int .i64 ll1) ∧ w'.cell? ⟨g, 2, none⟩ = some (.int .i64 zz1) ∧ w'.cell? ⟨g, 3, none⟩ = some (.int .i64 aa1) ∧ w'.cell? ⟨g, 4, none⟩ = some (.int .i64 bb1) ∧ w'.cell? ⟨g, 5, none⟩ = some (.int .i64 cc1) ∧ w'.cell? ⟨g, 6, none⟩ = some (.int .i64 dd1) ∧ w'.cell? ⟨g, 7, none⟩ = some (.int .i64 ee1) ∧ w'.cell? ⟨g, 8, none⟩ = some (.int .i64 ff1) ∧ w'.cell? ⟨g, 9, none⟩ = some (.int .i64 ss1) ∧ w'.cell? ⟨g, 10, none⟩ = some (.int .i64 tt1) ∧ w'.cell? ⟨wc1.heap.size, 0, none⟩ = some (.int .i64 (A : Int)) ∧ w'.cell? ⟨wc1.heap.size, 1, none⟩ = some (.int .i64 (x : Int))) := fun w' hb hs => by
    obtain ⟨x0, x1, x2, x3, x4, x5, x6, x7, x8, x9, x10⟩ := hb.cells
    obtain ⟨z0, z1⟩ := hs.cells
    exact ⟨x0, x1, x2, x3, x4, x5, x6, x7, x8, x9, x10, z0, z1⟩
  have HC5 := hid hc5
  replace hc5 := hc5 _ HRA2.out.x HSA2.out
  go_region_held3 (fun w' => w'.cell? ⟨g, 0, none⟩ = some (.int .i64 kk1) ∧ w'.cell? ⟨g, 1, none⟩ = some (.int .i64 ll1) ∧ w'.cell? ⟨g, 2, none⟩ = some (.int .i64 zz1) ∧ w'.cell? ⟨g, 3, none⟩ = some (.int .i64 aa1) ∧ w'.cell? ⟨g, 4, none⟩ = some (.int .i64 bb1) ∧ w'.cell? ⟨g, 5, none⟩ = some (.int .i64 cc1) ∧ w'.cell? ⟨g, 6, none⟩ = some (.int .i64 dd1) ∧ w'.cell? ⟨g, 7, none⟩ = some (.int .i64 ee1) ∧ w'.cell? ⟨g, 8, none⟩ = some (.int .i64 ff1) ∧ w'.cell? ⟨g, 9, none⟩ = some (.int .i64 ss1) ∧ w'.cell? ⟨g, 10, none⟩ = some (.int .i64 tt1) ∧ w'.cell? ⟨wc1.heap.size, 0, none⟩ = some (.int .i64 (A : Int)) ∧ w'.cell? ⟨wc1.heap.size, 1, none⟩ = some (.int .i64 (x : Int))) (first | exact hc5 | exact hc6 | go_keep) (first
    | (go_at_call 156; refine (HN2.out _ (by exact HRA2.out.v.below ⟨rfl, rfl, rfl, Nat.le_refl _, fun _ _ => rfl⟩)).mono ?_; rintro e wb2 ⟨rfl, hb6⟩
       have HB6 : Hid (Below wa2.heap.size wa2 wb2) := hid ⟨hb6.os, hb6.tape, hb6.output, hb6.size, hb6.block⟩
       have HRB2 := hid (HRA2.out.below HB6.out)
       have hc6 := HC5.out _ HRB2.out.x (HSA2.out.below HB6.out)
       clear hb6 HB6))
  obtain ⟨x0, x1, x2, x3, x4, x5, x6, x7, x8, x9, x10, z0, z1⟩ := hc6
  clear x0 x1 x2 x3 x4 x5 x6 x7 x8 x9 x10 hc5 HC5 HN2
  go_wp2_with (first
    | (go_at_call 157; refine (HK2.out _ (by exact HRB2.out.x.below ⟨rfl, rfl, rfl, Nat.le_refl _, fun _ _ => rfl⟩) (by exact HRB2.out.v.below ⟨rfl, rfl, rfl, Nat.le_refl _, fun _ _ => rfl⟩)).mono ?_; rintro e wc2 ⟨rfl, hv7, hx7, ho7⟩
       have HRC2 := hid (HRB2.out.step hv7 hx7 ⟨ho7.os, ho7.tape, ho7.output, ho7.size, ho7.block⟩)
       clear hv7 hx7 ho7 z0 z1))
  rw [rounds_succ]
  go_wp2_with (first
    | (go_at_call 158; refine (last3 _ HRC2.out.y).mono ?_; rintro e w9 ⟨rfl, hd9⟩
       have HRL := hid (HRC2.out.drew hd9)
       clear hd9)
    | (go_at_call 157; refine (HM.out _ HRL.out.x HRL.out.v).mono ?_; rintro e w10 ⟨rfl, hv10, hx10, ho10⟩
       have HZ := hid (HRL.out.step hv10 hx10 ho10)
       clear hv10 hx10 ho10))
  go_ret2
  exact ⟨rfl, HZ.out.v, HZ.out.x, HZ.out.o⟩
end Go.Proofs.YtokjlgebkihimaaGreat
namespace Go.Proofs.YtokjlgebkihimaaGreat
open Go.RowKit Go.Maps

set_option maxRecDepth 100000 in
theorem reach_any {G : Geo} {p q cap m g : Nat} {w : World} {F B : List ByteArray} (n : Ino) (i : Nat) (hi : i < 4166) (hX : Box g w n) (hgp : g ≠ p) (hgq : g ≠ q) (h : VI G p q cap m w F B) : Calls Tryz.prog 124 #[.pointer (some ⟨p, 0, none⟩), .pointer (some ⟨g, 0, none⟩), .int .i64 (i : Int)] w fun e w' => e = .returned (.tuple #[.int .i64 (optI (rchS G B n i).1), .int .i64 (eS (rchS G B n i).1)]) ∧ VI G p q cap m w' F (rchS G B n i).2.1 ∧ Box g w' (rchS G B n i).2.2 ∧ Only [g, m] w w' := by
  unfold rchS
  by_cases h0 : blk G B n i = 0
  · rw [if_pos h0]
    by_cases h6 : i < 6
    · rw [if_pos h6]
      exact reach0 n i h6 h0 hX hgp hgq h
    · rw [if_neg h6]
      by_cases h70 : i < 70
      · rw [if_pos h70]
        by_cases hA : nm G B n 0 6 = 0
        · have e : stS G B n 0 6 = mkS G B n 0 6 := by unfold stS; rw [if_pos hA]
          rw [e]
          cases hm : mkS G B n 0 6 with
          | mk o r =>
            obtain ⟨B1, n1⟩ := r
            cases o with
            | none => exact reach1_none n i h6 h70 hA B1 n1 hm h0 hX hgp hgq h
            | some b => exact reach1_made n i h6 h70 hA b B1 n1 hm h0 hX hgp hgq h
        · have e : stS G B n 0 6 = (some (nm G B n 0 6), B, n) := by unfold stS; rw [if_neg hA]
          rw [e]
          exact reach1_hit n i h6 h70 _ rfl hA h0 hX hgp hgq h
      · rw [if_neg h70]
        by_cases hA : nm G B n 0 7 = 0
        · have e : stS G B n 0 7 = mkS G B n 0 7 := by unfold stS; rw [if_pos hA]
          rw [e]
          cases hm : mkS G B n 0 7 with
          | mk o r =>
            obtain ⟨B1, n1⟩ := r
            cases o with
            | none => exact reach2_none n i hi h70 hA B1 n1 hm h0 hX hgp hgq h
            | some b =>
              dsimp only
              by_cases hC : nm G B1 n1 b ((i - 70) / 64) = 0
              · have e : stS G B1 n1 b ((i - 70) / 64) = mkS G B1 n1 b ((i - 70) / 64) := by unfold stS; rw [if_pos hC]
                rw [e]
                cases hm2 : mkS G B1 n1 b ((i - 70) / 64) with
                | mk o2 r2 =>
                  obtain ⟨B2, n2⟩ := r2
                  cases o2 with
                  | none => exact reach2_made_none n i hi h70 hA b B1 n1 hm hC B2 n2 hm2 h0 hX hgp hgq h
                  | some c => exact reach2_made_made n i hi h70 hA b B1 n1 hm hC c B2 n2 hm2 h0 hX hgp hgq h
              · have e : stS G B1 n1 b ((i - 70) / 64) = (some (nm G B1 n1 b ((i - 70) / 64)), B1, n1) := by unfold stS; rw [if_neg hC]
                rw [e]
                exact reach2_made_hit n i hi h70 hA b B1 n1 hm _ rfl hC h0 hX hgp hgq h
        · have e : stS G B n 0 7 = (some (nm G B n 0 7), B, n) := by unfold stS; rw [if_neg hA]
          rw [e]
          dsimp only
          by_cases hC : nm G B n (nm G B n 0 7) ((i - 70) / 64) = 0
          · have e : stS G B n (nm G B n 0 7) ((i - 70) / 64) = mkS G B n (nm G B n 0 7) ((i - 70) / 64) := by unfold stS; rw [if_pos hC]
            rw [e]
            cases hm2 : mkS G B n (nm G B n 0 7) ((i - 70) / 64) with
            | mk o2 r2 =>
              obtain ⟨B2, n2⟩ := r2
              cases o2 with
              | none => exact reach2_hit_none n i hi h70 _ rfl hA hC B2 n2 hm2 h0 hX hgp hgq h
              | some c => exact reach2_hit_made n i hi h70 _ rfl hA hC c B2 n2 hm2 h0 hX hgp hgq h
          · have e : stS G B n (nm G B n 0 7) ((i - 70) / 64) = (some (nm G B n (nm G B n 0 7) ((i - 70) / 64)), B, n) := by unfold stS; rw [if_neg hC]
            rw [e]
            exact reach2_hit_hit n i hi h70 _ rfl hA _ rfl hC h0 hX hgp hgq h
  · rw [if_neg h0]
    exact (reach_hit n i hi h0 hX h).mono fun x w' ⟨a, b⟩ => ⟨a, h.below b, hX.below b, Only.of_below b⟩
end Go.Proofs.YtokjlgebkihimaaGreat
namespace Go.Proofs.YtokjlgebkihimaaGreat
open Go.RowKit Go.Maps

/-- bytes laid over a row from a place on -/
def ovl : List UInt8 → Nat → List UInt8 → List UInt8
  | l, _, [] => l
  | l, o, b :: bs => ovl (l.set o b) (o + 1) bs
set_option maxRecDepth 100000 in
theorem ovl_len : ∀ (bs l : List UInt8) (o : Nat), (ovl l o bs).length = l.length
  | [], _, _ => rfl
  | b :: bs, l, o => by unfold ovl; rw [ovl_len bs]; simp
set_option maxRecDepth 100000 in
theorem BIs.over : ∀ (bs : List UInt8) {g : Nat} {w : World} {l : List UInt8} (o : Nat), BIs g w l → BIs g (w.setCells g o (bc bs)) (ovl l o bs)
  | [], _, _, _, _, h => h
  | b :: bs, g, w, l, o, h => by
    show BIs g ((w.setCell ⟨g, o, none⟩ (.int .u8 (b.toNat : Int))).setCells g (o + 1) (bc bs)) (ovl (l.set o b) (o + 1) bs)
    exact BIs.over bs (o + 1) (h.set o b _ rfl)
set_option maxRecDepth 100000 in
theorem setCells_kept : ∀ (vs : List Value) (w : World) (g o : Nat), Kept w.heap.size g w (w.setCells g o vs)
  | [], w, g, _ => Kept.refl _ _ _
  | v :: vs, w, g, o => by
    have h1 := kept_set w g o v
    have h2 := setCells_kept vs (w.setCell ⟨g, o, none⟩ v) g (o + 1)
    refine h1.trans ⟨h2.os, h2.tape, h2.output, h2.size, fun k hk => h2.block k (Nat.lt_of_lt_of_le hk h1.size)⟩
set_option maxRecDepth 100000 in
theorem copy_run {g : Nat} {w : World} {l : List UInt8} (h : BIs g w l) (o : Nat) (ho : o ≤ l.length) (s : ByteArray) (cap : Nat) (ty : TypeId) :
    (Builtin.copy_ #[125, 9] ty #[.slice (some ⟨g, o, none⟩) (l.length - o) cap, .string s]).run Tryz.prog w = .ok (.int .i64 ((min s.size (l.length - o) : Nat) : Int)) (w.setCells g o (bc (s.data.toList.take (min s.size (l.length - o))))) := by
  obtain ⟨i0, hi, hz0, hz1, hz2⟩ := info_parts Tryz.info5
  have hmin : Nat.min s.size (l.length - o) = min s.size (l.length - o) := rfl
  have hl : (bc (s.data.toList.take (min s.size (l.length - o)))).length = min s.size (l.length - o) := by rw [bc_len, List.length_take, len_list]; omega
  have hst := run_storeCells_cells (P := Tryz.prog) g o (bc (s.data.toList.take (min s.size (l.length - o)))) 0 w (fun j hj => by
      rw [hl] at hj
      rw [Nat.add_zero, h.get (o + j) (by omega)]
      rfl) (fun j hj => by
      rw [hl] at hj
      rw [Nat.add_zero]
      exact h.free (o + j) (by omega)) (by
      intro v hv
      obtain ⟨x, _, rfl⟩ := List.mem_map.1 hv
      rfl)
  have e : List.take (min s.size (l.length - o)) (List.map (fun x : UInt8 => Value.int .u8 (x.toNat : Int)) s.data.toList) = bc (s.data.toList.take (min s.size (l.length - o))) := by
    unfold bc
    rw [List.map_take]
  simp [Builtin.copy_, run_underlying Tryz.underlying125, Builtin.lenOf, Builtin.firstCells, sizeOf, typeInfo, hi, hmin]
  rw [e, hst]
  simp [Result.andThen, goInt]
/-- what 'lay' comes to -/
def layS (G : Geo) : Nat → List ByteArray → Ino → Nat → List UInt8 → Int × List ByteArray × Ino
  | 0, B, n, _, _ => (0, B, n)
  | f + 1, B, n, x, d => if d.length = 0 then (0, B, n) else match rchS G B n (x / 128) with
    | (none, B1, n1) => (306, B1, n1)
    | (some b, B1, n1) => layS G f (B1.set b (st (ovl (bk B1 b).data.toList (x % 128) (d.take (min d.length (128 - x % 128)))))) n1 (x + min d.length (128 - x % 128)) (d.drop (min d.length (128 - x % 128)))
end Go.Proofs.YtokjlgebkihimaaGreat
namespace Go.Proofs.YtokjlgebkihimaaGreat
open Go.RowKit Go.Maps

def strSz (v : Value) : Nat := match v with | .string s => s.size | _ => 0
set_option maxRecDepth 100000 in
theorem rchS_lt {G : Geo} (hG : G.Ok) {B : List ByteArray} {n : Ino} {i b : Nat} (h : (rchS G B n i).1 = some b) : b < G.n ∧ b ≠ 0 := by
  unfold rchS at h
  split at h
  · split at h
    · exact mkS_lt hG h
    · split at h
      · split at h
        · cases h
        · exact mkS_lt hG h
      · split at h
        · cases h
        · split at h
          · cases h
          · exact mkS_lt hG h
  · rename_i h0
    cases h
    exact ⟨blk_lt hG _ _ _, h0⟩
set_option maxRecDepth 100000 in
theorem st_ext (s : ByteArray) (k : Nat) : (s.extract k s.size).data.toList = s.data.toList.drop k := by
  rw [ext_list, List.take_of_length_le (by rw [len_list]; exact Nat.le_refl _)]
set_option maxRecDepth 100000 in
theorem layS_done {G : Geo} {f : Nat} {B : List ByteArray} {n : Ino} {x : Nat} {d : List UInt8} (h : d.length = 0) : layS G f B n x d = (0, B, n) := by
  cases f with
  | zero => rfl
  | succ f => unfold layS; rw [if_pos h]
set_option maxRecDepth 100000 in
theorem layS_fail {G : Geo} {f : Nat} {B B1 : List ByteArray} {n n1 : Ino} {x : Nat} {d : List UInt8} (h : d.length ≠ 0) (hr : rchS G B n (x / 128) = (none, B1, n1)) : layS G (f + 1) B n x d = (306, B1, n1) := by
  unfold layS
  rw [if_neg h, hr]
set_option maxRecDepth 100000 in
theorem layS_next {G : Geo} {f : Nat} {B B1 : List ByteArray} {n n1 : Ino} {x b : Nat} {d : List UInt8} (h : d.length ≠ 0) (hr : rchS G B n (x / 128) = (some b, B1, n1)) : layS G (f + 1) B n x d = layS G f (B1.set b (st (ovl (bk B1 b).data.toList (x % 128) (d.take (min d.length (128 - x % 128)))))) n1 (x + min d.length (128 - x % 128)) (d.drop (min d.length (128 - x % 128))) := by
  rw [layS, if_neg h, hr]
set_option maxRecDepth 100000 in
theorem bytes_new2 (w : World) (s : ByteArray) : ∃ cap wc, s.size ≤ cap ∧ (convert 9 125 (.string s)).run Tryz.prog w = .ok (.slice (some ⟨w.heap.size, 0, none⟩) s.size cap) wc ∧ BIs w.heap.size wc s.data.toList ∧ Below w.heap.size w wc := by
  refine ⟨_, _, ?_, Lib.run_convert_string_bytes w 9 125 5 s Tryz.underlying9 Tryz.underlying125 Tryz.underlying5, ⟨_, _, Lib.bytesWorld_at_new w 5 s, ?_, ?_⟩, ⟨?_, ?_, ?_, ?_, ?_⟩⟩
  · exact grownCap_ge _ _ _ _
  · simp [Lib.bytesCells]
  · simp [Lib.bytesCells, bc]
  · rfl
  · rfl
  · rfl
  · rw [Lib.bytesWorld_size]; omega
  · intro k hk; exact Lib.bytesWorld_at_old w 5 s k hk
/-- what 'lay' comes to, all in all -/
def layR (G : Geo) (B : List ByteArray) (n : Ino) (x : Nat) (d : ByteArray) : Int × List ByteArray × Ino := layS G d.size B { n with z := max n.z ((x : Int) + d.size) } x d.data.toList
set_option maxRecDepth 100000 in
set_option maxHeartbeats 1000000 in
theorem lay_any {G : Geo} {p q cap m g : Nat} {w : World} {F B : List ByteArray} (n : Ino) (x : Nat) (d : ByteArray) (hxd : x + d.size ≤ 533248) (hz : 0 ≤ n.z ∧ n.z ≤ 533248) (hX : Box g w n) (hgp : g ≠ p) (hgq : g ≠ q) (h : VI G p q cap m w F B) :
    Calls Tryz.prog 96 #[.pointer (some ⟨p, 0, none⟩), .pointer (some ⟨g, 0, none⟩), .int .i64 (x : Int), .string d] w fun e w' => e = .returned (.int .i64 (layR G B n x d).1) ∧ VI G p q cap m w' F (layR G B n x d).2.1 ∧ Box g w' (layR G B n x d).2.2 ∧ Only [g, m] w w' := by
  obtain ⟨R, hR⟩ : ∃ R, R = layR G B n x d := ⟨_, rfl⟩
  rw [← hR]
  unfold layR at hR
  have HRes : Hid (R = layS G d.size B { n with z := max n.z ((x : Int) + d.size) } x d.data.toList) := hid hR
  have HG := hid h.ok
  have HGP := hid hgp
  have HGQ := hid hgq
  have HGM := hid (h.gm hX)
  obtain ⟨k, l, z, a0, b0, c0, d0, e0, f0, s0, t0⟩ := n
  simp only at HRes hz
  have hwr : IntKind.i64.wrap ((x : Int) + (d.size : Int)) = (x : Int) + (d.size : Int) := by rw [IntKind.wrap_i64]; omega
  have c2 : w.cell? ⟨g, 2, none⟩ = some (.int .i64 z) := hX.cells.2.2.1
  have f2 := hX.free 2
  obtain ⟨M, hM, hcase⟩ : ∃ M, M = max z ((x : Int) + (d.size : Int)) ∧ ((M = z ∧ (x : Int) + (d.size : Int) ≤ z) ∨ (M = (x : Int) + (d.size : Int) ∧ ¬ (x : Int) + (d.size : Int) ≤ z)) := by
    refine ⟨_, rfl, ?_⟩
    by_cases hle : (x : Int) + (d.size : Int) ≤ z
    · exact .inl ⟨Int.max_eq_left hle, hle⟩
    · exact .inr ⟨Int.max_eq_right (by omega), hle⟩
  rw [← hM] at HRes
  have HX1 := hid (hX.set2 M)
  have HV1 : Hid (VI G p q cap m (w.setCell ⟨g, 2, none⟩ (.int .i64 M)) F B) := hid (h.same (set_off _ _ (Ne.symm hgp)) (set_off _ _ (Ne.symm hgq)) (set_off _ _ (Ne.symm HGM.out)))
  have HO1 : Hid (Only [g, m] w (w.setCell ⟨g, 2, none⟩ (.int .i64 M))) := hid (Only.setCell _ (by simp))
  have HXD := hid hxd
  clear hR h hX hgp hgq hz hxd hM
  rcases hcase with ⟨hMz, hle⟩ | ⟨hMz, hle⟩
  all_goals
    subst hMz
    go_enter Tryz.func96, Tryz.ntmps96
    go_wp2
    clear c2 f2 hwr hle
    go_loopw [2, 3] (fun xv dv wr => ∃ (f x' : Nat) (d' : ByteArray) (B' : List ByteArray) (n' : Ino), xv = .int .i64 (x' : Int) ∧ dv = .string d' ∧ d'.size ≤ f ∧ x' + d'.size ≤ 533248 ∧ R = layS G f B' n' x' d'.data.toList ∧ VI G p q cap m wr F B' ∧ Box g wr n' ∧ Only [g, m] w wr) (fun _ dv _ => strSz dv)
    case atStart => exact ⟨d.size, x, d, B, _, rfl, rfl, Nat.le_refl _, HXD.out, HRes.out, HV1.out, HX1.out, HO1.out⟩
    case round =>
      clear HRes HX1 HV1 HO1 HXD
      obtain ⟨f, x', d', B', n', rfl, rfl, hf, hxd, hR, hV, hX, hO⟩ := hrel
      have HV := hid hV
      have HX := hid hX
      have HO := hid hO
      have HRR := hid hR
      clear hV hX hO hR
      by_cases h0 : d'.size = 0
      · have hd : d' = ⟨#[]⟩ := by
          have e : d'.data.toList = [] := List.eq_nil_of_length_eq_zero (by rw [len_list]; exact h0)
          rw [← st_toList d', e]; rfl
        have HE : Hid (R = (0, B', n')) := hid (HRR.out.trans (layS_done (by rw [len_list]; exact h0)))
        subst hd
        clear h0 hf hxd HRR
        go_wp2
        go_ret
        refine ⟨?_, ?_, ?_, HO.out⟩
        · rw [HE.out]; rfl
        · rw [HE.out]; exact HV.out
        · rw [HE.out]; exact HX.out
      · have hne : d'.toList.isEmpty = false := by
          rw [Lib.toList_data, List.isEmpty_eq_false_iff]
          intro e
          exact h0 (by rw [← len_list, e]; rfl)
        obtain ⟨f, rfl⟩ : ∃ f', f = f' + 1 := ⟨f - 1, by omega⟩
        obtain ⟨ix, hix⟩ : ∃ ix, ix = x' / 128 := ⟨_, rfl⟩
        have hq : IntKind.i64.wrap ((x' : Int) / 128) = (ix : Int) := by rw [IntKind.wrap_i64] <;> omega
        have HRC := hid (reach_any n' ix (by omega) HX.out HGP.out HGQ.out HV.out)
        cases hr : rchS G B' n' ix with
        | mk o r =>
          obtain ⟨B1, n1⟩ := r
          rw [hr] at HRC
          cases o with
          | none =>
            simp only [optI, eS] at HRC
            have HE : Hid (R = (306, B1, n1)) := hid (HRR.out.trans (layS_fail (by rw [len_list]; exact h0) (hix ▸ hr)))
            clear hr hix hf hxd h0 HRR
            go_wp2_with (first | (go_at_call 124; refine HRC.out.mono ?_; rintro e w1 ⟨rfl, hv1, hx1, ho1⟩))
            go_ret
            refine ⟨?_, ?_, ?_, HO.out.trans ho1⟩
            · rw [HE.out]; rfl
            · rw [HE.out]; exact hv1
            · rw [HE.out]; exact hx1
          | some b =>
            simp only [optI, eS] at HRC
            have hbl := rchS_lt HG.out (show (rchS G B' n' ix).1 = some b by rw [hr])
            have HE := hid (HRR.out.trans (layS_next (by rw [len_list]; exact h0) (hix ▸ hr)))
            obtain ⟨of, hof⟩ : ∃ of, of = x' % 128 := ⟨_, rfl⟩
            have hm : (x' : Int) % 128 = (of : Int) := by omega
            have hofl : of ≤ 128 := by omega
            rw [← hof] at HE
            have HIX := hid hix
            have HOF := hid hof
            have HBL := hid hbl
            have HF := hid hf
            have HXD := hid hxd
            have H0 := hid h0
            clear hr hix hof hbl hf hxd h0 HRR
            go_wp2_with (first | (go_at_call 124; refine HRC.out.mono ?_; rintro e w1 ⟨rfl, hv1, hx1, ho1⟩) | (go_at_call 89; fail))
            have hsz := hv1.size b HBL.out.1
            refine (block_any b HBL.out.1 hv1).mono ?_
            rintro e w2 ⟨rfl, hb2⟩
            obtain ⟨cp, wc, hcl, hcv, hBI, hBc⟩ := bytes_new2 w2 (bk B1 b)
            rw [hsz] at hcv hcl
            have hbs : (bk B1 b).data.toList.length = 128 := by rw [len_list]; exact hsz
            have hcy := copy_run hBI of (by omega) d' (cp - of) 3
            rw [hbs] at hcy
            obtain ⟨wd, hwd⟩ : ∃ wd, wd = wc.setCells w2.heap.size of (bc (d'.data.toList.take (min d'.size (128 - of)))) := ⟨_, rfl⟩
            have hBD : BIs w2.heap.size wd (ovl (bk B1 b).data.toList of (d'.data.toList.take (min d'.size (128 - of)))) := by rw [hwd]; exact BIs.over _ _ hBI
            have hBd : Below w2.heap.size w2 wd := by
              rw [hwd]
              have k := setCells_kept (bc (d'.data.toList.take (min d'.size (128 - of)))) wc w2.heap.size of
              exact hBc.trans ⟨k.os, k.tape, k.output, k.size, fun j hj => k.block j (by have := hBc.size; omega) (by omega)⟩
            rw [← hwd] at hcy
            have hco := hBD.conv cp
            rw [ovl_len, hbs] at hco
            obtain ⟨nb, hnb⟩ : ∃ nb, nb = st (ovl (bk B1 b).data.toList of (d'.data.toList.take (min d'.size (128 - of)))) := ⟨_, rfl⟩
            have hns : nb.size = 128 := by rw [hnb, st_size, ovl_len, hbs]
            rw [len_list] at HE
            rw [← hnb] at hco HE
            obtain ⟨ld, hld⟩ : ∃ ld, ld = min d'.size (128 - of) := ⟨_, rfl⟩
            rw [← hld] at hcy HE
            have hofc : of < cp := by have := HOF.out; omega
            have HVd := hid ((hv1.below hb2).below hBd)
            have HXd := hid ((hx1.below hb2).below hBd)
            have HOd := hid ((HO.out.trans ho1).next (hb2.next hBd))
            have HC := hid (change_any b HBL.out.1 nb hns HVd.out)
            have hld1 : ld ≤ d'.size := by omega
            have hwx : IntKind.i64.wrap ((x' : Int) + (ld : Int)) = ((x' + ld : Nat) : Int) := by have := HXD.out; rw [IntKind.wrap_i64] <;> omega
            have HLD := hid hld
            have HBK := hid hb2
            clear hld hnb hwd hBD hBd hBI hBc hv1 hx1 ho1 hb2 hbs hsz hns hcl HV HX HRC
            go_wp2_with (first | (go_at_call 90; fail))
            refine HC.out.mono ?_
            rintro e w3 ⟨rfl, hv3, ho3⟩
            have HV3 := hid hv3
            have HX3 := hid (HXd.out.only ho3 (by simpa using HGM.out))
            have HO3 := hid (HOd.out.trans (ho3.wide (by simp)))
            clear hv3 ho3 HC HVd HXd HOd hcy hco hcv
            go_wp2
            go_roundw
            case rel =>
              have h0 := H0.out
              have hx0 := HXD.out
              have hf0 := HF.out
              have hl0 := HLD.out
              have ho0 := HOF.out
              refine ⟨f, x' + ld, d'.extract ld d'.size, B1.set b nb, n1, by go_num, rfl, ?_, ?_, ?_, HV3.out, HX3.out, HO3.out⟩
              · simp; omega
              · simp; omega
              · rw [HE.out, st_ext]
            case measure =>
              have h0 := H0.out
              have hl0 := HLD.out
              have ho0 := HOF.out
              simp [strSz]
              omega
end Go.Proofs.YtokjlgebkihimaaGreat
