import Derived.Test.YtjnhibpebikkmaaGreatFl
namespace Go.Proofs.YtjnhibpebikkmaaGreat
open Go.RowKit Go.Maps

set_option maxRecDepth 100000 in
set_option maxHeartbeats 1000000 in
theorem reach_hit {G : Geo} {p q cap m g : Nat} {w : World} {F B : List ByteArray} (n : Ino) (i : Nat) (hi : i < 4166) (h0 : blk G B n i ≠ 0) (hX : Box g w n) (h : VI G p q cap m w F B) : Calls Tryz.prog 53 #[.pointer (some ⟨p, 0, none⟩), .pointer (some ⟨g, 0, none⟩), .int .i64 (i : Int)] w fun e w' => e = .returned (.tuple #[.int .i64 (blk G B n i : Int), .int .i64 0]) ∧ Below w.heap.size w w' := by
  have HK := hid (blockOf_any n i hi h)
  have hr0 : ¬ ((blk G B n i : Int) = 0) := by omega
  obtain ⟨r, hr⟩ : ∃ r, r = blk G B n i := ⟨_, rfl⟩
  rw [← hr] at HK hr0 ⊢
  clear h h0 hi hr
  obtain ⟨k, l, z, a0, b0, c0, d0, e0, f0, s0, t0⟩ := n
  simp only [Ino.v] at HK
  obtain ⟨c0', c1', c2', c3', c4', c5', c6', c7', c8', c9', c10'⟩ := hX.cells
  clear hX
  go_enter Tryz.func53, Tryz.ntmps53
  go_wp2_with (first | (go_at_call 42; refine HK.out.mono ?_; rintro e w1 ⟨rfl, hb1⟩))
  go_ret2
  exact ⟨rfl, hb1⟩
set_option maxRecDepth 100000 in
set_option maxHeartbeats 4000000 in
theorem reach0 {G : Geo} {p q cap m g : Nat} {w : World} {F B : List ByteArray} (n : Ino) (i : Nat) (h6 : i < 6) (h0 : blk G B n i = 0) (hX : Box g w n) (hgp : g ≠ p) (hgq : g ≠ q) (h : VI G p q cap m w F B) : Calls Tryz.prog 53 #[.pointer (some ⟨p, 0, none⟩), .pointer (some ⟨g, 0, none⟩), .int .i64 (i : Int)] w fun e w' => e = .returned (.tuple #[.int .i64 (optI (mkS G B n 0 i).1), .int .i64 (eS (mkS G B n 0 i).1)]) ∧ VI G p q cap m w' F (mkS G B n 0 i).2.1 ∧ Box g w' (mkS G B n 0 i).2.2 ∧ Only [g, m] w w' := by
  have HV := hid h
  have HG := hid h.ok
  have HX := hid hX
  have HGP := hid hgp
  have HGQ := hid hgq
  have HGM := hid (h.gm hX)
  have hml := h.ml
  have hgl := lt_of_block hX
  have HLT : Hid (g < w.heap.size ∧ m < w.heap.size) := hid ⟨hgl, hml⟩
  have HK := hid (blockOf_any n i (by omega) h)
  rw [h0] at HK
  have HWy := hid (wayTo_any i (by omega))
  unfold wayV at HWy
  rw [if_pos h6] at HWy
  have HM := hid (fun w' (hx : Box g w' n) (hv : VI G p q cap m w' F B) => makeAt_any (w := w') n 0 i (by have := HG.out.c4; have := HG.out.sum; omega) (fun _ => by omega) (by omega) hx HGP.out HGQ.out hv)
  obtain ⟨r, hr⟩ : ∃ r, r = mkS G B n 0 i := ⟨_, rfl⟩
  rw [← hr] at HM ⊢
  clear h h6 h0 hX hgp hgq hml hgl hr
  obtain ⟨k, l, z, a0, b0, c0, d0, e0, f0, s0, t0⟩ := n
  simp only [Ino.v, Int.natCast_zero] at *
  obtain ⟨c0', c1', c2', c3', c4', c5', c6', c7', c8', c9', c10'⟩ := HX.out.cells
  go_enter Tryz.func53, Tryz.ntmps53
  go_wp2_with (first
    | (go_at_call 42; refine HK.out.mono ?_; rintro e w1 ⟨rfl, hb1⟩; have HB1 := hid hb1; clear hb1)
    | (go_at_call 75; refine (HWy.out _).mono ?_; rintro e w2 ⟨rfl, hb2⟩; have HB2 := hid (HB1.out.next hb2); clear hb2)
    | (go_at_call 76; fail))
  obtain ⟨w3, hw3⟩ : ∃ w3, w3 = w2.alloc (.cells #[.int .i64 (i : Int), .int .i64 0, .int .i64 0, .int .i64 1] 132) := ⟨_, rfl⟩
  have HRP : Hid (RP G p q cap m g F B w ⟨k, l, z, a0, b0, c0, d0, e0, f0, s0, t0⟩ w2.heap.size (i : Int) 0 0 1 w3) := by
    have hs := HB2.out.size
    have hl := HLT.out
    rw [hw3]
    exact ⟨(HV.out.below HB2.out).below (below_alloc _ _), (HX.out.below HB2.out).below (below_alloc _ _), box_at _ _, by omega, by omega, Only.of_below (HB2.out.next (below_alloc _ _))⟩
  rw [← hw3]
  clear hw3 c0' c1' c2' c3' c4' c5' c6' c7' c8' c9' c10'
  refine (naming1 _ HRP.out.y).mono ?_
  rintro e w4 ⟨rfl, hd4⟩
  have HR := hid (HRP.out.drew hd4)
  clear hd4 HRP HV HX HB1 HB2 HK HWy HLT
  obtain ⟨Y, hY⟩ : ∃ Y, Y = w2.heap.size := ⟨_, rfl⟩
  rw [← hY] at HR ⊢
  clear hY
  go_wp2
  refine wp_loop_rounds 1 ?_
  rw [rounds_succ]
  go_wp2_with (first
    | (go_at_call 78; refine (last1 _ HR.out.y).mono ?_; rintro e w9 ⟨rfl, hd9⟩
       have HRL := hid (HR.out.drew hd9)
       clear hd9)
    | (go_at_call 77; refine (HM.out _ HRL.out.x HRL.out.v).mono ?_; rintro e w10 ⟨rfl, hv10, hx10, ho10⟩
       have HZ := hid (HRL.out.step hv10 hx10 ho10)
       clear hv10 hx10 ho10))
  go_ret2
  exact ⟨rfl, HZ.out.v, HZ.out.x, HZ.out.o⟩
end Go.Proofs.YtjnhibpebikkmaaGreat
