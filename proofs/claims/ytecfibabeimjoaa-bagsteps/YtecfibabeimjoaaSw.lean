import Derived.Test.YtecfibabeimjoaaRi
import Derived.Deep.DeepCutAuto
import Derived.Deep.CutBlock
namespace Go.Proofs.Ytecfibabeimjoaa
open Go.RowKit Go.Maps Go.Sort Go.Shelf
/-- both bags and a variable: the bag has L', the reference's has L -/
structure ST (W : World) (g b B1 gr x : Nat) (o : Obj) (w : World) (N : Nat) (n : Int) (v : Value) (L' L : List Msg) : Prop where
  bag : Bag W.heap.size g b w N n L'
  ref : RB B1 gr w n v L
  box : w.heap[x]? = some o
  bel : Below W.heap.size W w
  g1 : g < B1
  b1 : b < B1
  ng : gr ≠ g
  nb : gr ≠ b
  gW : W.heap.size ≤ g
  bW : W.heap.size ≤ b
  rW : W.heap.size ≤ gr
  xg : x ≠ g
  xb : x ≠ b
  xr : x ≠ gr
variable {W : World} {g b B1 gr x : Nat} {o : Obj} {w w' : World} {N N' : Nat} {n : Int} {v v' : Value} {L L' L'' : List Msg}
theorem ST.stepB (h : ST W g b B1 gr x o w N n v L' L) (hB : Bag W.heap.size g b w' N' n L'') (k : Only [g, b] w w') : ST W g b B1 gr x o w' N' n v L'' L :=
  ⟨hB, h.ref.other k (by simp; exact ⟨h.ng, h.nb⟩) (by intro y hy; simp at hy; rcases hy with rfl | rfl; exact h.g1; exact h.b1), (k.block x (lt_of_block h.box) (by simp; exact ⟨h.xg, h.xb⟩)).trans h.box,
    h.bel.trans (k.below h.bel.size (by intro y hy; simp at hy; rcases hy with rfl | rfl; exact h.gW; exact h.bW)), h.g1, h.b1, h.ng, h.nb, h.gW, h.bW, h.rW, h.xg, h.xb, h.xr⟩
theorem ST.stepR (h : ST W g b B1 gr x o w N n v L' L) (hR : RB B1 gr w' n v' L'') (k : Only [gr] w w') : ST W g b B1 gr x o w' N n v' L' L'' :=
  ⟨h.bag.other k (by simp; exact h.ng.symm) (by simp; exact h.nb.symm), hR, (k.block x (lt_of_block h.box) (by simp; exact h.xr)).trans h.box,
    h.bel.trans (k.below h.bel.size (by intro y hy; simp at hy; subst hy; exact h.rW)), h.g1, h.b1, h.ng, h.nb, h.gW, h.bW, h.rW, h.xg, h.xb, h.xr⟩
theorem ST.keep (h : ST W g b B1 gr x o w N n v L' L) (k : Below w.heap.size w w') : ST W g b B1 gr x o w' N n v L' L :=
  ⟨h.bag.below k, h.ref.below k, (k.block x (lt_of_block h.box)).trans h.box, h.bel.next k, h.g1, h.b1, h.ng, h.nb, h.gW, h.bW, h.rW, h.xg, h.xb, h.xr⟩
theorem ST.drew (h : ST W g b B1 gr x o w N n v L' L) : ST W g b B1 gr x o w.drew N n v L' L := h.keep ⟨rfl, rfl, rfl, Nat.le_refl _, fun _ _ => rfl⟩
theorem ST.to (h : ST W g b B1 gr x o w N n v L' L) (hN : N ≤ N') : ST W g b B1 gr x o w N' n v L' L :=
  ⟨h.bag.mono hN, h.ref, h.box, h.bel, h.g1, h.b1, h.ng, h.nb, h.gW, h.bW, h.rW, h.xg, h.xb, h.xr⟩
/-- both bags, behind j steps -/
def PJ (W : World) (g b B1 gr : Nat) (w : World) (n : Int) (j : Nat) : Prop := ∃ L v, PR W.heap.size g b B1 gr w j n v L
set_option maxRecDepth 100000 in
set_option maxHeartbeats 8000000 in
theorem steps_walk (nd : Int) (ao : Option Addr) (len cap : Nat) (it : Nat → Stp) (W : World) (hS : SLie W ao len it) (_hlc : len ≤ cap) (_hcm : cap ≤ maxLen) :
    Calls Try.prog 3 #[.int .i64 nd, .slice ao len cap] W fun e w' => e = .returned (.bool true) ∧ Below W.heap.size W w' := by
  unfold maxLen at _hcm
  have HS := hid hS
  clear hS
  by_cases hnd : 1 ≤ nd ∧ nd ≤ 7
  · have HNEW := hid (new_any nd hnd.1 hnd.2 W.heap.size W (Nat.le_refl _))
    have HRN := hid (rnew_any nd hnd.1 hnd.2)
    by_cases hl3 : 300 < len
    · go_enter Try.func3, Try.ntmps3
      go_wp2_with (first
        | (go_at_call 8; refine HNEW.out.mono ?_; rintro e w1 ⟨rfl, hB1, hb1⟩; have HB1 := hid hb1; clear hB1 hb1)
        | (go_at_call 9; refine (HRN.out _).mono ?_; rintro e w2 ⟨rfl, _, hb2⟩; have HB2 := hid (HB1.out.next hb2); clear hb2)
        | (go_at_call 10; refine (speaks_any _).mono ?_; rintro e w7 ⟨rfl, hb7⟩))
      go_ret
      exact ⟨rfl, HB2.out.next hb7⟩
    · go_enter Try.func3, Try.ntmps3
      go_wp2_with (first
        | (go_at_call 8; refine HNEW.out.mono ?_; rintro e w1 ⟨rfl, hB1, hb1⟩; have HA1 := hid (Bag.new hB1); have HB1 := hid hb1; clear hB1 hb1)
        | (go_at_call 9; refine (HRN.out _).mono ?_; rintro e w2 ⟨rfl, hc2, hb2⟩; have HC2 := hid hc2; have HBB := hid hb2; have HB2 := hid (HB1.out.next hb2); clear hb2 hc2))
      have hgb := HA1.out.gb
      have hz1 := HB1.out.size
      have HPR : Hid (PJ W (W.heap.size + 1) W.heap.size w2.heap.size w1.heap.size w2 nd 0) :=
        ⟨[], .slice none 0 0, ⟨HA1.out.below HBB.out, ⟨HC2.out, LR.nil _ _, lt_of_block HC2.out, Nat.le_refl _, by simp⟩, Nat.lt_of_lt_of_le hgb.1 HBB.out.size, Nat.lt_of_lt_of_le hgb.2 HBB.out.size, by omega, by omega⟩⟩
      clear HA1 HC2 HBB HNEW HRN HB1
      go_loopw [47] (fun i wr => ∃ j : Nat, i = .int .i64 j ∧ j ≤ len ∧ PJ W (W.heap.size + 1) W.heap.size w2.heap.size w1.heap.size wr nd j ∧ Below W.heap.size W wr) (fun i _ => len - (intOf i).toNat)
      case atStart => exact ⟨0, rfl, Nat.zero_le _, HPR.out, HB2.out⟩
      case round =>
        obtain ⟨j, rfl, hj, hJ, hB⟩ := hrel
        have HB := hid hB
        have HJ := hid hJ
        clear hJ hB HPR HB2
        by_cases hlt : j < len
        · obtain ⟨bb, off, rfl, hbW, s0, s1, s2, s3, s4, bI, bM⟩ := HS.out j hlt
          obtain ⟨y, hy⟩ : ∃ y, y = it j := ⟨_, rfl⟩
          rw [← hy] at s0 s1 s2 s3 s4 bI bM
          obtain ⟨K, I, m⟩ := y
          simp only at s0 s1 s2 s3 s4 bI bM
          have t0 := (HB.out.cell (p := ⟨bb, off + j * 5, none⟩) hbW).trans s0
          have t1 := (HB.out.cell (p := ⟨bb, off + j * 5 + 1, none⟩) hbW).trans s1
          have t2 := (HB.out.cell (p := ⟨bb, off + j * 5 + 2, none⟩) hbW).trans s2
          have t3 := (HB.out.cell (p := ⟨bb, off + j * 5 + 3, none⟩) hbW).trans s3
          have t4 := (HB.out.cell (p := ⟨bb, off + j * 5 + 4, none⟩) hbW).trans s4
          have hbr : bb < wr.heap.size := Nat.lt_of_lt_of_le hbW HB.out.size
          clear s0 s1 s2 s3 s4 hy
          obtain ⟨L, v, hP⟩ := HJ.out
          have hPb := hP.bag.gb
          have hPr := lt_of_block hP.ref.cell
          have HT0 : Hid (ST W (W.heap.size + 1) W.heap.size w2.heap.size w1.heap.size wr.heap.size (.cells #[.int .i64 K, .int .i64 I, .int .i64 m.f, .int .i64 m.t, .string m.s] 34 (0, 0)) (wr.alloc (.cells #[.int .i64 K, .int .i64 I, .int .i64 m.f, .int .i64 m.t, .string m.s] 34 (0, 0))) j nd v L L) :=
            ⟨hP.bag.below (below_alloc _ _), hP.ref.below (below_alloc _ _), box_at _ _, HB.out.next (below_alloc _ _), hP.g1, hP.b1, hP.ng, hP.nb, by omega, by omega, by omega, by omega, by omega, by omega⟩
          have HLE := hid hP.bag.le
          have HRF := hid ref_any
          unfold valM at HRF
          clear hP hPb hPr HJ
          go_upto_block 2 with fail
          go_cut [] (fun wx => ∃ v' L', ST W (W.heap.size + 1) W.heap.size w2.heap.size w1.heap.size wr.heap.size (.cells #[.int .i64 K, .int .i64 I, .int .i64 m.f, .int .i64 m.t, .string m.s] 34 (0, 0)) wx (j + 1) nd v' L' L')
          case first =>
            clear t0 t1 t2 t3 t4 hbr
            rcases kinds K with rfl | rfl | rfl | ⟨k0, k1, k2⟩
            · obtain ⟨a, r, L', hD, hDr, hR⟩ := pair_deliver W.heap.size (W.heap.size + 1) W.heap.size w2.heap.size w1.heap.size nd L I
              have H11 := hid (fun w h => hD j w (by omega) h)
              have H12 := hid hR
              clear hD hDr hR
              obtain ⟨q0, q1, q2, q3, q4⟩ := five_cells HT0.out.box
              unfold valM at H11 H12
              go_wp2_with (first
                | (go_at_call 11; refine (H11.out _ HT0.out.bag).mono ?_; rintro e w6 ⟨rfl, hB6, hO6⟩; have HT6 := hid (HT0.out.stepB hB6 hO6); clear hB6 hO6 q0 q1 q2 q3 q4; obtain ⟨q0, q1, q2, q3, q4⟩ := five_cells HT6.out.box; have hxl := lt_of_block HT6.out.box; have HT7 := hid (HT6.out.keep (below_alloc w6 (.cells #[.int .i64 a.f, .int .i64 a.t, .string a.s] 32))); have HM7 := hid (box_at w6 (.cells #[.int .i64 a.f, .int .i64 a.t, .string a.s] 32)))
                | (go_at_call 12; refine (H12.out _ _ HT7.out.ref).mono ?_; rintro e w8 ⟨rfl, ⟨v8, hR8⟩, hO8⟩; have HT8 := hid (HT7.out.stepR hR8 hO8); have HM8 := hid ((hO8.block _ (lt_of_block HM7.out) (by have := lt_of_block HT6.out.ref.cell; simp; omega)).trans HM7.out); clear hR8 hO8 q0 q1 q2 q3 q4; obtain ⟨m0, m1, m2⟩ := three_cells HM8.out; have hml := lt_of_block HM8.out))
              have HT9 := hid (HT8.out.keep (below_alloc w8 (.cells #[.int .i64 a.f, .int .i64 a.t, .string a.s] 37)))
              have HX9 := hid (box_at w8 (.cells #[.int .i64 a.f, .int .i64 a.t, .string a.s] 37))
              have HM9 := hid ((Below.heap_alloc w8 (.cells #[.int .i64 a.f, .int .i64 a.t, .string a.s] 37) _ hml).trans HM8.out)
              obtain ⟨w9, hw9⟩ : ∃ w9, w9 = w8.alloc (.cells #[.int .i64 a.f, .int .i64 a.t, .string a.s] 37) := ⟨_, rfl⟩
              rw [← hw9] at HT9 HX9 HM9 ⊢
              clear hw9 m0 m1 m2
              obtain ⟨m0, m1, m2⟩ := three_cells HM9.out
              obtain ⟨x0, x1, x2⟩ := three_cells HX9.out
              have hm9 := lt_of_block HM9.out
              have hx9 := lt_of_block HX9.out
              go_region_held3 (fun w' => w'.cell? ⟨w6.heap.size, 0, none⟩ = some (.int .i64 a.f) ∧ w'.cell? ⟨w6.heap.size, 1, none⟩ = some (.int .i64 a.t) ∧ w'.cell? ⟨w6.heap.size, 2, none⟩ = some (.string a.s) ∧ w'.cell? ⟨w8.heap.size, 0, none⟩ = some (.int .i64 a.f) ∧ w'.cell? ⟨w8.heap.size, 1, none⟩ = some (.int .i64 a.t) ∧ w'.cell? ⟨w8.heap.size, 2, none⟩ = some (.string a.s)) (first | exact ⟨m0, m1, m2, x0, x1, x2⟩ | go_keep) (first
                | (go_at_call 13; refine (HRF.out a _).mono ?_; rintro e w10 ⟨rfl, hb10⟩; have HT10 := hid (HT9.out.drew.keep hb10); replace m0 := (hb10.cell (p := ⟨w6.heap.size, 0, none⟩) hm9).trans m0; replace m1 := (hb10.cell (p := ⟨w6.heap.size, 1, none⟩) hm9).trans m1; replace m2 := (hb10.cell (p := ⟨w6.heap.size, 2, none⟩) hm9).trans m2; replace x0 := (hb10.cell (p := ⟨w8.heap.size, 0, none⟩) hx9).trans x0; replace x1 := (hb10.cell (p := ⟨w8.heap.size, 1, none⟩) hx9).trans x1; replace x2 := (hb10.cell (p := ⟨w8.heap.size, 2, none⟩) hx9).trans x2; clear hb10))
              all_goals
                clear m0 m1 m2 x0 x1 x2
                go_wp2
                go_meet
                exact ⟨_, _, HT10.out⟩
            · obtain ⟨a, r, L', hD, hDr, hR⟩ := pair_deliver W.heap.size (W.heap.size + 1) W.heap.size w2.heap.size w1.heap.size nd L I
              have H14 := hid (fun w h => hDr j w (by omega) h)
              have H12 := hid hR
              clear hD hDr hR
              obtain ⟨q0, q1, q2, q3, q4⟩ := five_cells HT0.out.box
              unfold valM at H12
              go_wp2_with (first
                | (go_at_call 12; refine (H12.out _ _ HT0.out.ref).mono ?_; rintro e w6 ⟨rfl, ⟨v6, hR6⟩, hO6⟩; have HT6 := hid (HT0.out.stepR hR6 hO6); clear hR6 hO6 q0 q1 q2 q3 q4; obtain ⟨q0, q1, q2, q3, q4⟩ := five_cells HT6.out.box; have hxl := lt_of_block HT6.out.box; have HT7 := hid (HT6.out.keep (below_alloc w6 (.cells #[.int .i64 a.f, .int .i64 a.t, .string a.s] 37))))
                | (go_at_call 14; refine (H14.out _ HT7.out.bag).mono ?_; rintro e w8 ⟨rfl, hB8, hO8⟩; have HT8 := hid (HT7.out.stepB hB8 hO8); clear hB8 hO8))
              go_meet
              exact ⟨_, _, HT8.out⟩
            · obtain ⟨r, L', hD, hR⟩ := pair_twice W.heap.size (W.heap.size + 1) W.heap.size w2.heap.size w1.heap.size nd L HLE.out I
              have H15 := hid (fun w h => hD j w (by omega) h)
              have H16 := hid hR
              clear hD hR
              obtain ⟨q0, q1, q2, q3, q4⟩ := five_cells HT0.out.box
              go_wp2
              clear q0 q2 q3 q4
              go_region_held3 (fun w' => w'.cell? ⟨wr.heap.size, 1, none⟩ = some (.int .i64 I)) (first | exact q1 | go_keep) (first
                | (go_at_call 15; refine (H15.out _ HT0.out.drew.bag).mono ?_; rintro e w6 ⟨rfl, hB6, hO6⟩; have HT6 := hid (HT0.out.drew.stepB hB6 hO6); clear hB6 hO6 q1; obtain ⟨_, q1, _, _, _⟩ := five_cells HT6.out.box)
                | (go_at_call 16; refine (H16.out _ _ HT6.out.ref).mono ?_; rintro e w8 ⟨rfl, ⟨v8, hR8⟩, hO8⟩; have HT8 := hid (HT6.out.stepR hR8 hO8); clear hR8 hO8 q1; obtain ⟨_, q1, _, _, _⟩ := five_cells HT8.out.box))
              all_goals
                clear q1
                go_wp2
                go_meet
                exact ⟨_, _, HT8.out⟩
            · obtain ⟨r, L', hD, hR⟩ := pair_put W.heap.size (W.heap.size + 1) W.heap.size w2.heap.size w1.heap.size nd L HLE.out m bM
              have H17 := hid (fun w h => hD j w (by omega) h)
              have H18 := hid hR
              clear hD hR
              obtain ⟨q0, q1, q2, q3, q4⟩ := five_cells HT0.out.box
              unfold valM at H17 H18
              go_wp2
              clear q0 q1
              go_region_held3 (fun w' => w'.cell? ⟨wr.heap.size, 2, none⟩ = some (.int .i64 m.f) ∧ w'.cell? ⟨wr.heap.size, 3, none⟩ = some (.int .i64 m.t) ∧ w'.cell? ⟨wr.heap.size, 4, none⟩ = some (.string m.s)) (first | exact ⟨q2, q3, q4⟩ | go_keep) (first
                | (go_at_call 17; refine (H17.out _ HT0.out.drew.bag).mono ?_; rintro e w6 ⟨rfl, hB6, hO6⟩; have HT6 := hid (HT0.out.drew.stepB hB6 hO6); clear hB6 hO6 q2 q3 q4; obtain ⟨_, _, q2, q3, q4⟩ := five_cells HT6.out.box)
                | (go_at_call 13; refine (HRF.out m _).mono ?_; rintro e w7 ⟨rfl, hb7⟩; have HT7 := hid (HT6.out.keep hb7); clear hb7 q2 q3 q4; obtain ⟨_, _, q2, q3, q4⟩ := five_cells HT7.out.box)
                | (go_at_call 18; refine (H18.out _ _ HT7.out.ref).mono ?_; rintro e w8 ⟨rfl, ⟨v8, hR8⟩, hO8⟩; have HT8 := hid (HT7.out.stepR hR8 hO8); clear hR8 hO8 q2 q3 q4; obtain ⟨_, _, q2, q3, q4⟩ := five_cells HT8.out.box))
              all_goals
                clear q2 q3 q4
                go_wp2
                go_meet
                exact ⟨_, _, HT8.out⟩
          case rest =>
            rename World => wo
            obtain ⟨v', L', hT⟩ := hcut
            clear t0 t1 t2 t3 t4 hbr HT0 HLE
            obtain ⟨ro, rc, rfl⟩ := hT.ref.row.len
            obtain ⟨_, _, q2, q3, q4⟩ := five_cells hT.drew.box
            obtain ⟨_, q5⟩ := two_cells53 hT.drew.ref.cell
            have hle := hT.bag.le
            have HDL := hid (Nat.le_trans (dd_len_le L') hT.bag.le)
            have HT := hid hT.drew
            have HCB := hid (fun w h => bag_count (base := W.heap.size) (g := W.heap.size + 1) (b := W.heap.size) (N := j + 1) (n := nd) (L := L') m bM w h)
            have HCR := hid (fun v w h => rcount_any (B1 := w2.heap.size) (g := w1.heap.size) (n := nd) (v := v) (L := L') m w h)
            have HLB := hid (fun w (h : Bag W.heap.size (W.heap.size + 1) W.heap.size w (j + 1) nd L') => bag_list (by omega) w h)
            have HLR := hid (fun v w h => rlist_any (B1 := w2.heap.size) (g := w1.heap.size) (n := nd) (v := v) (L := L') w h)
            have HLN := hid (fun w (h : Bag W.heap.size (W.heap.size + 1) W.heap.size w (j + 1) nd L') => len_any w h.is)
            unfold valM at HCB HCR
            obtain ⟨ct, hct⟩ : ∃ c, c = cnt m L' := ⟨_, rfl⟩
            rw [← hct] at HCB HCR
            clear hT hct
            go_wp2
            go_region_held3 (fun w' => w'.cell? ⟨wr.heap.size, 2, none⟩ = some (.int .i64 m.f) ∧ w'.cell? ⟨wr.heap.size, 3, none⟩ = some (.int .i64 m.t) ∧ w'.cell? ⟨wr.heap.size, 4, none⟩ = some (.string m.s) ∧ w'.cell? ⟨w1.heap.size, 1, none⟩ = some (.slice ro L'.length rc)) (first | exact ⟨q2, q3, q4, q5⟩ | go_keep) (first
              | (go_at_call 20; refine (HLB.out _ HT.out.bag).mono ?_; rintro e w6 ⟨v6, rfl, hL6, hb6⟩; have HT6 := hid (HT.out.keep hb6); have HL6 := hid hL6; clear hL6 hb6 q2 q3 q4 q5; obtain ⟨_, _, q2, q3, q4⟩ := five_cells HT6.out.box; obtain ⟨_, q5⟩ := two_cells53 HT6.out.ref.cell)
              | (go_at_call 21; refine (HLR.out _ _ HT6.out.ref).mono ?_; rintro e w7 ⟨v7, rfl, hL7, hb7⟩; have HT7 := hid (HT6.out.keep hb7); have HL7 := hid hL7; have HK7 := hid (HL6.out.below hb7); clear hL7 hb7 q2 q3 q4 q5; obtain ⟨_, _, q2, q3, q4⟩ := five_cells HT7.out.box; obtain ⟨_, q5⟩ := two_cells53 HT7.out.ref.cell)
              | (go_at_call 19; refine (lists_any HDL.out _ HK7.out HL7.out).mono ?_; rintro e w8 ⟨rfl, hb8⟩; have HT8 := hid (HT7.out.keep hb8); clear hb8 q2 q3 q4 q5; obtain ⟨_, _, q2, q3, q4⟩ := five_cells HT8.out.box; obtain ⟨_, q5⟩ := two_cells53 HT8.out.ref.cell)
              | (go_at_call 22; refine (HCB.out _ HT8.out.bag).mono ?_; rintro e w9 ⟨rfl, hb9⟩; have HT9 := hid (HT8.out.keep hb9); clear hb9 q2 q3 q4 q5; obtain ⟨_, _, q2, q3, q4⟩ := five_cells HT9.out.box; obtain ⟨_, q5⟩ := two_cells53 HT9.out.ref.cell)
              | (go_at_call 13; refine (HRF.out m _).mono ?_; rintro e wa ⟨rfl, hba⟩; have HTa := hid (HT9.out.keep hba); clear hba q2 q3 q4 q5; obtain ⟨_, _, q2, q3, q4⟩ := five_cells HTa.out.box; obtain ⟨_, q5⟩ := two_cells53 HTa.out.ref.cell)
              | (go_at_call 23; refine (HCR.out _ _ HTa.out.ref).mono ?_; rintro e wb ⟨rfl, hbb⟩; have HTb := hid (HTa.out.keep hbb); clear hbb q2 q3 q4 q5; obtain ⟨_, _, q2, q3, q4⟩ := five_cells HTb.out.box; obtain ⟨_, q5⟩ := two_cells53 HTb.out.ref.cell)
              | (go_at_call 24; refine (HLN.out _ HTb.out.bag).mono ?_; rintro e wc ⟨rfl, hw⟩; have hw := hw.symm; subst hw))
            all_goals
              clear q2 q3 q4 q5
              go_wp2
              go_roundw
              case rel => exact ⟨j + 1, by go_num, by omega, ⟨L', _, ⟨HTb.out.bag, HTb.out.ref, HTb.out.g1, HTb.out.b1, HTb.out.ng, HTb.out.nb⟩⟩, HTb.out.bel⟩
              case measure => simp [intOf]; omega
        · go_wp2_with (first
            | (go_at_call 10; refine (speaks_any _).mono ?_; rintro e w7 ⟨rfl, hb7⟩))
          go_ret
          exact ⟨rfl, HB.out.next hb7⟩
  · have HNB := hid (new_bad nd hnd)
    have HRB := hid (rnew_bad nd hnd)
    go_enter Try.func3, Try.ntmps3
    go_wp2_with (first
      | (go_at_call 8; refine (HNB.out _).mono ?_; rintro e w1 ⟨rfl, hw⟩; have hw := hw.symm; subst hw)
      | (go_at_call 9; refine (HRB.out _).mono ?_; rintro e w2 ⟨rfl, hw⟩; have hw := hw.symm; subst hw)
      | (go_at_call 10; refine (speaks_any _).mono ?_; rintro e w7 ⟨rfl, hb7⟩))
    go_ret
    exact ⟨rfl, hb7⟩
end Go.Proofs.Ytecfibabeimjoaa
