import Derived.Test.YtopebghandojbaaGreatZd
namespace Go.Proofs.YtopebghandojbaaGreat
open Go.RowKit Go.Maps
theorem open_none (v : Value) (b0 : ByteArray) (ring : List ByteArray) (w : World) (hv : SLie w v (b0 :: ring)) (hz : ∀ b ∈ b0 :: ring, b.size ≤ 150000000000000) (hn : 7 ≤ ring.length ∧ ring.length ≤ 255) (hh : isHdr b0 0 1 1) :
    Calls Tryz.prog 52 #[v] w fun e w' => ∃ j r tb, e = .returned (.tuple #[.pointer (some ⟨j, 0, none⟩), .slice (some ⟨tb, 0, none⟩) 0 0, .int .i64 0]) ∧ JS j r w' ring.length 0 1 0 [] ∧ w.heap.size ≤ j ∧ (∀ a, r = some a → w.heap.size ≤ a) ∧ Below w.heap.size w w' := by
  refine (open_go v b0 ring w hv hz hn 0 1 0 hh (by omega) (by omega) (by omega) (by omega)).mono ?_
  rintro e w' ⟨⟨h1, _⟩, hb⟩
  obtain ⟨j, r, tb, vs, rfl, ho⟩ := h1 [] rfl trivial
  exact ⟨j, r, tb, rfl, ho.js, ho.b1, ho.b2, hb⟩
theorem st_a {w6 w8 : World} {q g x y z j : Nat} (hh : w8.heap = ((w6.alloc (.map #[] 0)).drew.drewN q).heap) (hb : Below w6.heap.size w6 w8) :
    Value.pointer (some ⟨w8.heap.size, 0, none⟩) = Value.pointer (some ⟨w6.heap.size + 1, 0, none⟩) ∧ StIs (w6.heap.size + 1) (w8.alloc (.cells #[.pointer (some ⟨g, 0, none⟩), .int .i64 (x : Int), .int .i64 (y : Int), .int .i64 (z : Int), .int .i64 1, .int .i64 (1 + (y : Int)), .int .i64 (2 + (y : Int)), .int .i64 (2 + (y : Int) + ((z : Int) + 3) / 4), .int .i64 ((x : Int) - (2 + (y : Int) + ((z : Int) + 3) / 4)), .pointer (some ⟨j, 0, none⟩), .slice none 0 0, .map (some w6.heap.size), .slice none 0 0, .int .i64 (IntKind.i64.wrap 0)] 107)) g x y z j (.slice none 0 0) w6.heap.size (.slice none 0 0) 0 ∧
      Um.MIs w6.heap.size (w8.alloc (.cells #[.pointer (some ⟨g, 0, none⟩), .int .i64 (x : Int), .int .i64 (y : Int), .int .i64 (z : Int), .int .i64 1, .int .i64 (1 + (y : Int)), .int .i64 (2 + (y : Int)), .int .i64 (2 + (y : Int) + ((z : Int) + 3) / 4), .int .i64 ((x : Int) - (2 + (y : Int) + ((z : Int) + 3) / 4)), .pointer (some ⟨j, 0, none⟩), .slice none 0 0, .map (some w6.heap.size), .slice none 0 0, .int .i64 (IntKind.i64.wrap 0)] 107)) 0 [] ∧ Below w6.heap.size w6 (w8.alloc (.cells #[.pointer (some ⟨g, 0, none⟩), .int .i64 (x : Int), .int .i64 (y : Int), .int .i64 (z : Int), .int .i64 1, .int .i64 (1 + (y : Int)), .int .i64 (2 + (y : Int)), .int .i64 (2 + (y : Int) + ((z : Int) + 3) / 4), .int .i64 ((x : Int) - (2 + (y : Int) + ((z : Int) + 3) / 4)), .pointer (some ⟨j, 0, none⟩), .slice none 0 0, .map (some w6.heap.size), .slice none 0 0, .int .i64 (IntKind.i64.wrap 0)] 107)) := by
  have hz : w8.heap.size = w6.heap.size + 1 := by rw [hh]; show (w6.heap.push _).size = _; simp
  have hm : w8.heap[w6.heap.size]? = some (.map #[] 0) := by rw [hh]; show (w6.heap.push _)[w6.heap.size]? = _; simp
  refine ⟨by rw [hz], ?_, ?_, hb.next (below_alloc w8 _)⟩
  · rw [← hz]
    exact box_at w8 _
  · exact (Um.MIs.made w6).same ((Below.heap_alloc _ _ _ (by omega)).trans (hm.trans (box_at w6 _).symm))
theorem st_b {w6 w8 : World} {q g x y z j : Nat} (hh : w8.heap = (w6.drew.drewN q).heap) (hb : Below w6.heap.size w6 w8) :
    Value.pointer (some ⟨w8.heap.size + 1, 0, none⟩) = Value.pointer (some ⟨w6.heap.size + 1, 0, none⟩) ∧ StIs (w6.heap.size + 1) ((w8.alloc (.map #[] 0)).alloc (.cells #[.pointer (some ⟨g, 0, none⟩), .int .i64 (x : Int), .int .i64 (y : Int), .int .i64 (z : Int), .int .i64 1, .int .i64 (1 + (y : Int)), .int .i64 (2 + (y : Int)), .int .i64 (2 + (y : Int) + ((z : Int) + 3) / 4), .int .i64 ((x : Int) - (2 + (y : Int) + ((z : Int) + 3) / 4)), .pointer (some ⟨j, 0, none⟩), .slice none 0 0, .map (some w8.heap.size), .slice none 0 0, .int .i64 (IntKind.i64.wrap 0)] 107)) g x y z j (.slice none 0 0) w6.heap.size (.slice none 0 0) 0 ∧
      Um.MIs w6.heap.size ((w8.alloc (.map #[] 0)).alloc (.cells #[.pointer (some ⟨g, 0, none⟩), .int .i64 (x : Int), .int .i64 (y : Int), .int .i64 (z : Int), .int .i64 1, .int .i64 (1 + (y : Int)), .int .i64 (2 + (y : Int)), .int .i64 (2 + (y : Int) + ((z : Int) + 3) / 4), .int .i64 ((x : Int) - (2 + (y : Int) + ((z : Int) + 3) / 4)), .pointer (some ⟨j, 0, none⟩), .slice none 0 0, .map (some w8.heap.size), .slice none 0 0, .int .i64 (IntKind.i64.wrap 0)] 107)) 0 [] ∧ Below w6.heap.size w6 ((w8.alloc (.map #[] 0)).alloc (.cells #[.pointer (some ⟨g, 0, none⟩), .int .i64 (x : Int), .int .i64 (y : Int), .int .i64 (z : Int), .int .i64 1, .int .i64 (1 + (y : Int)), .int .i64 (2 + (y : Int)), .int .i64 (2 + (y : Int) + ((z : Int) + 3) / 4), .int .i64 ((x : Int) - (2 + (y : Int) + ((z : Int) + 3) / 4)), .pointer (some ⟨j, 0, none⟩), .slice none 0 0, .map (some w8.heap.size), .slice none 0 0, .int .i64 (IntKind.i64.wrap 0)] 107)) := by
  have hz : w8.heap.size = w6.heap.size := by rw [hh]; rfl
  have hz2 : (w8.alloc (.map #[] 0)).heap.size = w6.heap.size + 1 := by rw [← hz]; simp
  refine ⟨by rw [hz], ?_, ?_, (hb.next (below_alloc w8 _)).next (below_alloc _ _)⟩
  · rw [← hz2, ← hz]
    exact box_at _ _
  · have hk := Um.MIs.made w8
    rw [hz] at hk
    exact hk.same (Below.heap_alloc _ _ _ (by omega))
set_option maxRecDepth 100000 in
set_option maxHeartbeats 4000000 in
theorem open_zero {base g N : Nat} {S : Dv.DS} {fp : List Nat} (x y z : Nat) (h : Sh.okS x y z) (hSn : S.n = x) (h0 : (Dv.seen S.L S.Q 0).getD Dv.Z = Sh.superS x y z) (h1 : (Dv.seen S.L S.Q 1).getD Dv.Z = hdB 0 1 1) (hsz : ∀ k, ((Dv.seen S.L S.Q k).getD Dv.Z).size ≤ 150000000000000) (w : World) (hD : Dv.DIs base g w N S fp) :
    Calls Tryz.prog 11 #[.pointer (some ⟨g, 0, none⟩)] w fun e w' => ∃ s j m r, e = .returned (.tuple #[.pointer (some ⟨s, 0, none⟩), .int .i64 0]) ∧ StIs s w' g x y z j (.slice none 0 0) m (.slice none 0 0) 0 ∧ JS j r w' ((y : Int) - 1) 0 1 0 [] ∧ Um.MIs m w' 0 [] ∧ w.heap.size ≤ s ∧ w.heap.size ≤ j ∧ (∀ a, r = some a → w.heap.size ≤ a) ∧ w.heap.size ≤ m ∧ Below w.heap.size w w' := by
  have hx := h.1.1
  have hy := h.1.2.1
  have hx1 : 16 ≤ x := by omega
  have hx2 : x ≤ 1024 := by omega
  have hy1 : 8 ≤ y := by omega
  have hy2 : y ≤ 256 := by omega
  have hyx : 1 + y ≤ x := by have := h.2; omega
  have HRD : Hid (∀ (w' : World), Below w.heap.size w w' → Calls Tryz.prog 25 #[.pointer (some ⟨g, 0, none⟩), .int .i64 0] w' fun e w'' => e = .returned (.tuple #[.string (Sh.superS x y z), .int .i64 0]) ∧ Below w'.heap.size w' w'') := by
    refine hid (fun w' hb => ?_)
    rw [← h0]
    exact Dv.read_any 0 (by omega) w' (hD.below hb)
  have HSR := hid (fun w => Sh.read_ok (Sh.superS x y z) x y z (by rw [super_size]; omega) ⟨un_block _ (by rw [Sh.superL_len]; decide), h⟩ w)
  have HBK : Hid (∀ w', Below w.heap.size w w' → Calls Tryz.prog 50 #[.pointer (some ⟨g, 0, none⟩)] w' fun e w'' => e = .returned (.int .i64 (x : Int)) ∧ w'' = w') := by
    refine hid (fun w' hb => ?_)
    have k := Dv.blocks_any w' (hD.below hb)
    rw [hSn] at k
    exact k
  have HO := hid (fun w => Sh.of_ok x y z h w)
  unfold Sh.regS at HO
  have HSE : Hid (∀ w', Below w.heap.size w w' → Calls Tryz.prog 53 #[.pointer (some ⟨g, 0, none⟩), .int .i64 1, .int .i64 (y : Int)] w' fun e w'' => ∃ v ring, e = .returned v ∧ SLie w'' v (hdB 0 1 1 :: ring) ∧ ring.length = y - 1 ∧ (∀ b ∈ hdB 0 1 1 :: ring, b.size ≤ 150000000000000) ∧ Below w'.heap.size w' w'') := by
    refine hid (fun w' hb => ?_)
    refine (seen_any 1 y (by omega) (by omega) w' (hD.below hb)).mono ?_
    rintro e w'' ⟨rfl, hl, hb2⟩
    obtain ⟨y', rfl⟩ : ∃ y', y = y' + 1 := ⟨y - 1, by omega⟩
    rw [List.range_succ_eq_map, List.map_cons] at hl
    rw [show 1 + 0 = 1 from rfl, h1] at hl
    refine ⟨_, _, rfl, hl, by simp, ?_, hb2⟩
    intro b hb
    rcases List.mem_cons.1 hb with rfl | hb
    · rw [hdB_size]; omega
    · simp only [List.map_map, List.mem_map] at hb
      obtain ⟨i, _, rfl⟩ := hb
      exact hsz _
  have HOP := hid (fun v ring w' (hv : SLie w' v (hdB 0 1 1 :: ring)) hz hn => open_none v (hdB 0 1 1) ring w' hv hz hn (hdB_isHdr (by decide) (by decide) (by decide)))
  clear h h0 h1 hsz hSn hx hy hD
  go_enter Tryz.func11, Tryz.ntmps11
  go_wp2_with (first
    | (go_at_call 25; refine (HRD.out _ (Below.refl _ _)).mono ?_; rintro e w1 ⟨rfl, hb1⟩)
    | (go_at_call 51; refine (HSR.out _).mono ?_; rintro e w2 ⟨rfl, hb2⟩; have HB2 := hid (hb1.next hb2)))
  go_quiet ((go_at_call 50; exact Calls.quiet_of_same (HBK.out _ ((HB2.out.next (below_alloc _ _)).next ⟨rfl, rfl, rfl, Nat.le_refl _, fun _ _ => rfl⟩))))
  have HB3 : Hid (Below w.heap.size w ((w2.alloc (.cells #[.int .i64 (x : Int), .int .i64 (y : Int), .int .i64 (z : Int)] 23)).drewN nq)) := hid ((HB2.out.next (below_alloc _ _)).next ⟨rfl, rfl, rfl, Nat.le_refl _, fun _ _ => rfl⟩)
  have HV3 : Hid (((w2.alloc (.cells #[.int .i64 (x : Int), .int .i64 (y : Int), .int .i64 (z : Int)] 23)).drewN nq).heap[w2.heap.size]? = some (.cells #[.int .i64 (x : Int), .int .i64 (y : Int), .int .i64 (z : Int)] 23 (0, 0))) := hid (box_at w2 _)
  obtain ⟨w3, hw3⟩ : ∃ w3, w3 = (w2.alloc (.cells #[.int .i64 (x : Int), .int .i64 (y : Int), .int .i64 (z : Int)] 23)).drewN nq := ⟨_, rfl⟩
  rw [← hw3] at HB3 HV3 ⊢
  clear hw3
  obtain ⟨a0, a1, a2⟩ := three_cells HV3.out
  go_wp2_with (first
    | (go_at_call 40; refine (HO.out _).mono ?_; rintro e w4 ⟨rfl, hb4⟩
       have HV4 := hid ((hb4.block _ (lt_of_block HV3.out)).trans HV3.out)
       have HB4 := hid (HB3.out.next hb4)
       have hs4 := lt_of_block HV4.out
       obtain ⟨a0, a1, a2⟩ := three_cells HV4.out)
    | (go_at_call 53; refine (HSE.out _ (HB4.out.next (below_alloc _ _))).mono ?_; rintro e w5 ⟨v5, ring, rfl, hsl, hrl, hrz, hb5⟩
       have HT5 : Hid (Two w w2.heap.size w4.heap.size _ _ w5) := hid (Two.next ⟨(Below.heap_alloc _ _ _ hs4).trans HV4.out, box_at w4 _, HB4.out.next (below_alloc _ _)⟩ hb5)
       have HSL := hid hsl
       have HRZ := hid hrz
       clear hsl hrz)
    | (go_at_call 52; refine (HOP.out _ _ _ HSL.out HRZ.out (by omega)).mono ?_; rintro e w6 ⟨j, r, tb, rfl, hj6, hjl, hrl6, hb6⟩
       have HT6 := hid (HT5.out.next hb6)
       have HJ6 := hid hj6
       have HRL := hid hrl6
       clear hj6 hrl6
       obtain ⟨a0, a1, a2⟩ := three_cells HT6.out.1
       obtain ⟨b0, b1, b2, b3, b4⟩ := Sh.five_cells HT6.out.2.1
       have hs6 := lt_of_block HT6.out.1
       have hs7 := lt_of_block HT6.out.2.1))
  have HJY : Hid (JS j r w6 ((y : Int) - 1) 0 1 0 []) := by
    have k := HJ6.out
    rw [hrl, show ((y - 1 : Nat) : Int) = (y : Int) - 1 by omega] at k
    exact hid k
  have HNX : Hid (∀ w', Below w6.heap.size w6 w' → Calls Tryz.prog 54 #[.pointer (some ⟨j, 0, none⟩)] w' fun e w'' => e = .returned (.int .i64 1) ∧ ∃ q, w'' = w'.drewN q) :=
    hid (fun w' hb => jnext j r _ 0 1 0 [] (by omega) (by decide) (by decide) w' (HJY.out.below hb))
  clear HJ6
  go_cut [12] (fun v12 wx => v12 = .pointer (some ⟨w6.heap.size + 1, 0, none⟩) ∧ StIs (w6.heap.size + 1) wx g x y z j (.slice none 0 0) w6.heap.size (.slice none 0 0) 0 ∧ Um.MIs w6.heap.size wx 0 [] ∧ Below w6.heap.size w6 wx)
  case first =>
    have hmm := @run_makeMap Tryz.prog
    go_region_with (first
      | (go_at_call 54; refine (HNX.out _ (by first | exact ⟨rfl, rfl, rfl, Nat.le_refl _, fun _ _ => rfl⟩ | exact (below_alloc w6 _).next ⟨rfl, rfl, rfl, Nat.le_refl _, fun _ _ => rfl⟩)).mono ?_; rintro e w8 ⟨rfl, q8, hw⟩
         have HH8 := hid (congrArg World.heap hw)
         have HB8 : Hid (Below w6.heap.size w6 w8) := by rw [hw]; first | exact ⟨rfl, rfl, rfl, Nat.le_refl _, fun _ _ => rfl⟩ | exact (below_alloc w6 _).next ⟨rfl, rfl, rfl, Nat.le_refl _, fun _ _ => rfl⟩
         clear hw
         have HT8 := hid (HT6.out.next HB8.out)
         obtain ⟨a0, a1, a2⟩ := three_cells HT8.out.1
         obtain ⟨b0, b1, b2, b3, b4⟩ := Sh.five_cells HT8.out.2.1
         have hs8 := lt_of_block HT8.out.1
         have hs9 := lt_of_block HT8.out.2.1))
    all_goals
      go_wp2
      go_meet
      first
        | exact st_a HH8.out HB8.out
        | exact st_b HH8.out HB8.out
  case rest =>
    obtain ⟨rfl, hst, hm7, hb7⟩ := hcut
    rename World => w7
    have HL := hid (lay_none (P := (y : Int) - 1) (by omega) w7 hst (HJY.out.below hb7))
    have HS7 := hid hst
    have HM7 := hid hm7
    have HB7 := hid hb7
    clear hst hm7 hb7
    go_wp2
    go_loopw [65] (fun i wr => i = .int .i64 0 ∧ wr = w7) (fun _ _ => 0)
    case atStart => exact ⟨rfl, rfl⟩
    case round =>
      obtain ⟨rfl, rfl⟩ := hrel
      go_wp2_with (first | (go_at_call 56; refine HL.out.mono ?_; rintro e w9 ⟨rfl, q9, hw⟩; have hw := hw.symm; subst hw))
      go_ret2
      have k6 := HT6.out.2.2.size
      have k5 := HT5.out.2.2.size
      exact ⟨_, j, _, r, rfl, HS7.out, (HJY.out.below HB7.out).drew q9, HM7.out, by omega, by omega, fun a ha => by have := HRL.out a ha; omega, k6, (HT6.out.2.2.next HB7.out).next ⟨rfl, rfl, rfl, Nat.le_refl _, fun _ _ => rfl⟩⟩
end Go.Proofs.YtopebghandojbaaGreat
