import Derived.Test.YtopebghandojbaaGreatYj
namespace Go.Proofs.YtopebghandojbaaGreat
open Go.RowKit Go.Maps

theorem decOk_right {R : List ByteArray} {s : Nat} {L : List Chg} (h : decOk R s L) : right L = true := by
  obtain ⟨b, bl, ps, sm, rfl, hh, h1, h2, h3, rfl⟩ := h
  have hl : (bl.take ps.length).length = ps.length := by simp; omega
  have hp := placesB_iff.1 hh.2.2.2.1
  unfold right
  rw [right_zip hl hp.1, h2, zipC_len hl]
  simp [hp.2]
theorem decs_right : ∀ {s : Nat} {R : List ByteArray} {Ls : List (List Chg)}, decs s R Ls → ∀ L ∈ Ls, right L = true
  | _, _, [], _, L, hL => by cases hL
  | s, R, X :: Ls, h, L, hL => by
    rcases List.mem_cons.1 hL with rfl | hL
    · exact decOk_right h.1
    · exact decs_right h.2 L hL
theorem decs_top : ∀ {s : Nat} {R : List ByteArray} {Ls : List (List Chg)}, decs s R Ls → s ≤ 1099511627776 → s + Ls.length ≤ 1099511627777
  | s, _, [], _, h => by show s + 0 ≤ _; omega
  | s, R, X :: Ls, h, hs => by
    obtain ⟨b, bl, ps, sm, _, hh, _⟩ := h.1
    by_cases h1 : s = 1099511627776
    · match Ls, h with
      | [], _ => show s + (0 + 1) ≤ _; omega
      | Y :: Ks, h =>
        obtain ⟨b2, bl2, ps2, sm2, _, hh2, _⟩ := h.2.1
        have := hh2.2.2.1
        omega
    · have := decs_top h.2 (by omega)
      simp only [List.length_cons]
      omega
theorem right_sml {L : List Chg} (h : right L = true) : Sml L := by
  obtain ⟨h1, h2⟩ := rises_rise (right_rises h)
  exact ⟨h1, fun c hc => by obtain ⟨a, b, _⟩ := h2 c hc; omega⟩
/-- a device that says transactions, whatever they are -/
structure RawD (x y z : Nat) (f : Nat → Option ByteArray) (T F : Nat) (Ls : List (List Chg)) : Prop where
  su : Sh.okR (val f 0) x y z
  hd : isHdr (val f 1) T F (F + Ls.length)
  tl : T < y - 1
  f1 : 1 ≤ F
  fe : F ≤ 1099511627776
  dc : decs F (rot (ringOf f (y - 1)) T) Ls
  us : used Ls ≤ y - 1
  sz : ∀ k, (val f k).size = 128
set_option maxRecDepth 100000 in
set_option maxHeartbeats 8000000 in
theorem open_raw {base g N T F : Nat} {S : Dv.DS} {fp : List Nat} {Ls : List (List Chg)} (x y z : Nat) (h : Sh.okS x y z) (hSn : S.n = x) (hG : RawD x y z (Dv.seen S.L S.Q) T F Ls) (w : World) (hD : Dv.DIs base g w N S fp) :
    Calls Tryz.prog 11 #[.pointer (some ⟨g, 0, none⟩)] w fun e w' => ((∀ L ∈ Ls, okX y x L) → ∃ s j m r B1, e = .returned (.tuple #[.pointer (some ⟨s, 0, none⟩), .int .i64 0]) ∧ Q.SA B1 s w' g x y z j m (.slice none 0 0) ((F : Int) + Ls.length - 1) (mendA y T F Ls) ∧ JS j r w' ((y : Int) - 1) ((T + used Ls) % (y - 1)) (F + Ls.length) 0 [] ∧ Um.MIs m w' (mg Ls).length (mg Ls) ∧ w.heap.size ≤ B1 ∧ w.heap.size ≤ s ∧ w.heap.size ≤ j ∧ (∀ a, r = some a → w.heap.size ≤ a) ∧ w.heap.size ≤ m ∧ m ≠ s ∧ j ≠ s ∧ j ≠ m ∧ (∀ a, r = some a → a ≠ s ∧ a ≠ m ∧ a ≠ j) ∧ j < B1 ∧ m < B1) ∧ ((¬ ∀ L ∈ Ls, okX y x L) → e = .returned (.tuple #[.pointer none, .int .i64 70])) ∧ Below w.heap.size w w' := by
  have h0 := hG.su
  unfold val at h0
  have hsz : ∀ k, ((Dv.seen S.L S.Q k).getD Dv.Z).size ≤ 150000000000000 := fun k => by
    have := hG.sz k
    unfold val at this
    omega
  obtain ⟨b0, hb0⟩ : ∃ b0, b0 = (Dv.seen S.L S.Q 0).getD Dv.Z := ⟨_, rfl⟩
  rw [← hb0] at h0
  have hb0s : b0.size ≤ 150000000000000 := by rw [hb0]; exact hsz 0
  have hTl := hG.tl
  have hF1 := hG.f1
  have hFe := hG.fe
  have hus := hG.us
  have hft := decs_top hG.dc hFe
  have hRG := fun L (hL : L ∈ Ls) => decs_right hG.dc L hL
  have hle := len_le_used Ls
  have hx := h.1.1
  have hy := h.1.2.1
  have hx1 : 16 ≤ x := by omega
  have hx2 : x ≤ 1024 := by omega
  have hy1 : 8 ≤ y := by omega
  have hy2 : y ≤ 256 := by omega
  have hyx : 1 + y ≤ x := by have := h.2; omega
  have HRD : Hid (∀ (w' : World), Below w.heap.size w w' → Calls Tryz.prog 25 #[.pointer (some ⟨g, 0, none⟩), .int .i64 0] w' fun e w'' => e = .returned (.tuple #[.string b0, .int .i64 0]) ∧ Below w'.heap.size w' w'') := by
    refine hid (fun w' hb => ?_)
    rw [hb0]
    exact Dv.read_any 0 (by omega) w' (hD.below hb)
  have HSR := hid (fun w => Sh.read_ok b0 x y z hb0s h0 w)
  have HBK : Hid (∀ w', Below w.heap.size w w' → Calls Tryz.prog 50 #[.pointer (some ⟨g, 0, none⟩)] w' fun e w'' => e = .returned (.int .i64 (x : Int)) ∧ w'' = w') := by
    refine hid (fun w' hb => ?_)
    have k := Dv.blocks_any w' (hD.below hb)
    rw [hSn] at k
    exact k
  have HO := hid (fun w => Sh.of_ok x y z h w)
  unfold Sh.regS at HO
  have HSE : Hid (∀ w', Below w.heap.size w w' → Calls Tryz.prog 53 #[.pointer (some ⟨g, 0, none⟩), .int .i64 1, .int .i64 (y : Int)] w' fun e w'' => ∃ v, e = .returned v ∧ SLie w'' v (val (Dv.seen S.L S.Q) 1 :: ringOf (Dv.seen S.L S.Q) (y - 1)) ∧ Below w'.heap.size w' w'') := by
    refine hid (fun w' hb => ?_)
    refine (seen_any 1 y (by omega) (by omega) w' (hD.below hb)).mono ?_
    rintro e w'' ⟨rfl, hl, hb2⟩
    refine ⟨_, rfl, ?_, hb2⟩
    have e1 := ringOf_rest (Dv.seen S.L S.Q) (y - 1)
    rw [show y - 1 + 1 = y by omega] at e1
    rw [e1] at hl
    exact hl
  have hdec := hG.dc
  have hrl := ringOf_len (Dv.seen S.L S.Q) (y - 1)
  have HOP : Hid (∀ v w', SLie w' v (val (Dv.seen S.L S.Q) 1 :: ringOf (Dv.seen S.L S.Q) (y - 1)) → Calls Tryz.prog 52 #[v] w' fun e w'' => OY w'.heap.size ((y : Int) - 1) T F Ls.length Ls e w'' ∧ Below w'.heap.size w' w'') := by
    refine hid (fun v w' hv => ?_)
    refine (open_go v _ _ w' hv ?_ (by omega) T F Ls.length hG.hd (by omega) hF1 hFe (by omega)).mono ?_
    · intro b hb
      rcases List.mem_cons.1 hb with rfl | hb
      · rw [hG.sz]; omega
      · unfold ringOf at hb
        obtain ⟨i, _, rfl⟩ := List.mem_map.1 hb
        rw [hG.sz]; omega
    · rintro e w'' ⟨hop, hb⟩
      have := hop.1 Ls rfl hdec
      rw [hrl, show ((y - 1 : Nat) : Int) = (y : Int) - 1 by omega] at this
      exact ⟨this, hb⟩
  have HRI := hid hRG
  have hSml : Hid (∀ q, (∀ L ∈ Ls.take q, okX y x L) → Sml (mg (Ls.take q))) := hid (fun q hq => mg_sml hx2 hq)
  have HWN := hid (fun (L : List Chg) (v : Value) (w : World) (hc : CLie w v L) (r2 r3 r4 : Int) => within_any v L x y z 1 (1 + y) r2 r3 r4 w hc)
  obtain ⟨n, hn⟩ : ∃ n, n = Ls.length := ⟨_, rfl⟩
  have hT2 : ((((T + used Ls) % (y - 1) : Nat)) : Int) = ((T : Int) + sumI (Ls.map szL)) % ((y : Int) - 1) := by
    rw [sum_used, show (y : Int) - 1 = ((y - 1 : Nat) : Int) by omega]
    push_cast
    rfl
  have HT2 := hid hT2
  have hsu := sum_used Ls
  clear hRG h h0 hb0 hsz hSn hx hy hD hG hdec hrl hT2
  go_enter Tryz.func11, Tryz.ntmps11
  go_wp2_with (first
    | (go_at_call 25; refine (HRD.out _ (Below.refl _ _)).mono ?_; rintro e w1 ⟨rfl, hb1⟩)
    | (go_at_call 51; refine (HSR.out _).mono ?_; rintro e w2 ⟨rfl, hb2⟩; have HB2 := hid (hb1.next hb2)))
  go_quiet ((go_at_call 50; exact Calls.quiet_of_same (HBK.out _ ((HB2.out.next (below_alloc _ _)).next ⟨rfl, rfl, rfl, Nat.le_refl _, fun _ _ => rfl⟩))))
  have HB3 : Hid (Below w.heap.size w ((w2.alloc (.cells #[.int .i64 (x : Int), .int .i64 (y : Int), .int .i64 (z : Int)] 23)).drewN nq)) := hid ((HB2.out.next (below_alloc _ _)).next ⟨rfl, rfl, rfl, Nat.le_refl _, fun _ _ => rfl⟩)
  have HV3 : Hid (((w2.alloc (.cells #[.int .i64 (x : Int), .int .i64 (y : Int), .int .i64 (z : Int)] 23)).drewN nq).heap[w2.heap.size]? = some (.cells #[.int .i64 (x : Int), .int .i64 (y : Int), .int .i64 (z : Int)] 23 (0, 0))) := hid (box_at w2 _)
  obtain ⟨w3, hw3⟩ : ∃ w3, w3 = (w2.alloc (.cells #[.int .i64 (x : Int), .int .i64 (y : Int), .int .i64 (z : Int)] 23)).drewN nq := ⟨_, rfl⟩
  rw [← hw3] at HB3 HV3 ⊢
  clear hw3
  obtain ⟨a0, a1, a2⟩ := three_cells HV3.out
  go_wp2_with (first
    | (go_at_call 40; refine (HO.out _).mono ?_; rintro e w4 ⟨rfl, hb4⟩
       have HV4 := hid ((hb4.block _ (lt_of_block HV3.out)).trans HV3.out)
       have HB4 := hid (HB3.out.next hb4)
       have hs4 := lt_of_block HV4.out
       obtain ⟨a0, a1, a2⟩ := three_cells HV4.out)
    | (go_at_call 53; refine (HSE.out _ (HB4.out.next (below_alloc _ _))).mono ?_; rintro e w5 ⟨v5, rfl, hsl, hb5⟩
       have HT5 : Hid (Two w w2.heap.size w4.heap.size _ _ w5) := hid (Two.next ⟨(Below.heap_alloc _ _ _ hs4).trans HV4.out, box_at w4 _, HB4.out.next (below_alloc _ _)⟩ hb5)
       have HSL := hid hsl
       clear hsl)
    | (go_at_call 52; refine (HOP.out _ _ HSL.out).mono ?_; rintro e w6 ⟨⟨j, r, tb, vs, rfl, hos6⟩, hb6⟩
       have HT6 := hid (HT5.out.next hb6)
       have HO6 := hid hos6
       have HB56 := hid hb6
       clear hos6 hb6
       obtain ⟨a0, a1, a2⟩ := three_cells HT6.out.1
       obtain ⟨b0, b1, b2, b3, b4⟩ := Sh.five_cells HT6.out.2.1
       have hs6 := lt_of_block HT6.out.1
       have hs7 := lt_of_block HT6.out.2.1))
  have HJY : Hid (JS j r w6 ((y : Int) - 1) T F Ls.length (Ls.map szL)) := hid HO6.out.js
  obtain ⟨cv, hcv⟩ : ∃ cv : Int, cv = (F : Int) + Ls.length := ⟨_, rfl⟩
  have hcv1 : 1 ≤ cv ∧ cv ≤ 2000000000000 := by omega
  have HCV := hid hcv
  have hwr : IntKind.i64.wrap (cv - 1) = cv - 1 := by rw [IntKind.wrap_i64]; omega
  have HNX : Hid (∀ w', Below w6.heap.size w6 w' → Calls Tryz.prog 54 #[.pointer (some ⟨j, 0, none⟩)] w' fun e w'' => e = .returned (.int .i64 cv) ∧ ∃ q, w'' = w'.drewN q) := by
    refine hid (fun w' hb => ?_)
    rw [hcv]
    have k := jnext j r _ T F Ls.length (Ls.map szL) (by omega) (by rw [List.length_map]; omega) (by omega) w' (HJY.out.below hb)
    rw [List.length_map] at k
    exact k
  clear hcv
  go_cut [12] (fun v12 wx => v12 = .pointer (some ⟨w6.heap.size + 1, 0, none⟩) ∧ StIs (w6.heap.size + 1) wx g x y z j (.slice none 0 0) w6.heap.size (.slice none 0 0) (cv - 1) ∧ Um.MIs w6.heap.size wx 0 [] ∧ Below w6.heap.size w6 wx)
  case first =>
    have hmm := @run_makeMap Tryz.prog
    go_region_with (first
      | (go_at_call 54; refine (HNX.out _ (by first | exact ⟨rfl, rfl, rfl, Nat.le_refl _, fun _ _ => rfl⟩ | exact (below_alloc w6 _).next ⟨rfl, rfl, rfl, Nat.le_refl _, fun _ _ => rfl⟩)).mono ?_; rintro e w8 ⟨rfl, q8, hw⟩
         have HH8 := hid (congrArg World.heap hw)
         have HB8 : Hid (Below w6.heap.size w6 w8) := by rw [hw]; first | exact ⟨rfl, rfl, rfl, Nat.le_refl _, fun _ _ => rfl⟩ | exact (below_alloc w6 _).next ⟨rfl, rfl, rfl, Nat.le_refl _, fun _ _ => rfl⟩
         clear hw
         have HT8 := hid (HT6.out.next HB8.out)
         obtain ⟨a0, a1, a2⟩ := three_cells HT8.out.1
         obtain ⟨b0, b1, b2, b3, b4⟩ := Sh.five_cells HT8.out.2.1
         have hs8 := lt_of_block HT8.out.1
         have hs9 := lt_of_block HT8.out.2.1))
    all_goals
      go_wp2
      go_meet
      first
        | exact st_a2 HH8.out HB8.out
        | exact st_b2 HH8.out HB8.out
  case rest =>
    obtain ⟨rfl, hst, hm7, hb7⟩ := hcut
    rename World => w7
    have HS7 := hid hst
    have HM7 := hid hm7
    have HB7 := hid hb7
    clear hst hm7 hb7 HNX HOP HSE
    have hMf : Hid (Um.MIs w6.heap.size w7 (mg (Ls.take 0)).length (mg (Ls.take 0))) := hid (by rw [List.take_zero]; exact HM7.out)
    have hj6 := HO6.out.js.lt
    have htl6 := HO6.out.tlt
    have h56 := HB56.out.size
    have hw5 := HT5.out.2.2.size
    have hs67 := HB7.out.size
    have hm7l := HM7.out.lt
    have hs7l := HS7.out.lt
    go_wp2
    go_loopw [65] (fun i wr => ∃ q : Nat, i = .int .i64 q ∧ q ≤ Ls.length ∧ (∀ L ∈ Ls.take q, okX y x L) ∧ Um.MIs w6.heap.size wr (mg (Ls.take q)).length (mg (Ls.take q)) ∧ Dv.Only [w6.heap.size] w7 wr) (fun i _ => Ls.length - (intOf i).toNat)
    case atStart => exact ⟨0, rfl, Nat.zero_le _, (by rw [List.take_zero]; intro L hL; cases hL), hMf.out, Dv.Only.refl _ _⟩
    case round =>
      obtain ⟨q, rfl, hq, hall, hMq, hOq⟩ := hrel
      have HAL := hid hall
      clear hall
      have HMq := hid hMq
      have HOq := hid hOq
      have HBr : Hid (Below w6.heap.size w6 wr) := hid (HB7.out.trans (hOq.below hs67 (by simp)))
      have HSr := hid (HS7.out.only hOq (by simp))
      have HTr := hid (HT6.out.next HBr.out)
      have hs7r := hOq.size
      clear hMq hOq
      obtain ⟨a0, a1, a2⟩ := three_cells HTr.out.1
      obtain ⟨b0, b1, b2, b3, b4⟩ := Sh.five_cells HTr.out.2.1
      by_cases hql : q < Ls.length
      · have hvq : ∃ vq, wr.cell? ⟨tb, q, none⟩ = some vq ∧ CLie wr vq Ls[q] ∧ ∀ a, vq.ownBlock = some a → a < w6.heap.size := by
          obtain ⟨cur, t1, t2, t3, t4, t5⟩ := HO6.out.tr
          have hv : q < vs.length := by omega
          refine ⟨vs[q], ?_, (t5 q hv hql).below HBr.out, fun a ha => (HO6.out.vo vs[q] (List.getElem_mem hv) a ha).2.1⟩
          have e := (HBr.out.block tb htl6).trans t1
          simp [World.cell?, e, t4 q hv]
        obtain ⟨vq, hc0, hcl, hown⟩ := hvq
        have HCL := hid hcl
        have HOW := hid hown
        have hmem : Ls[q] ∈ Ls := List.getElem_mem hql
        have HTK := hid (mg_take hql)
        have hml := (hSml.out q HAL.out).len
        have HW := hid (fun w (hh : CLie w vq Ls[q]) => HWN.out Ls[q] vq w hh)
        by_cases hwf : withinB (1 + (y : Int)) (x : Int) Ls[q] = false
        · have HNO : Hid (¬ ∀ L ∈ Ls, okX y x L) := hid (fun ha => by have e := (ha _ hmem).2; rw [hwf] at e; cases e)
          rw [hwf] at HW
          obtain ⟨Lq, hLq⟩ : ∃ Lq, Lq = Ls[q] := ⟨_, rfl⟩
          rw [← hLq] at HCL HW
          obtain ⟨ao, cap, hve, _, _, _⟩ := id HCL.out
          subst hve
          clear hcl hown hmem hLq hwf HTK
          go_wp2_with (first
            | (go_at_call 42; refine (HW.out _ HCL.out _ _ _).mono ?_; rintro e w8 ⟨rfl, hb8⟩
               have HB8 := hid hb8
               clear hb8))
          go_ret2
          exact ⟨fun ha => absurd ha HNO.out, fun _ => rfl, (HT6.out.2.2.trans (HBr.out.mono (by omega))).trans (HB8.out.mono (by omega))⟩
        have hwi : withinB (1 + (y : Int)) (x : Int) Ls[q] = true := by simpa using hwf
        have hokq : okX y x Ls[q] := ⟨HRI.out _ hmem, hwi⟩
        have HNX : Hid (∀ L ∈ Ls.take (q + 1), okX y x L) := hid (by
          rw [List.take_succ_eq_append_getElem hql]
          intro L hL
          rcases List.mem_append.1 hL with k | k
          · exact HAL.out L k
          · rw [List.mem_singleton] at k
            rw [k]
            exact hokq)
        have hrise := hokq.rise
        have HIN : Hid (∀ c ∈ Ls[q], inI c.b) := hid (fun c hc => by have := hrise.2.1 c hc; unfold inI; omega)
        have hl48 := hrise.2.2
        rw [hwi] at HW
        clear hwi hwf hokq
        have hKP := fun (L : List Chg) (hI : ∀ c ∈ L, inI c.b) (hn : (mg (Ls.take q)).length + L.length < 100000) w h1 h2 h3 => keep_any (s := w6.heap.size + 1) (g := g) (x := x) (y := y) (z := z) (j := j) (m := w6.heap.size) (N := (mg (Ls.take q)).length) (av := .slice none 0 0) (uv := .slice none 0 0) (c := cv - 1) (M := mg (Ls.take q)) vq L hI hn w h1 h2 h3 (by omega) (fun a ha => by have := HOW.out a ha; omega)
        have HKP := hid (hKP Ls[q] HIN.out (by omega))
        clear hKP
        obtain ⟨Lq, hLq⟩ : ∃ Lq, Lq = Ls[q] := ⟨_, rfl⟩
        rw [← hLq] at HCL HTK HW HKP
        obtain ⟨ao, cap, hve, _, _, _⟩ := id HCL.out
        subst hve
        clear hcl hown hmem hrise HIN hLq
        go_wp2_with (first
          | (go_at_call 42; refine (HW.out _ HCL.out _ _ _).mono ?_; rintro e w8 ⟨rfl, hb8⟩
             have HB8 := hid hb8
             clear hb8)
          | (go_at_call 55; refine (HKP.out _ (HSr.out.below HB8.out) (HMq.out.same (HB8.out.block _ (by omega))) (HCL.out.below HB8.out)).mono ?_; rintro e w9 ⟨rfl, hm9, ho9⟩
             have HM9 := hid hm9
             have HO9 := hid ho9
             clear hm9 ho9))
        go_roundw
        case rel =>
          refine ⟨q + 1, by go_num, by omega, HNX.out, ?_, (HOq.out.trans (Dv.Only.of_below (fp := [w6.heap.size]) HB8.out) (fun _ h => .inl h)).trans HO9.out (fun _ h => .inl h)⟩
          rw [HTK.out]
          exact HM9.out.shrink
        case measure => simp only [intOf] at *; omega
      · have hqe : q = Ls.length := by omega
        have HMf : Hid (Um.MIs w6.heap.size wr (mg Ls).length (mg Ls)) := hid (by
          have k := HMq.out
          rw [hqe, List.take_of_length_le (Nat.le_refl _)] at k
          exact k)
        have hall : ∀ L ∈ Ls, okX y x L := by have k := HAL.out; rw [hqe, List.take_of_length_le (Nat.le_refl _)] at k; exact k
        have HALL := hid hall
        clear hall
        have hml := (hSml.out Ls.length (by rw [List.take_of_length_le (Nat.le_refl _)]; exact HALL.out)).len
        rw [List.take_of_length_le (Nat.le_refl _)] at hml
        have hBrs := HBr.out.size
        have hneg : ¬ q < Ls.length := hql
        subst hqe
        have hrl : ∀ a, r = some a → w5.heap.size ≤ a ∧ a < w6.heap.size ∧ a ≠ j := fun a ha => ⟨HO6.out.b2 a ha, (hj6.2 a ha).1, (hj6.2 a ha).2⟩
        have HRL := hid hrl
        have hjb := HO6.out.b1
        have HLY : Hid (Calls Tryz.prog 56 #[.pointer (some ⟨w6.heap.size + 1, 0, none⟩)] wr fun e w' => e = .returned (.tuple #[]) ∧ Q.SA wr.heap.size (w6.heap.size + 1) w' g x y z j w6.heap.size (.slice none 0 0) ((F : Int) + Ls.length - 1) (mendA y T F Ls) ∧ JS j r w' ((y : Int) - 1) ((T + used Ls) % (y - 1)) (F + Ls.length) 0 [] ∧ CF (w6.heap.size + 1) j r wr w') := by
          rw [← HCV.out]
          have hsr : some (w6.heap.size + 1) ≠ r := fun e => by have := (HRL.out _ e.symm).2.1; omega
          have hJr := HJY.out.below HBr.out
          by_cases hLs : Ls = []
          · have k := lay_none (P := (y : Int) - 1) (by omega) wr HSr.out (by rw [hLs] at hJr; exact hJr)
            refine hid (k.mono ?_)
            rintro e w' ⟨rfl, q9, rfl⟩
            have e0 : mendA y T F Ls = [] := if_pos hLs
            rw [e0]
            have e1 : (T + used Ls) % (y - 1) = T := by rw [hLs]; show (T + 0) % (y - 1) = T; rw [Nat.add_zero]; exact Nat.mod_eq_of_lt hTl
            have e2 : F + Ls.length = F := by rw [hLs]; rfl
            have hb9 : Below wr.heap.size wr (wr.drewN q9) := ⟨rfl, rfl, rfl, Nat.le_refl _, fun _ _ => rfl⟩
            refine ⟨rfl, ⟨⟨_, HSr.out.below hb9, Q.ARow.none _ _ _⟩, by have := HSr.out.lt; omega, Nat.le_refl _⟩, ?_, CF.of_below hb9⟩
            rw [e1, e2]
            have k2 := hJr.below hb9
            rw [hLs] at k2
            exact k2
          · have hl0 : Ls.length ≠ 0 := fun e => hLs (List.eq_nil_of_length_eq_zero e)
            have hJr' : JS j r wr ((y : Int) - 1) T F (Ls.map szL).length (Ls.map szL) := by rw [List.length_map]; exact hJr
            have k := lay_some (s := w6.heap.size + 1) (g := g) (x := x) (y := y) (z := z) (j := j) (m := w6.heap.size) (N := (mg Ls).length) (ao := none) (uv := .slice none 0 0) (c := cv - 1) (r := r) (P := (y : Int) - 1) (T := T) (F := F) (T' := (T + used Ls) % (y - 1)) (l := Ls.map szL) (M := mg Ls) (by omega) (by omega) (by omega) (by rw [List.length_map]; omega) (by rw [List.length_map]; exact hl0) (by rw [List.length_map]; omega) (fun n hn => by obtain ⟨L, _, rfl⟩ := List.mem_map.1 hn; unfold szL; omega) (by rw [hsu]; omega) HT2.out (by omega) wr HSr.out hJr' HMf.out (by omega) hsr (by omega)
            rw [List.length_map] at k
            have e0 : mendA y T F Ls = _ := if_neg hLs
            rw [e0]
            exact hid k
        clear hrl
        go_wp2_with (first
          | (go_at_call 56; refine HLY.out.mono ?_; rintro e w9 ⟨rfl, hs9, hj9, hc9⟩
             have HS9 := hid hs9
             have HJ9 := hid hj9
             have HC9 := hid hc9
             clear hs9 hj9 hc9))
        go_ret2
        have hb9 : Below w.heap.size wr w9 := HC9.out.belowB (by omega) (by omega) (by omega) (fun a ha => by have := (HRL.out a ha).1; omega)
        refine ⟨fun _ => ?_, fun hn => absurd HALL.out hn, ((HT6.out.2.2.trans (HBr.out.mono (by omega))).trans hb9)⟩
        refine ⟨_, j, _, r, _, rfl, HS9.out, HJ9.out, HMf.out.same (HC9.out.block _ (by omega) (by omega) (by omega) (fun e => by have := (HRL.out _ e.symm).2.1; omega)), by omega, by omega, by omega, fun a ha => by have := (HRL.out a ha).1; omega, by omega, by omega, by omega, by omega, fun a ha => by obtain ⟨k1, k2, k3⟩ := HRL.out a ha; exact ⟨by omega, by omega, k3⟩, by omega, by omega⟩
end Go.Proofs.YtopebghandojbaaGreat
