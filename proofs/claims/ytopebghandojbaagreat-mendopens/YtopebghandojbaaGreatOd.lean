import Derived.Test.YtopebghandojbaaGreatGr
import Derived.Test.YtopebghandojbaaGreatOa
namespace Go.Proofs.YtopebghandojbaaGreat
open Go.RowKit Go.Maps

set_option maxRecDepth 100000 in
set_option maxHeartbeats 1500000 in
/-- the document's Open of a device that says transactions -/
theorem ropen_raw {N0 B d T F : Nat} {fp : List Nat} {f : Nat → Option ByteArray} {Ls : List (List Chg)} (x y z : Nat) (h : Sh.okS x y z) (hG : RawD x y z f T F Ls) (w : World) (hD : Dv.XD B d w x f [] fp) (hN : N0 ≤ B) (hB : B ≤ w.heap.size) :
    Calls Tryz.prog 12 #[.pointer (some ⟨d, 0, none⟩)] w fun e w' => ((∀ L ∈ Ls, okX y x L) → ∃ s j M', e = .returned (.tuple #[.pointer (some ⟨s, 0, none⟩), .int .i64 0]) ∧ RR N0 M' s d x y z j w' ⟨f, [], mg Ls, [], (F : Int) + Ls.length - 1⟩ (mendA y T F Ls) ((T + used Ls) % (y - 1)) (F + Ls.length) [] ∧ ∀ b, M' b → b ∈ fp ∨ w.heap.size ≤ b) ∧ ((¬ ∀ L ∈ Ls, okX y x L) → e = .returned (.tuple #[.pointer none, .int .i64 70])) ∧ Keep (fun b => b ∈ fp) w w' := by
  have HSZ := hid hG.sz
  have hsu := hG.su
  have hx := h.1.1
  have hy := h.1.2.1
  have hsp := h.2
  have HRD := hid (fun (k : Nat) (hk : k < x) w' (kb : Below w.heap.size w w') => (show Calls Tryz.prog 26 #[.pointer (some ⟨d, 0, none⟩), .int .i64 (k : Int)] w' fun e w'' => e = .returned (.tuple #[.string (val f k), .int .i64 0]) ∧ Below w'.heap.size w' w'' from (hD.below kb).read k hk (by simp) w'))
  have HR0 := hid (HRD.out 0 (by omega) w (Below.refl _ _))
  obtain ⟨su, hsu2⟩ : ∃ su, su = val f 0 := ⟨_, rfl⟩
  rw [← hsu2] at HR0 hsu
  have hss : su.size = 128 := by rw [hsu2]; exact HSZ.out 0
  have HRS := hid (fun w => Sh.refRead_ok su x y z (by omega) hsu w)
  have HDL : Hid (∃ bl qv, w.heap[d]? = some (.cells #[.slice (some ⟨bl, 0, none⟩) x x, qv] 58 (0, 0))) := hid (by
    obtain ⟨L, ⟨⟨bl, qv, h1, _⟩, _⟩, h2, _⟩ := hD
    rw [h2] at h1
    exact ⟨bl, qv, h1⟩)
  have HHD := hid hG.hd
  have hTl := hG.tl
  have hF1 := hG.f1
  have hFe := hG.fe
  have hus := hG.us
  have hle := len_le_used Ls
  have HDC := hid hG.dc
  have HRG := hid (fun L (hL : L ∈ Ls) => decs_right hG.dc L hL)
  have HXD := hid hD
  have HFL := hid hD.lo
  have hft := decs_top hG.dc hFe
  clear hsu2 hsu hD hG
  go_enter Tryz.func12, Tryz.ntmps12
  go_upto_region 3 with (first
    | (go_at_call 26; refine HR0.out.mono ?_; rintro e w1 ⟨rfl, hb1⟩)
    | (go_at_call 57; refine (HRS.out _).mono ?_; rintro e w2 ⟨rfl, hb2⟩))
  have HB2 := hid (hb1.next hb2)
  have HB3 := hid (HB2.out.next (below_alloc w2 (.cells #[.int .i64 (x : Int), .int .i64 (y : Int), .int .i64 (z : Int)] 23)))
  have HX := hid (box_at w2 (.cells #[.int .i64 (x : Int), .int .i64 (y : Int), .int .i64 (z : Int)] 23))
  obtain ⟨gs, hgs⟩ : ∃ gs, gs = w2.heap.size := ⟨_, rfl⟩
  rw [← hgs] at HX ⊢
  obtain ⟨w3, hw3⟩ : ∃ w3, w3 = w2.alloc (.cells #[.int .i64 (x : Int), .int .i64 (y : Int), .int .i64 (z : Int)] 23) := ⟨_, rfl⟩
  rw [← hw3] at HB3 HX ⊢
  have hgl := lt_of_block HX.out
  clear hw3 hgs hb1 hb2 HB2
  obtain ⟨bl, qv, hdb⟩ := HDL.out
  have hdl := lt_of_block hdb
  obtain ⟨d0, d1, d2⟩ := three_cells HX.out
  have e0 := (two_cells ((HB3.out.block _ hdl).trans hdb)).1
  go_cut [40] (fun cv wx => cv = .bool false ∧ Below w3.heap.size w3 wx)
  case first =>
    go_quiet (fail)
    go_wp2
    go_meet
    exact ⟨rfl, rfl, rfl, rfl, Nat.le_refl _, fun _ _ => rfl⟩
  case rest =>
    obtain ⟨rfl, hb4⟩ := hcut
    rename World => w4
    have HB4 := hid (HB3.out.next hb4)
    have HX4 := hid ((hb4.block _ hgl).trans HX.out)
    have hg4 := lt_of_block HX4.out
    clear hb4 d0 d1 d2 e0 hdb hdl hgl
    go_wp2_with fail
    go_loopw [8, 9] (fun rv i wr => ∃ q : Nat, i = .int .i64 q ∧ q ≤ y ∧ SRow w4.heap.size wr rv ((List.range q).map fun i => val f (1 + i)) ∧ Below w4.heap.size w4 wr) (fun _ i _ => y - (intOf i).toNat)
    case atStart => exact ⟨0, rfl, Nat.zero_le _, SRow.nil _ _, Below.refl _ _⟩
    case round =>
      obtain ⟨q, rfl, hq, hrow, hbq⟩ := hrel
      have HRow := hid hrow
      have HBq := hid hbq
      have hzq := hbq.size
      obtain ⟨d0, d1, d2⟩ := three_cells ((hbq.block _ hg4).trans HX4.out)
      obtain ⟨ro, rc, rfl, _, _⟩ := hrow.len
      clear hrow hbq
      have hln : ((List.range q).map fun i => val f (1 + i)).length = q := by simp
      by_cases hqy : q < y
      · have HRq := HRD.out (1 + q) (by omega) wr (HB4.out.next HBq.out)
        rw [show ((1 + q : Nat) : Int) = 1 + (q : Int) by omega] at HRq
        have HRQ := hid HRq
        have HT := hid (rangeS y (fun i => val f (1 + i)) q)
        obtain ⟨T, hTT⟩ : ∃ T, T = (List.range q).map fun i => val f (1 + i) := ⟨_, rfl⟩
        rw [← hTT] at HRow HT hln ⊢
        obtain ⟨u, hu⟩ : ∃ u, u = val f (1 + q) := ⟨_, rfl⟩
        have HT : Hid ((List.range (q + 1)).map (fun i => val f (1 + i)) = T ++ [u]) := hid (by rw [hu]; exact HT.out)
        rw [← hu] at HRQ
        clear HRq hTT hu
        rw [hln] at HRow ⊢
        go_wp2_with (first
          | (go_at_call 26; refine HRQ.out.mono ?_; rintro e w5 ⟨rfl, hb5⟩
             have HR5 := hid (HRow.out.below hb5)
             have HB5 := hid (HBq.out.next hb5)
             clear hb5)
          | (at_builtin; refine pushS (w0 := w5) rfl (.tmp 54) (.tmp 56) rfl w4.heap.size w5.heap.size (.slice ro q rc) T u rfl rfl rfl HR5.out (by omega) HB5.out.size ?_; intro v6 w6 hr6 hb6 _))
        go_roundw
        case rel => exact ⟨q + 1, by go_num, by omega, by rw [HT.out]; exact hr6, HB5.out.trans hb6⟩
        case measure => simp only [intOf] at *; omega
      · have hqe : q = y := by omega
        subst hqe
        obtain ⟨p, hp⟩ : ∃ p, q = p + 1 := ⟨q - 1, by omega⟩
        have hlist : ((List.range q).map fun i => val f (1 + i)) = val f 1 :: ringOf f (q - 1) := by
          have e := ringOf_rest f p
          rw [hp, Nat.add_sub_cancel]
          exact e
        have hv := HRow.out.lie
        obtain ⟨rv, hrv⟩ : ∃ rv, rv = Value.slice ro ((List.range q).map fun i => val f (1 + i)).length rc := ⟨_, rfl⟩
        rw [← hrv, hlist] at hv
        have hrl := ringOf_len f (q - 1)
        have hyes := ropen_yes _ _ _ wr hv (fun b hb => by
          rcases List.mem_cons.1 hb with e | hb
          · rw [e, HSZ.out]; decide
          · unfold ringOf at hb
            obtain ⟨i, _, rfl⟩ := List.mem_map.1 hb
            rw [HSZ.out]; decide) (by rw [hrl]; omega) T F Ls.length HHD.out (by rw [hrl]; omega) hF1 hFe (by rw [hrl]; omega)
        have HOP : Hid (Calls Tryz.prog 58 #[rv] wr fun e w' => ∃ g r us, e = .returned (.tuple #[.pointer (some ⟨g, 0, none⟩), .int .i64 0]) ∧ ROS wr.heap.size g r w' ((q : Int) - 1) T F Ls.length Ls us ∧ Below wr.heap.size wr w') := hid (hyes.mono (by
          rintro e w' ⟨h1, hb⟩
          obtain ⟨g, r, us, rfl, hr⟩ := h1.1 Ls rfl HDC.out
          rw [hrl, show ((q - 1 : Nat) : Int) = (q : Int) - 1 by omega] at hr
          exact ⟨g, r, us, rfl, hr, hb⟩))
        clear hv hyes hlist hrl hp
        rw [hln] at hrv
        subst hrv
        rw [hln]
        go_upto_region 14 with (first
          | (go_at_call 58; refine HOP.out.mono ?_; rintro e w6 ⟨j, r, us, rfl, hos, hb6⟩))
        have HO6 := hid hos
        have hln6 := hos.ln
        have HK6 := hid hos.rk
        have HB6 := hid (HBq.out.next hb6)
        obtain ⟨cv, hcv⟩ : ∃ cv : Int, cv = (F : Int) + Ls.length := ⟨_, rfl⟩
        have hcv1 : 1 ≤ cv ∧ cv ≤ 2000000000000 := by omega
        have hwr : IntKind.i64.wrap (cv - 1) = cv - 1 := by rw [IntKind.wrap_i64]; omega
        have HNX : Hid (∀ w', Below w6.heap.size w6 w' → Calls Tryz.prog 59 #[.pointer (some ⟨j, 0, none⟩)] w' fun e w'' => e = .returned (.int .i64 cv) ∧ ∃ q, w'' = w'.drewN q) := hid (fun w' k => (refNext_j j r ((q : Int) - 1) T F Ls.length us (by omega) (by omega) w' (HK6.out.below k)).mono (by
          rintro e w'' ⟨rfl, hq⟩
          exact ⟨by rw [hcv, hln6], hq⟩))
        have HCV := hid hcv
        clear hcv
        clear d0 d1 d2 hos hb6
        obtain ⟨d0, d1, d2⟩ := three_cells ((HB6.out.block _ hg4).trans HX4.out)
        go_cut [14] (fun sv wx => ∃ s, sv = .pointer (some ⟨s, 0, none⟩) ∧ RSt s wx d x q z j (.slice none 0 0) (.slice none 0 0) (.slice none 0 0) (cv - 1) ∧ w6.heap.size ≤ s ∧ Below w6.heap.size w6 wx)
        case first =>
          go_region_with (go_at_call 59; refine (HNX.out _ (by exact ⟨rfl, rfl, rfl, Nat.le_refl _, fun _ _ => rfl⟩)).mono ?_; rintro e w7 ⟨rfl, q7, hw⟩; have hw := hw.symm; subst hw)
          all_goals
            go_wp2
            go_meet
            refine ⟨_, rfl, box_at _ _, Nat.le_refl _, ?_⟩
            exact ⟨rfl, rfl, rfl, (below_alloc (w6.drewN (1 + q7)) _).size, fun k hk => Below.heap_alloc (w6.drewN (1 + q7)) _ k hk⟩
        case rest =>
          obtain ⟨s, rfl, hst, hs, hb8⟩ := hcut
          rename World => w8
          have HS8 := hid hst
          have HK8 := hid (HK6.out.below hb8)
          have HB8 := hid ((HB4.out.next HB6.out).next hb8)
          have hz6 := HB6.out.size
          have hz4 := HB4.out.size
          obtain ⟨Lv, hlo, hri8, hvr8, _⟩ := HK8.out
          obtain ⟨lo, lc, rfl, hlc1, hlc2⟩ := hvr8.len
          have c4 : w8.cell? ⟨j, 4, none⟩ = some (.slice lo us.length lc) := hri8.cells.2.2.2.2
          rw [hln6] at c4 hlo hri8 hvr8
          have HVR := hid hvr8
          have hjl := HK8.out.lt.1
          unfold maxLen at hlc2
          have HB68 := hid hb8
          have HX6 := hid ((HB6.out.block _ hg4).trans HX4.out)
          have hg6 := lt_of_block HX6.out
          have HB46 := hid (HB4.out.next HB6.out)
          have hz46 := HB46.out.size
          have hz8 := hb8.size
          have hMz : mg (Ls.take 0) = [] := rfl
          have HGT := hid (fun w' (k : Below w6.heap.size w6 w') (i : Nat) (hi : i < Ls.length) => (show ∃ b off, lo = some ⟨b, off, none⟩ ∧ b < w'.heap.size ∧ w'.cell? ⟨b, off + i, none⟩ = some (us[i]'(by omega)) ∧ CLie w' (us[i]'(by omega)) Ls[i] from by
            obtain ⟨Lv', e1, e2, e3, _⟩ := HK6.out.below k
            have e4 : Lv' = .slice lo Ls.length lc := by
              obtain ⟨Lv2, g1, g2, g3, _⟩ := HK6.out
              have q1 : RI j w8 ((q : Int) - 1) T F Ls.length Lv2 := (hb8.block j (HK6.out.lt.1)).trans g2
              have q2 : RI j w' ((q : Int) - 1) T F Ls.length Lv2 := (k.block j (HK6.out.lt.1)).trans g2
              have q3 := hri8.cells.2.2.2.2
              have q4 := q1.cells.2.2.2.2
              have q5 := e2.cells.2.2.2.2
              have q6 := q2.cells.2.2.2.2
              rw [q3] at q4
              rw [q5] at q6
              injection q4 with q4
              injection q6 with q6
              rw [q6, ← q4]
            rw [e4] at e3
            obtain ⟨b, off, h1, h2, h3⟩ := e3.cell i (by omega)
            exact ⟨b, off, h1, h2, h3, (HO6.out.keep k).cl i (by omega) hi⟩))
          clear hst hb8 d0 d1 d2 hri8 hvr8 hlo HNX HOP
          go_wp2_with fail
          go_loopw [79] (fun i wr => ∃ (k : Nat) (ov : Value), i = .int .i64 k ∧ k ≤ Ls.length ∧ (∀ L ∈ Ls.take k, okX q x L) ∧ RSt s wr d x q z j ov (.slice none 0 0) (.slice none 0 0) (cv - 1) ∧ CLie wr ov (mg (Ls.take k)) ∧ (∀ b, ov.ownBlock = some b → w6.heap.size ≤ b ∧ ∃ cur, wr.heap[b]? = some (.cells cur 94 (0, 0))) ∧ Below w6.heap.size w6 wr) (fun i _ => Ls.length - (intOf i).toNat)
          case atStart => exact ⟨0, _, rfl, Nat.zero_le _, (by rw [List.take_zero]; intro L hL; cases hL), HS8.out, CLie.nil _, (fun b hb => by cases hb), HB68.out⟩
          case round =>
            obtain ⟨k, ov, rfl, hk, hall, hsk, hmk, hok, hbk⟩ := hrel
            have HAL := hid hall
            have HSk := hid hsk
            have HMk := hid hmk
            have HOk := hid hok
            have HBk := hid hbk
            have hzk := hbk.size
            clear hall hsk hmk hok hbk
            by_cases hkl : k < Ls.length
            · obtain ⟨gb, of2, e, hgl, d0, hcl⟩ := HGT.out wr HBk.out k hkl
              subst e
              have hmem : Ls[k] ∈ Ls := List.getElem_mem hkl
              have hrg := HRG.out _ hmem
              have HMG := hid (mg_take hkl)
              have hmu := mg_used (Ls.take k)
              have hut : used (Ls.take k) ≤ used Ls := by rw [used_cut Ls k]; omega
              have hSM := mg_sml (show x ≤ 1024 by omega) HAL.out
              obtain ⟨uv, huv⟩ : ∃ uv, uv = us[k]'(by omega) := ⟨_, rfl⟩
              rw [← huv] at d0 hcl
              obtain ⟨L, hL⟩ : ∃ L, L = Ls[k] := ⟨_, rfl⟩
              have HLK := hid hL
              rw [← hL] at hcl hmem hrg HMG
              have hr48 : L.length ≤ 48 := by
                unfold right at hrg
                simp at hrg
                exact hrg.1
              have HRT := hid hrg
              have HMM := hid hmem
              have HCL := hid hcl
              obtain ⟨G, hGm⟩ : ∃ G, G = mg (Ls.take k) := ⟨_, rfl⟩
              rw [← hGm] at HMk hmu hSM HMG
              have HSM := hid hSM
              have HRL := hid (right_sml HRT.out)
              have HCW : Hid (∀ w', Below w6.heap.size w6 w' → CLie w' uv L) := hid (fun w' kk => by
                obtain ⟨_, _, _, _, _, e⟩ := HGT.out w' kk k hkl
                rw [huv, hL]
                exact e)
              obtain ⟨uo, uc, rfl, hul, huc, _⟩ := hcl
              unfold maxLen at huc
              clear huv hL hGm hmem hrg hSM
              go_wp2_with fail
              go_loopw [85] (fun i wk => ∃ (n : Nat) (ov' : Value), i = .int .i64 n ∧ n ≤ L.length ∧ withinB (1 + (q : Int)) (x : Int) (L.take n) = true ∧ RSt s wk d x q z j ov' (.slice none 0 0) (.slice none 0 0) (cv - 1) ∧ CLie wk ov' (Um.mergeL G (L.take n)) ∧ (∀ b, ov'.ownBlock = some b → w6.heap.size ≤ b ∧ ∃ cur, wk.heap[b]? = some (.cells cur 94 (0, 0))) ∧ Below w6.heap.size w6 wk) (fun i _ => L.length - (intOf i).toNat)
              case atStart => exact ⟨0, ov, rfl, Nat.zero_le _, (by rw [List.take_zero]; rfl), HSk.out, HMk.out, HOk.out, HBk.out⟩
              case round =>
                obtain ⟨n, ov', rfl, hn, hwi, hsn, hmn, hon, hbn⟩ := hrel
                rename World => wk
                have HWI := hid hwi
                have HSn := hid hsn
                have HMn := hid hmn
                have HOn := hid hon
                have HBn := hid hbn
                have hzn := hbn.size
                clear hwi hsn hmn hon hbn
                by_cases hnl : n < L.length
                · obtain ⟨ao3, cp3, e3, _, _, h3⟩ := HCW.out wk HBn.out
                  injection e3 with e31 e32 e33
                  obtain ⟨gb2, of3, e4, hgl2, d1, d2⟩ := h3 n hnl
                  rw [← e31] at e4
                  subst e4
                  clear h3 e31 e32 e33
                  have HT := hid (mergeL_take G L n hnl)
                  have hmc : L[n] ∈ L := List.getElem_mem hnl
                  have HWT : Hid (withinB (1 + (q : Int)) (x : Int) (L.take (n + 1)) = (withinB (1 + (q : Int)) (x : Int) (L.take n) && (decide (1 + (q : Int) ≤ L[n].b) && decide (L[n].b < (x : Int))))) := hid (by
                    rw [List.take_succ_eq_append_getElem hnl]
                    unfold withinB
                    rw [List.all_append]
                    simp only [List.all_cons, List.all_nil, Bool.and_true])
                  have HNW : Hid (¬ ((q : Int) < L[n].b ∧ L[n].b < (x : Int)) → withinB (1 + (q : Int)) (x : Int) L ≠ true) := hid (fun hc hw => hc (by
                    unfold withinB at hw
                    have k1 := List.all_eq_true.1 hw _ hmc
                    simp at k1
                    exact ⟨by omega, k1.2⟩))
                  obtain ⟨cc, hcc⟩ : ∃ cc, cc = L[n] := ⟨_, rfl⟩
                  rw [← hcc] at d1 d2 HT HWT HNW
                  clear hcc hmc
                  have hmn2 := mergeL_le (L.take n) G
                  have hri := (HSM.out.merge (L := L.take n) ⟨(HRL.out).1.sublist (List.take_sublist _ _), fun c hc => (HRL.out).2 c (List.mem_of_mem_take hc)⟩).1
                  obtain ⟨ovo, ovc, rfl, _, _⟩ : ∃ o n2, ov' = .slice o (Um.mergeL G (L.take n)).length n2 ∧ True ∧ True := by obtain ⟨a, b, e, _⟩ := HMn.out; exact ⟨a, b, e, trivial, trivial⟩
                  have hl600 : (Um.mergeL G (L.take n)).length ≤ 600 := by rw [List.length_take] at hmn2; omega
                  have HW := hid (fun w' (kk : Below wk.heap.size wk w') => Um.with_any (.slice ovo (Um.mergeL G (L.take n)).length ovc) _ cc w' (HMn.out.below kk) hri hl600)
                  have HX5 := hid ((HBn.out.block _ (by omega)).trans HX6.out)
                  have hgk : gs < wk.heap.size := lt_of_block HX5.out
                  have hB5 := below_alloc wk (.cells #[.int .i64 cc.b, .string cc.d] 94)
                  have HB5 := hid hB5
                  have HD5 := hid (box_at wk (.cells #[.int .i64 cc.b, .string cc.d] 94))
                  have hz5 : (wk.alloc (.cells #[.int .i64 cc.b, .string cc.d] 94)).heap.size = wk.heap.size + 1 := by simp
                  have hS5 := HSn.out.below hB5
                  have HS5 := hid hS5
                  obtain ⟨k0, k1, k2⟩ := three_cells ((hB5.block _ hgk).trans HX5.out)
                  obtain ⟨d3, d4⟩ := two_cells HD5.out
                  clear hB5 hS5 hri hmn2
                  go_upto_region 21 with fail
                  obtain ⟨w5, hw5⟩ : ∃ w5, w5 = wk.alloc (.cells #[.int .i64 cc.b, .string cc.d] 94) := ⟨_, rfl⟩
                  rw [← hw5] at d3 d4 k0 k1 k2 HB5 HD5 HS5 hz5 ⊢
                  clear hw5 d1 d2
                  by_cases hh : (q : Int) < cc.b ∧ cc.b < (x : Int)
                  · have HH := hid (fun w => home_any x q z cc.b w)
                    rw [show (decide ((q : Int) < cc.b) && decide (cc.b < (x : Int))) = true by simp [hh.1, hh.2]] at HH
                    have HWN : Hid (withinB (1 + (q : Int)) (x : Int) (L.take (n + 1)) = true) := hid (by
                      rw [HWT.out, HWI.out]
                      simp
                      omega)
                    go_upto_region 23 with (first
                      | (go_at_call 60; refine (HH.out _).mono ?_; rintro e w7 ⟨rfl, hb7⟩))
                    have hS7 := HS5.out.below hb7
                    have HS7 := hid hS7
                    have HB7 := hid (HB5.out.next hb7)
                    have hz7 := hb7.size
                    clear d3 d4 k0 k1 k2
                    obtain ⟨d3, d4⟩ := two_cells ((hb7.block _ (by omega)).trans HD5.out)
                    obtain ⟨_, _, _, _, _, c5, _, _, _⟩ := hS7.cells
                    have f5 := hS7.free 5
                    have hs7 := hS7.lt
                    clear hb7 hS7
                    go_region_with (go_at_call 61; refine (HW.out _ (by exact ⟨HB7.out.os, HB7.out.tape, HB7.out.output, HB7.out.size, HB7.out.block⟩)).mono ?_; rintro e w9 ⟨v9, rfl, hc9, hb9, ho9⟩; obtain ⟨o9, n9, rfl, _, _⟩ := id hc9; have hb79 : Below w7.heap.size w7 w9 := ⟨hb9.os, hb9.tape, hb9.output, hb9.size, hb9.block⟩; have hS9 := HS7.out.below hb79; have f9 := hS9.free 5; obtain ⟨_, _, _, _, _, c59, _, _, _⟩ := hS9.cells)
                    all_goals
                      go_wp2
                      go_roundw
                      case rel =>
                        have hb6' : Below wk.heap.size wk w9 := HB7.out.next hb79
                        have hset : ∀ v9, Dv.Only [s] w9 (w9.setCell ⟨s, 5, none⟩ v9) := fun v9 => Dv.Only.setCell (fp := [s]) _ (by simp)
                        have hsn := HSn.out.lt
                        have hbx : Below w6.heap.size w6 w9 := HBn.out.trans (hb6'.mono hzn)
                        refine ⟨n + 1, _, by go_num, by omega, HWN.out, hS9.over _, by rw [HT.out]; exact CLie.only (hset _) hc9 (fun a ha => by simp; have := (ho9 a ha).1; have : w7.heap.size ≤ a := this; omega), (fun a ha => ?_), hbx.trans ((hset _).below hbx.size (by simp; exact hs))⟩
                        obtain ⟨q1, cur, q2⟩ := ho9 a ha
                        have q1 : w7.heap.size ≤ a := q1
                        exact ⟨by omega, cur, (Below.heap_setCell _ _ _ _ (by show a ≠ s; omega)).trans q2⟩
                      case measure => simp only [intOf] at *; omega
                  · have HH := hid (fun w => home_any x q z cc.b w)
                    have hdf : (decide ((q : Int) < cc.b) && decide (cc.b < (x : Int))) = false := by
                      rw [Bool.and_eq_false_iff]
                      by_cases h1 : (q : Int) < cc.b
                      · exact .inr (decide_eq_false fun h2 => hh ⟨h1, h2⟩)
                      · exact .inl (decide_eq_false h1)
                    rw [hdf] at HH
                    have HNO : Hid (¬ ∀ L ∈ Ls, okX q x L) := hid (fun ha => HNW.out hh (ha L HMM.out).2)
                    clear hdf
                    go_wp2_with (first
                      | (go_at_call 60; refine (HH.out _).mono ?_; rintro e w7 ⟨rfl, hb7⟩))
                    go_ret2
                    exact ⟨fun ha => absurd ha HNO.out, fun _ => rfl, Keep.of ((HB46.out.trans (HBn.out.mono hz46)).next (HB5.out.next hb7))⟩
                · have hne : n = L.length := by omega
                  subst hne
                  have HWL : Hid (okX q x L) := hid ⟨HRT.out, by have := HWI.out; rw [List.take_length] at this; exact this⟩
                  have HNX : Hid (∀ L ∈ Ls.take (k + 1), okX q x L) := hid (by
                    rw [List.take_succ_eq_append_getElem hkl]
                    intro X hX
                    rcases List.mem_append.1 hX with e | e
                    · exact HAL.out X e
                    · rw [List.mem_singleton] at e
                      rw [e, ← HLK.out]
                      exact HWL.out)
                  go_wp2
                  go_roundw
                  case rel =>
                    refine ⟨k + 1, _, by go_num, by omega, HNX.out, HSn.out, ?_, HOn.out, HBn.out⟩
                    have hm := HMn.out
                    rw [List.take_length] at hm
                    rw [HMG.out]
                    exact hm
                  case measure => simp only [intOf] at *; omega
            · have hke : k = Ls.length := by omega
              subst hke
              have hall : ∀ L ∈ Ls, okX q x L := by have e := HAL.out; rw [List.take_length] at e; exact e
              have HALL := hid hall
              have hmf := HMk.out
              rw [List.take_length] at hmf
              have hbd : Below w.heap.size w wr := HB46.out.trans (HBk.out.mono hz46)
              obtain ⟨fp', g1, g2, _, g4⟩ := (HXD.out.below hbd).tight
              have hrk := HK6.out.below HBk.out
              have hjl := hrk.lt
              have hzs := HSk.out.lt
              have hzb := hbd.size
              have hmu := mg_used Ls
              have hRR : RR N0 (fun b => b ∈ fp ∨ (w.heap.size ≤ b ∧ b < wr.heap.size)) s d x q z j wr ⟨f, [], mg Ls, [], cv - 1⟩ [] T F (Ls.map szL) := by
                refine ⟨⟨ov, .slice none 0 0, .slice none 0 0, B, fp', r, us, [], HSk.out, RRow.nil _, hmf, CLie.nil _, .inl rfl, g2, by omega, by rw [List.length_map]; exact hrk, HO6.out.sizes, fun b hb => (by cases hb), fun b hb => .inr ⟨by have := HO6.out.b2 b hb; omega, (hjl.2 b hb).1⟩, fun b hb => .inl (g1 b hb), g4, fun b hb => ⟨.inr ⟨?_, ?_⟩, (HOk.out b hb).2⟩, fun hn => absurd rfl hn⟩, .inr ⟨by omega, hzs⟩, .inr ⟨by have := HO6.out.b1; omega, hjl.1⟩, fun b hb => ?_, fun b hb => ?_, trivial, mg_sml (by omega) hall, ⟨Sml.nil, by simp⟩⟩
                · have := (HOk.out b hb).1; omega
                · obtain ⟨_, cur, e⟩ := HOk.out b hb
                  exact lt_of_block e
                · rcases hb with e | e
                  · have := (HFL.out b e).1; omega
                  · omega
                · rcases hb with e | e
                  · have := (HFL.out b e).2; omega
                  · exact e.2
              have HCH : Hid (Calls Tryz.prog 17 #[.pointer (some ⟨s, 0, none⟩)] wr fun e w' => e = .returned (.int .i64 0) ∧ After (fun b => b ∈ fp ∨ (w.heap.size ≤ b ∧ b < wr.heap.size)) wr (fun M' w' => RR N0 M' s d x q z j w' ⟨f, [], mg Ls, [], cv - 1⟩ (mendA q T F Ls) ((T + used Ls) % (q - 1)) (F + Ls.length) []) w') := by
                by_cases hLs : Ls = []
                · rw [hLs] at hRR
                  refine hid ((RR.check0 (T := T) (F := F) (hRR)).mono ?_)
                  rintro e w' ⟨rfl, rfl⟩
                  refine ⟨rfl, _, ?_, fun b hb => .inl hb, Keep.refl _ _⟩
                  have e0 : mendA q T F Ls = [] := if_pos hLs
                  have e1 : (T + used Ls) % (q - 1) = T := by rw [hLs]; show (T + 0) % (q - 1) = T; rw [Nat.add_zero]; exact Nat.mod_eq_of_lt hTl
                  have e2 : F + Ls.length = F := by rw [hLs]; rfl
                  rw [e0, e1, e2, hLs]
                  exact hRR
                · have hl0 : Ls.map szL ≠ [] := fun e => hLs (List.map_eq_nil_iff.1 e)
                  have g := RR.check (T' := (T + used Ls) % (q - 1)) hRR (by omega) hTl (by rw [List.length_map]; omega) (by rw [List.length_map]; omega) hl0 (by show (mg Ls).length ≤ 500; omega) (by
                    rw [sum_used, show (q : Int) - 1 = ((q - 1 : Nat) : Int) by omega]
                    push_cast
                    rfl)
                  rw [List.length_map] at g
                  have e0 : mendA q T F Ls = _ := if_neg hLs
                  rw [e0]
                  exact hid g
              clear hRR g2 g4 hrk hmf hall
              go_wp2_with (first
                | (go_at_call 17; refine HCH.out.mono ?_; rintro e w9 ⟨rfl, ha9⟩
                   have HA9 := hid ha9
                   clear ha9))
              go_ret2
              obtain ⟨M', m1, m2, m3⟩ := HA9.out
              have hcw : cv - 1 = (F : Int) + Ls.length - 1 := by rw [HCV.out]
              rw [hcw] at m1
              refine ⟨fun _ => ⟨s, j, M', rfl, m1, fun b hb => ?_⟩, fun hn => absurd HALL.out hn, ?_⟩
              · rcases m2 b hb with (e | e) | e
                · exact .inl e
                · exact .inr e.1
                · exact .inr (by omega)
              · exact ⟨m3.os.trans hbd.os, m3.tape.trans hbd.tape, m3.output.trans hbd.output, Nat.le_trans hbd.size m3.size, fun b hb hn => (m3.block b (by omega) (fun e => by
                  rcases e with e | e
                  · exact hn e
                  · omega)).trans (hbd.block b hb)⟩
end Go.Proofs.YtopebghandojbaaGreat
namespace Go.Proofs.YtopebghandojbaaGreat
open Go.RowKit Go.Maps

set_option maxRecDepth 100000 in
set_option maxHeartbeats 1500000 in
/-- the program's Open of a device without a shape -/
theorem popen_sh0 {base g N : Nat} {S : Dv.DS} {fp : List Nat} (h : ¬ ∃ x y z, Sh.okR (val (Dv.seen S.L S.Q) 0) x y z) (hn : 1 ≤ S.n ∧ S.n ≤ 1024) (hb : (val (Dv.seen S.L S.Q) 0).size ≤ 150000000000000) (w : World) (hD : Dv.DIs base g w N S fp) :
    Calls Tryz.prog 11 #[.pointer (some ⟨g, 0, none⟩)] w fun e w' => e = .returned (.tuple #[.pointer none, .int .i64 60]) ∧ Below w.heap.size w w' := by
  have HRD := hid (show Calls Tryz.prog 25 #[.pointer (some ⟨g, 0, none⟩), .int .i64 ((0 : Nat) : Int)] w fun e w' => e = .returned (.tuple #[.string (val (Dv.seen S.L S.Q) 0), .int .i64 0]) ∧ Below w.heap.size w w' from Dv.read_any 0 (by omega) w hD)
  obtain ⟨b, hbb⟩ : ∃ b, b = val (Dv.seen S.L S.Q) 0 := ⟨_, rfl⟩
  rw [← hbb] at HRD hb h
  have HSR := hid (fun w => Sh.read_bad b hb h w)
  unfold Sh.zero3 at HSR
  clear hbb hD
  go_enter Tryz.func11, Tryz.ntmps11
  go_wp2_with (first
    | (go_at_call 25; refine HRD.out.mono ?_; rintro e w1 ⟨rfl, hb1⟩)
    | (go_at_call 51; refine (HSR.out _).mono ?_; rintro e w2 ⟨rfl, hb2⟩; have HB2 := hid (hb1.next hb2)))
  go_quiet (fail)
  go_wp2
  go_ret2
  exact ⟨rfl, (HB2.out.next (below_alloc _ _)).next ⟨rfl, rfl, rfl, Nat.le_refl _, fun _ _ => rfl⟩⟩
set_option maxRecDepth 100000 in
set_option maxHeartbeats 1500000 in
/-- the program's Open of a device of another shape -/
theorem popen_sh1 {base g N : Nat} {S : Dv.DS} {fp : List Nat} (x y z : Nat) (h : Sh.okR (val (Dv.seen S.L S.Q) 0) x y z) (hx : x ≠ S.n) (hn : 1 ≤ S.n ∧ S.n ≤ 1024) (hb : (val (Dv.seen S.L S.Q) 0).size ≤ 150000000000000) (w : World) (hD : Dv.DIs base g w N S fp) :
    Calls Tryz.prog 11 #[.pointer (some ⟨g, 0, none⟩)] w fun e w' => e = .returned (.tuple #[.pointer none, .int .i64 60]) ∧ Below w.heap.size w w' := by
  have HRD := hid (show Calls Tryz.prog 25 #[.pointer (some ⟨g, 0, none⟩), .int .i64 ((0 : Nat) : Int)] w fun e w' => e = .returned (.tuple #[.string (val (Dv.seen S.L S.Q) 0), .int .i64 0]) ∧ Below w.heap.size w w' from Dv.read_any 0 (by omega) w hD)
  obtain ⟨b, hbb⟩ : ∃ b, b = val (Dv.seen S.L S.Q) 0 := ⟨_, rfl⟩
  rw [← hbb] at HRD hb h
  have HSR := hid (fun w => Sh.read_ok b x y z hb h w)
  have HBK : Hid (∀ w', Below w.heap.size w w' → Calls Tryz.prog 50 #[.pointer (some ⟨g, 0, none⟩)] w' fun e w'' => e = .returned (.int .i64 (S.n : Int)) ∧ w'' = w') := hid (fun w' kb => Dv.blocks_any w' (hD.below kb))
  have hd : (((x : Int) == (S.n : Int)) = false) := by
    rw [beq_eq_false_iff_ne]
    omega
  clear hbb hD
  go_enter Tryz.func11, Tryz.ntmps11
  go_wp2_with (first
    | (go_at_call 25; refine HRD.out.mono ?_; rintro e w1 ⟨rfl, hb1⟩)
    | (go_at_call 51; refine (HSR.out _).mono ?_; rintro e w2 ⟨rfl, hb2⟩; have HB2 := hid (hb1.next hb2)))
  have HX := box_at w2 (.cells #[.int .i64 (x : Int), .int .i64 (y : Int), .int .i64 (z : Int)] 23)
  obtain ⟨a0, a1, a2⟩ := three_cells HX
  go_quiet ((go_at_call 50; exact Calls.quiet_of_same (HBK.out _ ((HB2.out.next (below_alloc _ _)).next ⟨rfl, rfl, rfl, Nat.le_refl _, fun _ _ => rfl⟩))))
  go_wp2
  go_ret2
  exact ⟨rfl, (HB2.out.next (below_alloc _ _)).next ⟨rfl, rfl, rfl, Nat.le_refl _, fun _ _ => rfl⟩⟩
set_option maxRecDepth 100000 in
set_option maxHeartbeats 1500000 in
/-- the document's Open of a device without a shape -/
theorem ropen_sh0 {B d n : Nat} {fp : List Nat} {f : Nat → Option ByteArray} (h : ¬ ∃ x y z, Sh.okR (val f 0) x y z) (hn : 1 ≤ n ∧ n ≤ 1024) (hb : (val f 0).size ≤ 150000000000000) (w : World) (hD : Dv.XD B d w n f [] fp) :
    Calls Tryz.prog 12 #[.pointer (some ⟨d, 0, none⟩)] w fun e w' => e = .returned (.tuple #[.pointer none, .int .i64 60]) ∧ Below w.heap.size w w' := by
  have HRD := hid (show Calls Tryz.prog 26 #[.pointer (some ⟨d, 0, none⟩), .int .i64 ((0 : Nat) : Int)] w fun e w' => e = .returned (.tuple #[.string (val f 0), .int .i64 0]) ∧ Below w.heap.size w w' from hD.read 0 (by omega) (by simp) w)
  obtain ⟨b, hbb⟩ : ∃ b, b = val f 0 := ⟨_, rfl⟩
  rw [← hbb] at HRD hb h
  have HSR := hid (fun w => Sh.refRead_bad b hb h w)
  unfold Sh.zero3 at HSR
  clear hbb hD
  go_enter Tryz.func12, Tryz.ntmps12
  go_wp2_with (first
    | (go_at_call 26; refine HRD.out.mono ?_; rintro e w1 ⟨rfl, hb1⟩)
    | (go_at_call 57; refine (HSR.out _).mono ?_; rintro e w2 ⟨rfl, hb2⟩; have HB2 := hid (hb1.next hb2)))
  go_quiet (fail)
  go_wp2
  go_ret2
  exact ⟨rfl, (HB2.out.next (below_alloc _ _)).next ⟨rfl, rfl, rfl, Nat.le_refl _, fun _ _ => rfl⟩⟩
set_option maxRecDepth 100000 in
set_option maxHeartbeats 1500000 in
/-- the document's Open of a device of another shape -/
theorem ropen_sh1 {B d n : Nat} {fp : List Nat} {f : Nat → Option ByteArray} (x y z : Nat) (h : Sh.okR (val f 0) x y z) (hx : x ≠ n) (hn : 1 ≤ n ∧ n ≤ 1024) (hb : (val f 0).size ≤ 150000000000000) (w : World) (hD : Dv.XD B d w n f [] fp) :
    Calls Tryz.prog 12 #[.pointer (some ⟨d, 0, none⟩)] w fun e w' => e = .returned (.tuple #[.pointer none, .int .i64 60]) ∧ Below w.heap.size w w' := by
  have HRD := hid (show Calls Tryz.prog 26 #[.pointer (some ⟨d, 0, none⟩), .int .i64 ((0 : Nat) : Int)] w fun e w' => e = .returned (.tuple #[.string (val f 0), .int .i64 0]) ∧ Below w.heap.size w w' from hD.read 0 (by omega) (by simp) w)
  obtain ⟨b, hbb⟩ : ∃ b, b = val f 0 := ⟨_, rfl⟩
  rw [← hbb] at HRD hb h
  have HSR := hid (fun w => Sh.refRead_ok b x y z hb h w)
  have HDL : Hid (∃ bl qv, w.heap[d]? = some (.cells #[.slice (some ⟨bl, 0, none⟩) n n, qv] 58 (0, 0))) := hid (by
    obtain ⟨L, ⟨⟨bl, qv, h1, _⟩, _⟩, h2, _⟩ := hD
    rw [h2] at h1
    exact ⟨bl, qv, h1⟩)
  have hd : (((x : Int) == (n : Int)) = false) := by
    rw [beq_eq_false_iff_ne]
    omega
  clear hbb hD
  go_enter Tryz.func12, Tryz.ntmps12
  go_wp2_with (first
    | (go_at_call 26; refine HRD.out.mono ?_; rintro e w1 ⟨rfl, hb1⟩)
    | (go_at_call 57; refine (HSR.out _).mono ?_; rintro e w2 ⟨rfl, hb2⟩; have HB2 := hid (hb1.next hb2)))
  have HX := box_at w2 (.cells #[.int .i64 (x : Int), .int .i64 (y : Int), .int .i64 (z : Int)] 23)
  obtain ⟨a0, a1, a2⟩ := three_cells HX
  obtain ⟨bl, qv, hdb⟩ := HDL.out
  have hdl := lt_of_block hdb
  have e0 := (two_cells (((HB2.out.next (below_alloc w2 (.cells #[.int .i64 (x : Int), .int .i64 (y : Int), .int .i64 (z : Int)] 23))).block _ hdl).trans hdb)).1
  go_quiet (fail)
  go_wp2
  go_ret2
  exact ⟨rfl, (HB2.out.next (below_alloc _ _)).next ⟨rfl, rfl, rfl, Nat.le_refl _, fun _ _ => rfl⟩⟩
set_option maxRecDepth 100000 in
set_option maxHeartbeats 1500000 in
/-- the program's Open of a device whose journal is none -/
theorem popen_log {base g N : Nat} {S : Dv.DS} {fp : List Nat} (x y z : Nat) (h : Sh.okS x y z) (hSn : S.n = x) (h0 : Sh.okR (val (Dv.seen S.L S.Q) 0) x y z) (hz0 : (val (Dv.seen S.L S.Q) 0).size ≤ 150000000000000) (HJ : ∀ v w', SLie w' v (val (Dv.seen S.L S.Q) 1 :: ringOf (Dv.seen S.L S.Q) (y - 1)) → Calls Tryz.prog 52 #[v] w' fun e w'' => ON e ∧ Below w'.heap.size w' w'') (w : World) (hD : Dv.DIs base g w N S fp) :
    Calls Tryz.prog 11 #[.pointer (some ⟨g, 0, none⟩)] w fun e w' => e = .returned (.tuple #[.pointer none, .int .i64 80]) ∧ Below w.heap.size w w' := by
  unfold val at h0 hz0
  obtain ⟨b0, hb0⟩ : ∃ b0, b0 = (Dv.seen S.L S.Q 0).getD Dv.Z := ⟨_, rfl⟩
  rw [← hb0] at h0 hz0
  have hx := h.1.1
  have hy := h.1.2.1
  have hx1 : 16 ≤ x := by omega
  have hx2 : x ≤ 1024 := by omega
  have hy1 : 8 ≤ y := by omega
  have hy2 : y ≤ 256 := by omega
  have hyx : 1 + y ≤ x := by have := h.2; omega
  have HRD : Hid (∀ (w' : World), Below w.heap.size w w' → Calls Tryz.prog 25 #[.pointer (some ⟨g, 0, none⟩), .int .i64 0] w' fun e w'' => e = .returned (.tuple #[.string b0, .int .i64 0]) ∧ Below w'.heap.size w' w'') := by
    refine hid (fun w' hb => ?_)
    rw [hb0]
    exact Dv.read_any 0 (by omega) w' (hD.below hb)
  have HSR := hid (fun w => Sh.read_ok b0 x y z hz0 h0 w)
  have HBK : Hid (∀ w', Below w.heap.size w w' → Calls Tryz.prog 50 #[.pointer (some ⟨g, 0, none⟩)] w' fun e w'' => e = .returned (.int .i64 (x : Int)) ∧ w'' = w') := by
    refine hid (fun w' hb => ?_)
    have k := Dv.blocks_any w' (hD.below hb)
    rw [hSn] at k
    exact k
  have HO := hid (fun w => Sh.of_ok x y z h w)
  unfold Sh.regS at HO
  have HSE : Hid (∀ w', Below w.heap.size w w' → Calls Tryz.prog 53 #[.pointer (some ⟨g, 0, none⟩), .int .i64 1, .int .i64 (y : Int)] w' fun e w'' => ∃ v, e = .returned v ∧ SLie w'' v (val (Dv.seen S.L S.Q) 1 :: ringOf (Dv.seen S.L S.Q) (y - 1)) ∧ Below w'.heap.size w' w'') := by
    refine hid (fun w' hb => ?_)
    refine (seen_any 1 y (by omega) (by omega) w' (hD.below hb)).mono ?_
    rintro e w'' ⟨rfl, hl, hb2⟩
    refine ⟨_, rfl, ?_, hb2⟩
    have e1 := ringOf_rest (Dv.seen S.L S.Q) (y - 1)
    rw [show y - 1 + 1 = y by omega] at e1
    rw [e1] at hl
    exact hl
  have HOP := hid HJ
  clear hb0 h h0 hSn hx hy hD
  go_enter Tryz.func11, Tryz.ntmps11
  go_wp2_with (first
    | (go_at_call 25; refine (HRD.out _ (Below.refl _ _)).mono ?_; rintro e w1 ⟨rfl, hb1⟩)
    | (go_at_call 51; refine (HSR.out _).mono ?_; rintro e w2 ⟨rfl, hb2⟩; have HB2 := hid (hb1.next hb2)))
  go_quiet ((go_at_call 50; exact Calls.quiet_of_same (HBK.out _ ((HB2.out.next (below_alloc _ _)).next ⟨rfl, rfl, rfl, Nat.le_refl _, fun _ _ => rfl⟩))))
  have HB3 : Hid (Below w.heap.size w ((w2.alloc (.cells #[.int .i64 (x : Int), .int .i64 (y : Int), .int .i64 (z : Int)] 23)).drewN nq)) := hid ((HB2.out.next (below_alloc _ _)).next ⟨rfl, rfl, rfl, Nat.le_refl _, fun _ _ => rfl⟩)
  have HV3 : Hid (((w2.alloc (.cells #[.int .i64 (x : Int), .int .i64 (y : Int), .int .i64 (z : Int)] 23)).drewN nq).heap[w2.heap.size]? = some (.cells #[.int .i64 (x : Int), .int .i64 (y : Int), .int .i64 (z : Int)] 23 (0, 0))) := hid (box_at w2 _)
  obtain ⟨w3, hw3⟩ : ∃ w3, w3 = (w2.alloc (.cells #[.int .i64 (x : Int), .int .i64 (y : Int), .int .i64 (z : Int)] 23)).drewN nq := ⟨_, rfl⟩
  rw [← hw3] at HB3 HV3 ⊢
  clear hw3
  obtain ⟨a0, a1, a2⟩ := three_cells HV3.out
  go_wp2_with (first
    | (go_at_call 40; refine (HO.out _).mono ?_; rintro e w4 ⟨rfl, hb4⟩
       have HV4 := hid ((hb4.block _ (lt_of_block HV3.out)).trans HV3.out)
       have HB4 := hid (HB3.out.next hb4)
       have hs4 := lt_of_block HV4.out
       obtain ⟨a0, a1, a2⟩ := three_cells HV4.out)
    | (go_at_call 53; refine (HSE.out _ (HB4.out.next (below_alloc _ _))).mono ?_; rintro e w5 ⟨v5, rfl, hsl, hb5⟩
       have HT5 : Hid (Two w w2.heap.size w4.heap.size _ _ w5) := hid (Two.next ⟨(Below.heap_alloc _ _ _ hs4).trans HV4.out, box_at w4 _, HB4.out.next (below_alloc _ _)⟩ hb5)
       have HSL := hid hsl
       clear hsl)
    | (go_at_call 52; refine (HOP.out _ _ HSL.out).mono ?_; rintro e w6 ⟨he, hb6⟩; unfold ON at he; subst he))
  go_ret2
  exact ⟨rfl, HT5.out.2.2.next hb6⟩
set_option maxRecDepth 100000 in
set_option maxHeartbeats 1500000 in
/-- the document's Open of a device whose journal is none -/
theorem ropen_log {B d : Nat} {fp : List Nat} {f : Nat → Option ByteArray} (x y z : Nat) (h : Sh.okS x y z) (hsu : Sh.okR (val f 0) x y z) (hz0 : (val f 0).size ≤ 150000000000000) (HJ : ∀ v w', SLie w' v (val f 1 :: ringOf f (y - 1)) → Calls Tryz.prog 58 #[v] w' fun e w'' => RON e ∧ Below w'.heap.size w' w'') (w : World) (hD : Dv.XD B d w x f [] fp) :
    Calls Tryz.prog 12 #[.pointer (some ⟨d, 0, none⟩)] w fun e w' => e = .returned (.tuple #[.pointer none, .int .i64 80]) ∧ Below w.heap.size w w' := by
  have hx := h.1.1
  have hy := h.1.2.1
  have hsp := h.2
  have HRD := hid (fun (k : Nat) (hk : k < x) w' (kb : Below w.heap.size w w') => (show Calls Tryz.prog 26 #[.pointer (some ⟨d, 0, none⟩), .int .i64 (k : Int)] w' fun e w'' => e = .returned (.tuple #[.string (val f k), .int .i64 0]) ∧ Below w'.heap.size w' w'' from (hD.below kb).read k hk (by simp) w'))
  have HR0 := hid (HRD.out 0 (by omega) w (Below.refl _ _))
  obtain ⟨su, hsu2⟩ : ∃ su, su = val f 0 := ⟨_, rfl⟩
  rw [← hsu2] at HR0 hsu
  have hss : su.size ≤ 150000000000000 := by rw [hsu2]; exact hz0
  have HRS := hid (fun w => Sh.refRead_ok su x y z (by omega) hsu w)
  have HDL : Hid (∃ bl qv, w.heap[d]? = some (.cells #[.slice (some ⟨bl, 0, none⟩) x x, qv] 58 (0, 0))) := hid (by
    obtain ⟨L, ⟨⟨bl, qv, h1, _⟩, _⟩, h2, _⟩ := hD
    rw [h2] at h1
    exact ⟨bl, qv, h1⟩)
  have HJJ := hid HJ
  clear HJ hsu2 hsu hD
  go_enter Tryz.func12, Tryz.ntmps12
  go_upto_region 3 with (first
    | (go_at_call 26; refine HR0.out.mono ?_; rintro e w1 ⟨rfl, hb1⟩)
    | (go_at_call 57; refine (HRS.out _).mono ?_; rintro e w2 ⟨rfl, hb2⟩))
  have HB2 := hid (hb1.next hb2)
  have HB3 := hid (HB2.out.next (below_alloc w2 (.cells #[.int .i64 (x : Int), .int .i64 (y : Int), .int .i64 (z : Int)] 23)))
  have HX := hid (box_at w2 (.cells #[.int .i64 (x : Int), .int .i64 (y : Int), .int .i64 (z : Int)] 23))
  obtain ⟨gs, hgs⟩ : ∃ gs, gs = w2.heap.size := ⟨_, rfl⟩
  rw [← hgs] at HX ⊢
  obtain ⟨w3, hw3⟩ : ∃ w3, w3 = w2.alloc (.cells #[.int .i64 (x : Int), .int .i64 (y : Int), .int .i64 (z : Int)] 23) := ⟨_, rfl⟩
  rw [← hw3] at HB3 HX ⊢
  have hgl := lt_of_block HX.out
  clear hw3 hgs hb1 hb2 HB2
  obtain ⟨bl, qv, hdb⟩ := HDL.out
  have hdl := lt_of_block hdb
  obtain ⟨d0, d1, d2⟩ := three_cells HX.out
  have e0 := (two_cells ((HB3.out.block _ hdl).trans hdb)).1
  go_cut [40] (fun cv wx => cv = .bool false ∧ Below w3.heap.size w3 wx)
  case first =>
    go_quiet (fail)
    go_wp2
    go_meet
    exact ⟨rfl, rfl, rfl, rfl, Nat.le_refl _, fun _ _ => rfl⟩
  case rest =>
    obtain ⟨rfl, hb4⟩ := hcut
    rename World => w4
    have HB4 := hid (HB3.out.next hb4)
    have HX4 := hid ((hb4.block _ hgl).trans HX.out)
    have hg4 := lt_of_block HX4.out
    clear hb4 d0 d1 d2 e0 hdb hdl hgl
    go_wp2_with fail
    go_loopw [8, 9] (fun rv i wr => ∃ q : Nat, i = .int .i64 q ∧ q ≤ y ∧ SRow w4.heap.size wr rv ((List.range q).map fun i => val f (1 + i)) ∧ Below w4.heap.size w4 wr) (fun _ i _ => y - (intOf i).toNat)
    case atStart => exact ⟨0, rfl, Nat.zero_le _, SRow.nil _ _, Below.refl _ _⟩
    case round =>
      obtain ⟨q, rfl, hq, hrow, hbq⟩ := hrel
      have HRow := hid hrow
      have HBq := hid hbq
      have hzq := hbq.size
      obtain ⟨d0, d1, d2⟩ := three_cells ((hbq.block _ hg4).trans HX4.out)
      obtain ⟨ro, rc, rfl, _, _⟩ := hrow.len
      clear hrow hbq
      have hln : ((List.range q).map fun i => val f (1 + i)).length = q := by simp
      by_cases hqy : q < y
      · have HRq := HRD.out (1 + q) (by omega) wr (HB4.out.next HBq.out)
        rw [show ((1 + q : Nat) : Int) = 1 + (q : Int) by omega] at HRq
        have HRQ := hid HRq
        have HT := hid (rangeS y (fun i => val f (1 + i)) q)
        obtain ⟨T, hTT⟩ : ∃ T, T = (List.range q).map fun i => val f (1 + i) := ⟨_, rfl⟩
        rw [← hTT] at HRow HT hln ⊢
        obtain ⟨u, hu⟩ : ∃ u, u = val f (1 + q) := ⟨_, rfl⟩
        have HT : Hid ((List.range (q + 1)).map (fun i => val f (1 + i)) = T ++ [u]) := hid (by rw [hu]; exact HT.out)
        rw [← hu] at HRQ
        clear HRq hTT hu
        rw [hln] at HRow ⊢
        go_wp2_with (first
          | (go_at_call 26; refine HRQ.out.mono ?_; rintro e w5 ⟨rfl, hb5⟩
             have HR5 := hid (HRow.out.below hb5)
             have HB5 := hid (HBq.out.next hb5)
             clear hb5)
          | (at_builtin; refine pushS (w0 := w5) rfl (.tmp 54) (.tmp 56) rfl w4.heap.size w5.heap.size (.slice ro q rc) T u rfl rfl rfl HR5.out (by omega) HB5.out.size ?_; intro v6 w6 hr6 hb6 _))
        go_roundw
        case rel => exact ⟨q + 1, by go_num, by omega, by rw [HT.out]; exact hr6, HB5.out.trans hb6⟩
        case measure => simp only [intOf] at *; omega
      · have hqe : q = y := by omega
        subst hqe
        obtain ⟨p, hp⟩ : ∃ p, q = p + 1 := ⟨q - 1, by omega⟩
        have hlist : ((List.range q).map fun i => val f (1 + i)) = val f 1 :: ringOf f (q - 1) := by
          have e := ringOf_rest f p
          rw [hp, Nat.add_sub_cancel]
          exact e
        have hv := HRow.out.lie
        obtain ⟨rv, hrv⟩ : ∃ rv, rv = Value.slice ro ((List.range q).map fun i => val f (1 + i)).length rc := ⟨_, rfl⟩
        rw [← hrv, hlist] at hv
        have HOP := hid (HJJ.out _ _ hv)
        clear hv hlist hp
        rw [hln] at hrv
        subst hrv
        rw [hln]
        go_wp2_with (first
          | (go_at_call 58; refine HOP.out.mono ?_; rintro e w6 ⟨he, hb6⟩; unfold RON at he; subst he))
        go_ret2
        exact ⟨rfl, HB4.out.next (HBq.out.next hb6)⟩
end Go.Proofs.YtopebghandojbaaGreat
namespace Go.Proofs.YtopebghandojbaaGreat
open Go.RowKit Go.Maps

/-- what both stores are amidst of, when nothing is committed any more -/
structure InvO (x : Nat) (σ : MS) (A : List AT) : Prop where
  ok : ∀ a ∈ A, AOk x a
  no3 : ∀ a ∈ A, a.k ≠ 3
  qok : Qok σ A
  len : A.length ≤ 1000
  c0 : 0 ≤ σ.c
  c1 : σ.c ≤ 2000000000000
  ml : σ.M.length ≤ 256
theorem InvO.step {x : Nat} {σ : MS} {a : AT} {A : List AT} (h : InvO x σ (a :: A)) : AOk x a ∧ InvO x (σ.act a) A := by
  obtain ⟨h1, h2, h3, h4, h5, h6, h7⟩ := h
  have ha := h1 a (List.mem_cons_self ..)
  have hn := h2 a (List.mem_cons_self ..)
  simp only [List.length_cons] at h4
  refine ⟨ha, fun b hb => h1 b (List.mem_cons_of_mem _ hb), fun b hb => h2 b (List.mem_cons_of_mem _ hb), h3.act ha, by omega, ?_, ?_, ?_⟩
  all_goals
    rcases ha with ⟨e, _⟩ | ⟨e | e | e, _⟩
    · rw [MS.act_w e]; assumption
    · rw [MS.act_f e]; assumption
    · rw [MS.act_l e]; first | assumption | exact Nat.zero_le _
    · exact absurd e hn
/-- both stores, apart, in one state -/
structure BothO (N0 q s g jp m r d x y z j : Nat) (w : World) (A : List AT) : Prop where
  ex : ∃ (MP MR : Nat → Prop) (σ : MS) (T F : Nat) (l : List Int), PR N0 MP s g x y z jp m w σ A T F l ∧ RR N0 MR r d x y z j w σ A T F l ∧ (∀ b, MP b → ¬ MR b) ∧ (∀ b, MP b ∨ MR b → b ≠ q) ∧ InvO x σ A
section
variable {N0 q s g jp m r d x y z j : Nat} {w w' : World} {A A1 A2 : List AT} {MP MR : Nat → Prop} {σ σ1 σ2 : MS} {T T1 T2 F F1 F2 : Nat} {l l1 l2 : List Int}
theorem BothO.below (h : BothO N0 q s g jp m r d x y z j w A) (k : Below w.heap.size w w') : BothO N0 q s g jp m r d x y z j w' A := by
  obtain ⟨MP, MR, σ, T, F, l, h1, h2, h3, h4, h5⟩ := h
  exact ⟨MP, MR, σ, T, F, l, h1.below k, h2.below k, h3, h4, h5⟩
theorem BothO.sz (h : BothO N0 q s g jp m r d x y z j w A) : N0 ≤ w.heap.size := by
  obtain ⟨MP, MR, σ, T, F, l, h1, _⟩ := h
  exact h1.size
/-- a step of both -/
theorem BothO.step {a : AT} (h : BothO N0 q s g jp m r d x y z j w (a :: A)) (hq : q < w.heap.size) :
    Calls Tryz.prog 18 #[.pointer (some ⟨s, 0, none⟩)] w fun e w1 => e = .returned (.tuple #[.bool (!decide (0 < A.length)), .int .i64 0]) ∧ Fq N0 q w w1 ∧ Hid (∀ w2, Below w1.heap.size w1 w2 → Calls Tryz.prog 19 #[.pointer (some ⟨r, 0, none⟩)] w2 fun e w3 => e = .returned (.tuple #[.bool (!decide (0 < A.length)), .int .i64 0]) ∧ BothO N0 q s g jp m r d x y z j w3 A ∧ Fq N0 q w2 w3) := by
  obtain ⟨MP, MR, σ, T, F, l, h1, h2, h3, h4, h5⟩ := h
  obtain ⟨i1, i2⟩ := h5.step
  have hl := h5.len
  have hqo := h5.qok.2
  have c0 := h5.c0
  have c1 := h5.c1
  have ml := h5.ml
  simp only [List.length_cons] at hl hqo
  refine (h1.step i1 (by omega) (by omega) ⟨c0, by omega⟩).mono ?_
  rintro e w1 ⟨rfl, k⟩
  obtain ⟨MP', g1, g2, g3, g4, g5⟩ := half hq h1 h2 h3 h4 k
  refine ⟨rfl, g5, hid fun w2 kb => ?_⟩
  have hz1 := g5.size
  have hz2 := kb.size
  refine ((g2.below kb).step i1 (by omega) (by omega) ⟨c0, by omega⟩ (by omega)).mono ?_
  rintro e w3 ⟨rfl, M', k1, k2, k3⟩
  have h1 := g1.below kb
  have h2 := g2.below kb
  refine ⟨rfl, ⟨MP', M', σ.act a, T, F, l, h1.keep k3 (fun b hb hp => g3 b hb hp), k1, fun b hb hm => ?_, fun b hb => ?_, i2⟩, k3.weak fun b hb => ⟨h2.lo b hb, g4 b (.inr hb)⟩⟩
  · rcases k2 b hm with e | e
    · exact g3 b hb e
    · have := h1.hi b hb; omega
  · rcases hb with e | e
    · exact g4 b (.inl e)
    · rcases k2 b e with e | e
      · exact g4 b (.inr e)
      · omega
theorem BothO.reads (h : BothO N0 q s g jp m r d x y z j w A) (k : Int) (hk : inI k) : ∃ (a b : ByteArray) (c e : Int), (∀ w', Below w.heap.size w w' → Calls Tryz.prog 23 #[.pointer (some ⟨s, 0, none⟩), .int .i64 k] w' fun r w'' => r = .returned (.tuple #[.string a, .int .i64 c]) ∧ Below w'.heap.size w' w'') ∧ (∀ w', Below w.heap.size w w' → Calls Tryz.prog 24 #[.pointer (some ⟨r, 0, none⟩), .int .i64 k] w' fun r w'' => r = .returned (.tuple #[.string a, .int .i64 c]) ∧ Below w'.heap.size w' w'') ∧
    (∀ w', Below w.heap.size w w' → Calls Tryz.prog 25 #[.pointer (some ⟨g, 0, none⟩), .int .i64 k] w' fun r w'' => r = .returned (.tuple #[.string b, .int .i64 e]) ∧ Below w'.heap.size w' w'') ∧ (∀ w', Below w.heap.size w w' → Calls Tryz.prog 26 #[.pointer (some ⟨d, 0, none⟩), .int .i64 k] w' fun r w'' => r = .returned (.tuple #[.string b, .int .i64 e]) ∧ Below w'.heap.size w' w'') := by
  obtain ⟨MP, MR, σ, T, F, l, h1, h2, h3, h4, h5⟩ := h
  have hQ := h5.qok.2
  exact ⟨_, _, _, _, fun w' kb => (h1.below kb).read k hk, fun w' kb => (h2.below kb).read k (by omega), fun w' kb => (h1.below kb).dread k, fun w' kb => (h2.below kb).dread k (by omega)⟩
theorem BothO.says (h : BothO N0 q s g jp m r d x y z j w A) : ∃ (c : Int) (ao : Option Addr) (ac : Nat), A.length ≤ 1000 ∧ r < w.heap.size ∧ inI c ∧ (∀ w', Below w.heap.size w w' → Calls Tryz.prog 20 #[.pointer (some ⟨s, 0, none⟩)] w' fun e w'' => e = .returned (.int .i64 c) ∧ w'' = w') ∧ (∀ w', Below w.heap.size w w' → Calls Tryz.prog 21 #[.pointer (some ⟨s, 0, none⟩)] w' fun e w'' => e = .returned (.bool (decide (0 < A.length))) ∧ w'' = w') ∧
    w.cell? ⟨r, 8, none⟩ = some (.int .i64 c) ∧ w.cell? ⟨r, 7, none⟩ = some (.slice ao A.length ac) := by
  obtain ⟨MP, MR, σ, T, F, l, h1, h2, h3, h4, h5⟩ := h
  have hlen := h5.len
  have c0 := h5.c0
  have c1 := h5.c1
  obtain ⟨ov, nv, av, B, fp, r', vs, U, a1, a2, _⟩ := h2.ex
  obtain ⟨_, _, _, _, _, _, _, d7, d8⟩ := a1.cells
  obtain ⟨ao, ac, hve, _⟩ := a2.len
  subst hve
  exact ⟨σ.c, ao, ac, hlen, a1.lt, by unfold inI; omega, fun w' kb => (h1.below kb).count, fun w' kb => (h1.below kb).busy, d8, d7⟩
end
/-- the program's store of a device that says transactions -/
theorem pr_raw {N0 B g N T F : Nat} {f : Nat → Option ByteArray} {fp : List Nat} {Ls : List (List Chg)} (x y z : Nat) (h : Sh.okS x y z) (hG : RawD x y z f T F Ls) (w : World) (hD : Dv.DIs B g w N ⟨x, f, []⟩ fp) (hN : N0 ≤ B) (hB : B ≤ w.heap.size) :
    Calls Tryz.prog 11 #[.pointer (some ⟨g, 0, none⟩)] w fun e w' => ((∀ L ∈ Ls, okX y x L) → ∃ s j m, e = .returned (.tuple #[.pointer (some ⟨s, 0, none⟩), .int .i64 0]) ∧ PR N0 (fun b => b ∈ fp ∨ (w.heap.size ≤ b ∧ b < w'.heap.size)) s g x y z j m w' ⟨f, [], mg Ls, [], (F : Int) + Ls.length - 1⟩ (mendA y T F Ls) ((T + used Ls) % (y - 1)) (F + Ls.length) []) ∧ ((¬ ∀ L ∈ Ls, okX y x L) → e = .returned (.tuple #[.pointer none, .int .i64 70])) ∧ Below w.heap.size w w' := by
  have hfl := hD.lo
  have hx := h.1.1
  refine (open_raw (S := ⟨x, f, []⟩) x y z h rfl hG w hD).mono ?_
  rintro e w' ⟨hy, hno, kb⟩
  refine ⟨fun hall => ?_, hno, kb⟩
  obtain ⟨s, j, m, r, B1, rfl, ⟨⟨av, k1, k2⟩, k3, k4⟩, k5, k6, b0, b1, b2, b3, b4, d1, d2, d3, d4, e1, e2⟩ := hy hall
  have hz := kb.size
  have hsl := k1.lt
  have hml := k6.lt
  have hjl := k5.lt
  refine ⟨s, j, m, rfl, ⟨⟨av, .slice none 0 0, N, B, fp, r, k1, k2.lie, fun hA => ?_, hD.below kb, by omega, CLie.nil _, k5, fun hm => by have := (hfl _ hm).2; omega, fun hm => by have := (hfl _ hm).2; omega, fun hm => by have := (hfl _ hm).2; omega, fun b hb => ?_, fun hA b hb => ?_, fun b hb => (by cases hb), fun b hb => .inl hb⟩, k6, mg_sml (by omega) hall, ⟨Sml.nil, by simp⟩, d1, d2, d3, .inr ⟨by omega, by omega⟩, .inr ⟨by omega, by omega⟩, .inr ⟨by omega, by omega⟩, fun b hb => ?_, fun b hb => ?_⟩⟩
  · rcases k2 with ⟨_, k2⟩ | ⟨k0, _⟩
    · exact k2
    · exact absurd hA k0
  · have := b3 b hb
    have h2 := (hjl.2 b hb).1
    obtain ⟨a1, a2, a3⟩ := d4 b hb
    exact ⟨fun hm => by have := (hfl _ hm).2; omega, a1, a2, a3, .inr ⟨by omega, by omega⟩⟩
  · rcases k2 with ⟨k0, _⟩ | ⟨_, k2⟩
    · exact absurd k0 hA
    · obtain ⟨g1, cur, g2⟩ := Q.ARow.own k2 b hb
      have g3 := lt_of_block g2
      exact ⟨fun hm => by have := (hfl _ hm).2; omega, by omega, by omega, by omega, .inr ⟨by omega, by omega⟩⟩
  · rcases hb with e | e
    · have := (hfl b e).1; omega
    · omega
  · rcases hb with e | e
    · have := (hfl b e).2; omega
    · omega
theorem mendA_len (y T F : Nat) (Ls : List (List Chg)) : (mendA y T F Ls).length ≤ used Ls + 3 := by
  have := mg_used Ls
  unfold mendA
  split
  · simp
  · unfold layA; simp; omega
theorem mendA_ok {x y T F : Nat} {Ls : List (List Chg)} (hx : 1 < x) (h : ∀ L ∈ Ls, okX y x L) : (∀ a ∈ mendA y T F Ls, AOk x a) ∧ ∀ a ∈ mendA y T F Ls, a.k ≠ 3 := by
  obtain ⟨_, h2⟩ := mg_ok h
  unfold mendA
  split
  · exact ⟨fun a ha => (by cases ha), fun a ha => (by cases ha)⟩
  · refine ⟨fun a ha => ?_, layA_no3 _ _⟩
    unfold layA at ha
    rcases List.mem_append.1 ha with k | k
    · obtain ⟨c, hc, rfl⟩ := List.mem_map.1 k
      obtain ⟨k1, k2, k3⟩ := h2 c hc
      exact .inl ⟨rfl, by show 0 ≤ c.b; omega, by show c.b < x; omega, k3⟩
    · simp at k
      rcases k with rfl | rfl | rfl
      · exact .inr ⟨.inl rfl, rfl, rfl⟩
      · exact .inl ⟨rfl, (by show (0 : Int) ≤ 1; decide), (by show (1 : Int) < x; omega), hdB_size _ _ _⟩
      · exact .inr ⟨.inr (.inl rfl), rfl, rfl⟩
/-- both Opens of a device, whatever it says -/
theorem both_any {N0 q BP BR g d N n : Nat} {f : Nat → Option ByteArray} {fpP fpR : List Nat} (hn : 1 ≤ n ∧ n ≤ 1024) (hsz : ∀ k, (val f k).size = 128) (w : World) (hP : Dv.DIs BP g w N ⟨n, f, []⟩ fpP) (hR : Dv.XD BR d w n f [] fpR) (n1 : N0 ≤ BP) (n2 : BP ≤ w.heap.size) (n3 : N0 ≤ BR) (n4 : BR ≤ w.heap.size) (hd : ∀ b ∈ fpP, b ∉ fpR) (hq : q < N0) :
    (∃ c : Int, c ≠ 0 ∧ (∀ w', Below w.heap.size w w' → Calls Tryz.prog 11 #[.pointer (some ⟨g, 0, none⟩)] w' fun e w1 => e = .returned (.tuple #[.pointer none, .int .i64 c]) ∧ Below w'.heap.size w' w1) ∧ ∀ w', Below w.heap.size w w' → Calls Tryz.prog 12 #[.pointer (some ⟨d, 0, none⟩)] w' fun e w1 => e = .returned (.tuple #[.pointer none, .int .i64 c]) ∧ Keep (fun b => b ∈ fpR) w' w1) ∨
    (Calls Tryz.prog 11 #[.pointer (some ⟨g, 0, none⟩)] w fun e w1 => ∃ s jp m x y z, e = .returned (.tuple #[.pointer (some ⟨s, 0, none⟩), .int .i64 0]) ∧ Below w.heap.size w w1 ∧ Hid (∀ w2, Below w1.heap.size w1 w2 → Calls Tryz.prog 12 #[.pointer (some ⟨d, 0, none⟩)] w2 fun e w3 => ∃ r j A, e = .returned (.tuple #[.pointer (some ⟨r, 0, none⟩), .int .i64 0]) ∧ BothO N0 q s g jp m r d x y z j w3 A ∧ Keep (fun b => b ∈ fpR) w2 w3)) := by
  have hs0 : (val f 0).size ≤ 150000000000000 := by rw [hsz]; decide
  by_cases h1 : ∃ x y z, Sh.okR (val f 0) x y z
  · obtain ⟨x, y, z, h1⟩ := h1
    by_cases hx : x = n
    · subst hx
      have hok := h1.2
      have hy := hok.1.2.1
      have hx16 := hok.1.1
      have hrl := ringOf_len f (y - 1)
      have hzz : ∀ b ∈ val f 1 :: ringOf f (y - 1), b.size ≤ 150000000000000 := fun b hb => by
        rcases List.mem_cons.1 hb with rfl | hb
        · rw [hsz]; decide
        · unfold ringOf at hb
          obtain ⟨i, _, rfl⟩ := List.mem_map.1 hb
          rw [hsz]; decide
      have log : (∀ v w', SLie w' v (val f 1 :: ringOf f (y - 1)) → Calls Tryz.prog 52 #[v] w' fun e w'' => ON e ∧ Below w'.heap.size w' w'') → (∀ v w', SLie w' v (val f 1 :: ringOf f (y - 1)) → Calls Tryz.prog 58 #[v] w' fun e w'' => RON e ∧ Below w'.heap.size w' w'') → (∃ c : Int, c ≠ 0 ∧ (∀ w', Below w.heap.size w w' → Calls Tryz.prog 11 #[.pointer (some ⟨g, 0, none⟩)] w' fun e w1 => e = .returned (.tuple #[.pointer none, .int .i64 c]) ∧ Below w'.heap.size w' w1) ∧ ∀ w', Below w.heap.size w w' → Calls Tryz.prog 12 #[.pointer (some ⟨d, 0, none⟩)] w' fun e w1 => e = .returned (.tuple #[.pointer none, .int .i64 c]) ∧ Keep (fun b => b ∈ fpR) w' w1) := fun k1 k2 =>
        ⟨(80 : Int), by decide, fun w' kb => popen_log (S := ⟨x, f, []⟩) x y z hok rfl h1 hs0 k1 w' (hP.below kb), fun w' kb => (ropen_log x y z hok h1 hs0 k2 w' (hR.below kb)).mono fun e w'' ⟨k3, k4⟩ => ⟨k3, Keep.of k4⟩⟩
      by_cases h2 : ∃ T F E, isHdr (val f 1) T F E ∧ F ≤ E ∧ E - F ≤ (ringOf f (y - 1)).length ∧ T < (ringOf f (y - 1)).length ∧ 1 ≤ F ∧ F ≤ 1099511627776
      · obtain ⟨T, F, E, g1, g2, g3, g4, g5, g6⟩ := h2
        obtain ⟨S, rfl⟩ : ∃ S, E = F + S := ⟨E - F, by omega⟩
        have hS : S ≤ (ringOf f (y - 1)).length := by omega
        by_cases h3 : ∃ Ls : List (List Chg), Ls.length = S ∧ decs F ((ringOf f (y - 1)).drop T ++ (ringOf f (y - 1)).take T) Ls
        · obtain ⟨Ls, rfl, hdc⟩ := h3
          have hu := hdc.used_le
          have hrot : ((ringOf f (y - 1)).drop T ++ (ringOf f (y - 1)).take T).length = y - 1 := by simp; omega
          have hG : RawD x y z f T F Ls := ⟨h1, g1, by omega, g5, g6, hdc, by omega, hsz⟩
          by_cases hall : ∀ L ∈ Ls, okX y x L
          · refine .inr ((pr_raw x y z hok hG w hP n1 n2).mono ?_)
            rintro e w1 ⟨k1, _, kb⟩
            obtain ⟨s, jp, m, rfl, kp⟩ := k1 hall
            refine ⟨s, jp, m, x, y, z, rfl, kb, hid fun w2 kb2 => ?_⟩
            have hz1 := kb.size
            have hz2 := kb2.size
            have hlP := hP.lo
            have hlR := hR.lo
            refine (ropen_raw x y z hok hG w2 (hR.below (kb.next kb2)) n3 (by omega)).mono ?_
            rintro e w3 ⟨k3, _, kb3⟩
            obtain ⟨r, j, M', rfl, kr, k4⟩ := k3 hall
            have hap : ∀ b, (b ∈ fpP ∨ (w.heap.size ≤ b ∧ b < w1.heap.size)) → b ∉ fpR := fun b hb hm => by
              rcases hb with e | e
              · exact hd b e hm
              · have := (hlR b hm).2; omega
            have hft := decs_top hdc g6
            have hmA : (mendA y T F Ls).length ≤ 300 := by have := mendA_len y T F Ls; omega
            refine ⟨r, j, mendA y T F Ls, rfl, ⟨_, M', ⟨f, [], mg Ls, [], (F : Int) + Ls.length - 1⟩, _, _, [], (kp.below kb2).keep kb3 hap, kr, fun b hb hm => ?_, fun b hb => ?_, ⟨(mendA_ok (by omega) hall).1, (mendA_ok (by omega) hall).2, ⟨(fun q hq => by cases hq), (by show 0 + (mendA y T F Ls).length ≤ 2000; omega)⟩, (by omega), by show (0 : Int) ≤ (F : Int) + Ls.length - 1; omega, by show (F : Int) + Ls.length - 1 ≤ 2000000000000; omega, by show (mg Ls).length ≤ 256; have := mg_used Ls; omega⟩⟩, kb3⟩
            · rcases k4 b hm with e2 | e2
              · exact hap b hb e2
              · rcases hb with e | e
                · have := (hlP b e).2; omega
                · omega
            · rcases hb with e | e
              · have := kp.lo b e; omega
              · have := kr.lo b e; omega
          · refine .inl ⟨70, by decide, fun w' kb => ?_, fun w' kb => ?_⟩
            · have hz1 := kb.size
              exact (pr_raw x y z hok hG w' (hP.below kb) n1 (by omega)).mono fun e w1 ⟨_, k2, k3⟩ => ⟨k2 hall, k3⟩
            · have hz1 := kb.size
              exact (ropen_raw x y z hok hG w' (hR.below kb) n3 (by omega)).mono fun e w1 ⟨_, k2, k3⟩ => ⟨k2 hall, k3⟩
        · exact .inl (log (fun v w' hv => (open_go v _ _ w' hv hzz (by omega) T F S g1 g4 g5 g6 hS).mono fun e w'' ⟨k1, k2⟩ => ⟨k1.2 h3, k2⟩) (fun v w' hv => (ropen_yes v _ _ w' hv hzz (by omega) T F S g1 g4 g5 g6 hS).mono fun e w'' ⟨k1, k2⟩ => ⟨k1.2 h3, k2⟩))
      · exact .inl (log (fun v w' hv => popen_no v _ _ w' hv (hzz _ (List.mem_cons_self ..)) (by omega) h2) (fun v w' hv => ropen_no v _ _ w' hv (hzz _ (List.mem_cons_self ..)) (by omega) h2))
    · exact .inl ⟨60, by decide, fun w' kb => popen_sh1 (S := ⟨n, f, []⟩) x y z h1 hx hn hs0 w' (hP.below kb), fun w' kb => (ropen_sh1 x y z h1 hx hn hs0 w' (hR.below kb)).mono fun e w'' ⟨k3, k4⟩ => ⟨k3, Keep.of k4⟩⟩
  · exact .inl ⟨60, by decide, fun w' kb => popen_sh0 (S := ⟨n, f, []⟩) h1 hn hs0 w' (hP.below kb), fun w' kb => (ropen_sh0 h1 hn hs0 w' (hR.below kb)).mono fun e w'' ⟨k3, k4⟩ => ⟨k3, Keep.of k4⟩⟩
end Go.Proofs.YtopebghandojbaaGreat
