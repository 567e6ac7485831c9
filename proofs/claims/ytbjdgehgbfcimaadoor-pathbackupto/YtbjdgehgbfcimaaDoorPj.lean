import Derived.Test.YtbjdgehgbfcimaaDoorPi
namespace Go.Proofs.YtbjdgehgbfcimaaDoor
open Go.RowKit

theorem chk_take {l : List ByteArray} (h : chkE l = 0) (n : Nat) : chkE (l.take n) = 0 := by
  obtain ⟨a1, a2⟩ := chkE_ok.1 h
  refine chkE_ok.2 ⟨chkN_ok.2 fun x hx => chkN_ok.1 a1 x (List.mem_of_mem_take hx), ?_⟩
  rw [List.length_take]; omega
/-- what a path's parent is -/
theorem par_facts {p : List UInt8} (h : splE p = 0) (h1 : p ≠ [47]) : parE p = 0 ∧ splE (parU p).data.toList = 0 ∧ (splL (parU p).data.toList).length + 1 = (splL p).length ∧ belB p (parU p).data.toList = true ∧ belE p (parU p).data.toList = 0 ∧ nmB (parN p) = 0 ∧ (parU p).size ≤ 2000 := by
  have hne := splL_ne h h1
  have hpos := List.length_pos_iff.2 hne
  have hok := splL_ok p
  have e2 : parU p = st (joinP ((splL p).take ((splL p).length - 1))) := by simp [parU, h, h1]
  have e3 : parN p = (splL p)[(splL p).length - 1]'(by omega) := by
    unfold parN
    rw [if_pos h, if_neg h1, getLastD_eq _ _ hne]
  have ht := chk_take hok ((splL p).length - 1)
  obtain ⟨f1, f2⟩ := split_join ht
  have g := good_join ht
  have hb : belB p (parU p).data.toList = true := by
    rw [e2, st_list, belB_iff h f1, f2]
    exact ⟨by rw [List.length_take]; omega, (splL p).drop ((splL p).length - 1), (List.take_append_drop _ _).symm⟩
  refine ⟨by simp [parE, h, h1], by rw [e2, st_list]; exact f1, by rw [e2, st_list, f2, List.length_take]; omega, hb, ?_, ?_, ?_⟩
  · rw [belE_ok]; exact ⟨h, by rw [e2, st_list]; exact f1⟩
  · rw [e3]; exact chkN_ok.1 (chkE_ok.1 hok).1 _ (List.getElem_mem _)
  · rw [e2, st_size]
    have := join_len _ g.1 g.2
    unfold joinP
    rw [List.length_cons]; omega
set_option maxRecDepth 100000 in
set_option maxHeartbeats 2000000 in
/-- the second half: names that make a path are its names -/
theorem back_walk (s : ByteArray) (v : Value) (l : List ByteArray) (w : World) (hs : s.size ≤ 1048576) (hv : SLie w v l) : Calls Tryd.prog 6 #[.string s, v] w fun e w' => e = .returned (.bool true) ∧ Below w.heap.size w w' := by
  have HSP := hid speaks_any
  have HV0 := hid hv
  have H9 := hid (fun w => split_any s w hs)
  have H17 := hid (fun x w (h : SLie w x (splL s.data.toList)) => join_any x _ w h)
  have H17' := hid (fun w (h : SLie w v l) => join_any v l w h)
  have H13 := hid (fun x w (h : SLie w x l) (h' : SLie w v l) => texts_any x v l l w h h')
  rw [sameS_self] at H13
  rw [splL_ok, if_pos rfl] at H17
  have HN : Hid ((chkE l = 0 ∧ (∀ w, Calls Tryd.prog 9 #[.string (st (joinP l))] w fun e w' => ∃ x, e = .returned (.tuple #[x, .int .i64 0]) ∧ SLie w' x l ∧ Below w.heap.size w w')) ∨ chkE l ≠ 0) := by
    by_cases h : chkE l = 0
    · refine .inl ⟨h, fun w => ?_⟩
      have g := good_join h
      have := join_len _ g.1 g.2
      have c := split_any (st (joinP l)) w (by rw [st_size]; unfold joinP; simp; omega)
      rw [st_list, (split_join h).1, (split_join h).2] at c
      exact c
    · exact .inr h
  clear hv
  by_cases h0 : splE s.data.toList = 0
  · have e1 : st (joinP (splL s.data.toList)) = s := by rw [join_split h0, st_toList]
    rw [e1] at H17
    rw [h0] at H9
    have H21 := hid (fun w => below_any s s w hs hs)
    rw [bel_self _ h0, show belE s.data.toList s.data.toList = 0 from belE_ok.2 ⟨h0, h0⟩] at H21
    by_cases h1 : s.data.toList = [47]
    · have H11 := hid (fun w => parent_any s w hs)
      have e2 : parE s.data.toList = 309 := by rw [h1]; simp [parE, splE_root]
      rw [e2] at H11
      have k1 : (s.toList == [47]) = true := by rw [Lib.toList_data, h1]; rfl
      obtain ⟨pu, hpu⟩ : ∃ x, x = parU s.data.toList := ⟨_, rfl⟩
      obtain ⟨pn, hpn⟩ : ∃ x, x = parN s.data.toList := ⟨_, rfl⟩
      obtain ⟨L, hL⟩ : ∃ x, x = splL s.data.toList := ⟨_, rfl⟩
      rw [← hpu, ← hpn] at H11
      rw [← hL] at H9 H17
      clear e1 e2 hpu hpn hL h0 h1
      rcases HN.out with ⟨hl, h9⟩ | hl
      · rw [hl, if_pos rfl] at H17'
        have H9' := hid h9
        obtain ⟨q, hq⟩ : ∃ x, x = st (joinP l) := ⟨_, rfl⟩
        rw [← hq] at H17' H9'
        clear h9 hq HN hl
        go_enter Tryd.func6, Tryd.ntmps6
        go_wp2_with (first
          | (go_at_call 9; have hk := HB5; clear hk; refine (H9'.out _).mono ?_; rintro e w6 ⟨y, rfl, hy, hb6⟩; have HY6 := hid hy; have HV6 := hid (HV5.out.below hb6); have HB6 := hid (below_next HB5.out hb6); clear hy hb6)
          | (go_at_call 9; refine (H9.out _).mono ?_; rintro e w1 ⟨x, rfl, hx, hb1⟩; have HX1 := hid hx; have HV1 := hid (HV0.out.below hb1); have HB1 := hid hb1; obtain ⟨ao, cap, ex, hc1, hc2, hc3⟩ := hx; subst ex; clear hb1 hc3)
          | (go_at_call 17; (fail_if_success (have hk := HB2)); refine (H17.out _ _ HX1.out).mono ?_; rintro e w2 ⟨rfl, hb2⟩; have HV2 := hid (HV1.out.below hb2); have HB2 := hid (below_next HB1.out hb2); clear hb2)
          | (go_at_call 21; refine (H21.out _).mono ?_; rintro e w3 ⟨rfl, hb3⟩; have HV3 := hid (HV2.out.below hb3); have HB3 := hid (below_next HB2.out hb3); clear hb3)
          | (go_at_call 11; refine (H11.out _).mono ?_; rintro e w4 ⟨rfl, hb4⟩; have HV4 := hid (HV3.out.below hb4); have HB4 := hid (below_next HB3.out hb4); clear hb4)
          | (go_at_call 17; refine (H17'.out _ HV4.out).mono ?_; rintro e w5 ⟨rfl, hb5⟩; have HV5 := hid (HV4.out.below hb5); have HB5 := hid (below_next HB4.out hb5); clear hb5)
          | (go_at_call 13; refine (H13.out _ _ HY6.out HV6.out).mono ?_; rintro e w7 ⟨rfl, hb7⟩; have HB7 := hid (below_next HB6.out hb7); clear hb7)
          | (go_at_call 16; refine (HSP.out _).mono ?_; rintro e w8 ⟨rfl, hb8⟩; have HB8 := hid (below_next HB7.out hb8); clear hb8))
        go_ret
        exact ⟨rfl, HB8.out⟩
      · rw [if_neg hl] at H17'
        obtain ⟨E, hE⟩ : ∃ x, x = chkE l := ⟨_, rfl⟩
        rw [← hE] at H17' hl
        have hne : (E != 0) = true := by simpa using hl
        clear hE HN hl
        go_enter Tryd.func6, Tryd.ntmps6
        go_wp2_with (first
          | (go_at_call 9; refine (H9.out _).mono ?_; rintro e w1 ⟨x, rfl, hx, hb1⟩; have HX1 := hid hx; have HV1 := hid (HV0.out.below hb1); have HB1 := hid hb1; obtain ⟨ao, cap, ex, hc1, hc2, hc3⟩ := hx; subst ex; clear hb1 hc3)
          | (go_at_call 17; (fail_if_success (have hk := HB2)); refine (H17.out _ _ HX1.out).mono ?_; rintro e w2 ⟨rfl, hb2⟩; have HV2 := hid (HV1.out.below hb2); have HB2 := hid (below_next HB1.out hb2); clear hb2)
          | (go_at_call 21; refine (H21.out _).mono ?_; rintro e w3 ⟨rfl, hb3⟩; have HV3 := hid (HV2.out.below hb3); have HB3 := hid (below_next HB2.out hb3); clear hb3)
          | (go_at_call 11; refine (H11.out _).mono ?_; rintro e w4 ⟨rfl, hb4⟩; have HV4 := hid (HV3.out.below hb4); have HB4 := hid (below_next HB3.out hb4); clear hb4)
          | (go_at_call 17; refine (H17'.out _ HV4.out).mono ?_; rintro e w5 ⟨rfl, hb5⟩; have HV5 := hid (HV4.out.below hb5); have HB5 := hid (below_next HB4.out hb5); clear hb5)
          | (go_at_call 16; refine (HSP.out _).mono ?_; rintro e w8 ⟨rfl, hb8⟩; have HB8 := hid (below_next HB5.out hb8); clear hb8))
        go_ret
        exact ⟨rfl, HB8.out⟩
    · obtain ⟨f1, f2, f3, f4, f5, f6, f7⟩ := par_facts h0 h1
      have H11 := hid (fun w => parent_any s w hs)
      rw [f1] at H11
      have k1 : (s.toList == [47]) = false := by rw [Lib.toList_data]; simp [h1]
      have H21u := hid (fun w => below_any s (parU s.data.toList) w hs (by omega))
      rw [f4, f5] at H21u
      have H9u := hid (fun w => split_any (parU s.data.toList) w (by omega))
      rw [f2] at H9u
      have H14 := hid (fun w => name_any (parN s.data.toList) w)
      rw [f6] at H14
      have h8 := (good_join (splL_ok s.data.toList)).2
      obtain ⟨pu, hpu⟩ : ∃ x, x = parU s.data.toList := ⟨_, rfl⟩
      obtain ⟨pn, hpn⟩ : ∃ x, x = parN s.data.toList := ⟨_, rfl⟩
      obtain ⟨L, hL⟩ : ∃ x, x = splL s.data.toList := ⟨_, rfl⟩
      rw [← hpu, ← hpn] at H11
      rw [← hpu] at H21u H9u f3
      rw [← hpn] at H14
      obtain ⟨M, hM⟩ : ∃ x, x = splL pu.data.toList := ⟨_, rfl⟩
      rw [← hM] at H9u f3
      rw [← hL] at H9 H17 f3 h8
      have F3 := hid f3
      have hm8 : M.length ≤ 8 := by omega
      have f3i : IntKind.i64.wrap ((L.length : Int) - 1) = (M.length : Int) := by rw [IntKind.wrap_i64]; omega
      have f3j : (L.length : Int) - 1 = (M.length : Int) := by omega
      have f3k : ((M.length : Int) != (L.length : Int) - 1) = false := by simp; omega
      clear e1 hpu hpn hL hM h0 h1 f1 f2 f3 f4 f5 f6 f7
      rcases HN.out with ⟨hl, h9⟩ | hl
      · rw [hl, if_pos rfl] at H17'
        have H9' := hid h9
        obtain ⟨q, hq⟩ : ∃ x, x = st (joinP l) := ⟨_, rfl⟩
        rw [← hq] at H17' H9'
        clear h9 hq HN hl
        go_enter Tryd.func6, Tryd.ntmps6
        go_wp2_with (first
          | (go_at_call 9; have hk := HBa; clear hk; (fail_if_success (have hk := HBb)); refine (H9u.out _).mono ?_; rintro e wb ⟨y, rfl, hy, hbb⟩; have HVb := hid (HVa.out.below hbb); have HBb := hid (below_next HBa.out hbb); obtain ⟨ao2, cap2, ey, hd1, hd2, hd3⟩ := hy; subst ey; clear hbb hd3)
          | (go_at_call 17; (fail_if_success (have hk := HB2)); refine (H17.out _ _ HX1.out).mono ?_; rintro e w2 ⟨rfl, hb2⟩; have HV2 := hid (HV1.out.below hb2); have HB2 := hid (below_next HB1.out hb2); clear hb2)
          | (go_at_call 21; have hk := HB4; clear hk; refine (H21u.out _).mono ?_; rintro e wa ⟨rfl, hba⟩; have HVa := hid (HV4.out.below hba); have HBa := hid (below_next HB4.out hba); clear hba)
          | (go_at_call 21; refine (H21.out _).mono ?_; rintro e w3 ⟨rfl, hb3⟩; have HV3 := hid (HV2.out.below hb3); have HB3 := hid (below_next HB2.out hb3); clear hb3)
          | (go_at_call 11; refine (H11.out _).mono ?_; rintro e w4 ⟨rfl, hb4⟩; have HV4 := hid (HV3.out.below hb4); have HB4 := hid (below_next HB3.out hb4); clear hb4)
          | (go_at_call 14; refine (H14.out _).mono ?_; rintro e wc ⟨rfl, hbc⟩; have HVc := hid (HVb.out.below hbc); have HBc := hid (below_next HBb.out hbc); clear hbc)
          | (go_at_call 17; refine (H17'.out _ HVc.out).mono ?_; rintro e w5 ⟨rfl, hb5⟩; have HV5 := hid (HVc.out.below hb5); have HB5 := hid (below_next HBc.out hb5); clear hb5)
          | (go_at_call 9; have hk := HB5; clear hk; refine (H9'.out _).mono ?_; rintro e w6 ⟨y, rfl, hy, hb6⟩; have HY6 := hid hy; have HV6 := hid (HV5.out.below hb6); have HB6 := hid (below_next HB5.out hb6); clear hy hb6)
          | (go_at_call 9; refine (H9.out _).mono ?_; rintro e w1 ⟨x, rfl, hx, hb1⟩; have HX1 := hid hx; have HV1 := hid (HV0.out.below hb1); have HB1 := hid hb1; obtain ⟨ao, cap, ex, hc1, hc2, hc3⟩ := hx; subst ex; clear hb1 hc3)
          | (go_at_call 13; refine (H13.out _ _ HY6.out HV6.out).mono ?_; rintro e w7 ⟨rfl, hb7⟩; have HB7 := hid (below_next HB6.out hb7); clear hb7)
          | (go_at_call 16; refine (HSP.out _).mono ?_; rintro e w8 ⟨rfl, hb8⟩; have HB8 := hid (below_next HB7.out hb8); clear hb8))
        go_ret
        exact ⟨rfl, HB8.out⟩
      · rw [if_neg hl] at H17'
        obtain ⟨E, hE⟩ : ∃ x, x = chkE l := ⟨_, rfl⟩
        rw [← hE] at H17' hl
        have hne : (E != 0) = true := by simpa using hl
        clear hE HN hl
        go_enter Tryd.func6, Tryd.ntmps6
        go_wp2_with (first
          | (go_at_call 9; have hk := HBa; clear hk; (fail_if_success (have hk := HBb)); refine (H9u.out _).mono ?_; rintro e wb ⟨y, rfl, hy, hbb⟩; have HVb := hid (HVa.out.below hbb); have HBb := hid (below_next HBa.out hbb); obtain ⟨ao2, cap2, ey, hd1, hd2, hd3⟩ := hy; subst ey; clear hbb hd3)
          | (go_at_call 17; (fail_if_success (have hk := HB2)); refine (H17.out _ _ HX1.out).mono ?_; rintro e w2 ⟨rfl, hb2⟩; have HV2 := hid (HV1.out.below hb2); have HB2 := hid (below_next HB1.out hb2); clear hb2)
          | (go_at_call 21; have hk := HB4; clear hk; refine (H21u.out _).mono ?_; rintro e wa ⟨rfl, hba⟩; have HVa := hid (HV4.out.below hba); have HBa := hid (below_next HB4.out hba); clear hba)
          | (go_at_call 21; refine (H21.out _).mono ?_; rintro e w3 ⟨rfl, hb3⟩; have HV3 := hid (HV2.out.below hb3); have HB3 := hid (below_next HB2.out hb3); clear hb3)
          | (go_at_call 11; refine (H11.out _).mono ?_; rintro e w4 ⟨rfl, hb4⟩; have HV4 := hid (HV3.out.below hb4); have HB4 := hid (below_next HB3.out hb4); clear hb4)
          | (go_at_call 14; refine (H14.out _).mono ?_; rintro e wc ⟨rfl, hbc⟩; have HVc := hid (HVb.out.below hbc); have HBc := hid (below_next HBb.out hbc); clear hbc)
          | (go_at_call 17; refine (H17'.out _ HVc.out).mono ?_; rintro e w5 ⟨rfl, hb5⟩; have HV5 := hid (HVc.out.below hb5); have HB5 := hid (below_next HBc.out hb5); clear hb5)
          | (go_at_call 9; refine (H9.out _).mono ?_; rintro e w1 ⟨x, rfl, hx, hb1⟩; have HX1 := hid hx; have HV1 := hid (HV0.out.below hb1); have HB1 := hid hb1; obtain ⟨ao, cap, ex, hc1, hc2, hc3⟩ := hx; subst ex; clear hb1 hc3)
          | (go_at_call 16; refine (HSP.out _).mono ?_; rintro e w8 ⟨rfl, hb8⟩; have HB8 := hid (below_next HB5.out hb8); clear hb8))
        go_ret
        exact ⟨rfl, HB8.out⟩
  · rw [splL_err h0] at H9
    obtain ⟨F, hF⟩ : ∃ x, x = splE s.data.toList := ⟨_, rfl⟩
    rw [← hF] at H9 h0
    have hnf : (F == 0) = false := by simpa using h0
    clear hF h0 H17
    rcases HN.out with ⟨hl, h9⟩ | hl
    · rw [hl, if_pos rfl] at H17'
      have H9' := hid h9
      obtain ⟨q, hq⟩ : ∃ x, x = st (joinP l) := ⟨_, rfl⟩
      rw [← hq] at H17' H9'
      clear h9 hq HN hl
      go_enter Tryd.func6, Tryd.ntmps6
      go_wp2_with (first
        | (go_at_call 17; refine (H17'.out _ HV1.out).mono ?_; rintro e w5 ⟨rfl, hb5⟩; have HV5 := hid (HV1.out.below hb5); have HB5 := hid (below_next HB1.out hb5); clear hb5)
        | (go_at_call 9; have hk := HB5; clear hk; refine (H9'.out _).mono ?_; rintro e w6 ⟨y, rfl, hy, hb6⟩; have HY6 := hid hy; have HV6 := hid (HV5.out.below hb6); have HB6 := hid (below_next HB5.out hb6); clear hy hb6)
        | (go_at_call 9; refine (H9.out _).mono ?_; rintro e w1 ⟨x, rfl, hx, hb1⟩; have HX1 := hid hx; have HV1 := hid (HV0.out.below hb1); have HB1 := hid hb1; obtain ⟨ao, cap, ex, hc1, hc2, hc3⟩ := hx; subst ex; clear hb1 hc3)
        | (go_at_call 13; refine (H13.out _ _ HY6.out HV6.out).mono ?_; rintro e w7 ⟨rfl, hb7⟩; have HB7 := hid (below_next HB6.out hb7); clear hb7)
        | (go_at_call 16; refine (HSP.out _).mono ?_; rintro e w8 ⟨rfl, hb8⟩; have HB8 := hid (below_next HB7.out hb8); clear hb8))
      go_ret
      exact ⟨rfl, HB8.out⟩
    · rw [if_neg hl] at H17'
      obtain ⟨E, hE⟩ : ∃ x, x = chkE l := ⟨_, rfl⟩
      rw [← hE] at H17' hl
      have hne : (E != 0) = true := by simpa using hl
      clear hE HN hl
      go_enter Tryd.func6, Tryd.ntmps6
      go_wp2_with (first
        | (go_at_call 17; refine (H17'.out _ HV1.out).mono ?_; rintro e w5 ⟨rfl, hb5⟩; have HV5 := hid (HV1.out.below hb5); have HB5 := hid (below_next HB1.out hb5); clear hb5)
        | (go_at_call 9; refine (H9.out _).mono ?_; rintro e w1 ⟨x, rfl, hx, hb1⟩; have HX1 := hid hx; have HV1 := hid (HV0.out.below hb1); have HB1 := hid hb1; obtain ⟨ao, cap, ex, hc1, hc2, hc3⟩ := hx; subst ex; clear hb1 hc3)
        | (go_at_call 16; refine (HSP.out _).mono ?_; rintro e w8 ⟨rfl, hb8⟩; have HB8 := hid (below_next HB5.out hb8); clear hb8))
      go_ret
      exact ⟨rfl, HB8.out⟩
end Go.Proofs.YtbjdgehgbfcimaaDoor
