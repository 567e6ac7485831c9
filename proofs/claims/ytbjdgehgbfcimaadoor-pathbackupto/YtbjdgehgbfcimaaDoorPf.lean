import Derived.Test.YtbjdgehgbfcimaaDoorPe
namespace Go.Proofs.YtbjdgehgbfcimaaDoor
open Go.RowKit

/-- names, each with a slash ahead -/
def jn : List ByteArray → List UInt8
  | [] => []
  | x :: r => 47 :: x.data.toList ++ jn r
theorem jn_snoc : ∀ (l : List ByteArray) (x : ByteArray), jn (l ++ [x]) = jn l ++ 47 :: x.data.toList
  | [], x => by simp [jn]
  | y :: r, x => by simp [jn, jn_snoc r x]
theorem joinP_cons : ∀ (x : ByteArray) (r : List ByteArray), joinP (x :: r) = jn (x :: r) := by
  intro x r
  have h : ∀ r : List ByteArray, Lib.joinTail [47] (r.map (·.data.toList)) = jn r := by
    intro r
    induction r with
    | nil => rfl
    | cons y t ih => simp [Lib.joinTail, jn] at ih ⊢; exact ih
  unfold joinP
  rw [List.map_cons, Lib.join_cons, h]; rfl
theorem app_two (J : List UInt8) (c : ByteArray) : st J ++ ⟨#[47]⟩ ++ c = st (J ++ 47 :: c.data.toList) := by
  apply ba_ext
  simp [st]
theorem take_snoc {α : Type} (l : List α) (q : Nat) (h : q < l.length) : l.take (q + 1) = l.take q ++ [l[q]] := List.take_succ_eq_append_getElem h
theorem ret_ss {a b : ByteArray} {k : Int} (h : a = b) : Ending.returned (.tuple #[.string a, .int .i64 k]) = .returned (.tuple #[.string b, .int .i64 k]) := by rw [h]
set_option maxRecDepth 100000 in
set_option maxHeartbeats 2000000 in
/-- the reference's Join -/
theorem rjoin_any (v : Value) (l : List ByteArray) (w : World) (h : SLie w v l) (hl : l.length ≤ 100000000000000) (hsz : ∀ x ∈ l, x.size ≤ maxLen) : Calls Tryd.prog 18 #[v] w fun e w' => e = .returned (.tuple #[.string (if chkE l = 0 then st (joinP l) else ⟨#[]⟩), .int .i64 (chkE l)]) ∧ w' = w := by
  obtain ⟨ao, cap, rfl, hlc, hcm, hcell⟩ := h
  have HC := hid hcell
  have HSZ := hid hsz
  clear hcell hsz
  unfold maxLen at hcm
  obtain ⟨A, hA⟩ : ∃ A, A = if chkE l = 0 then st (joinP l) else ⟨#[]⟩ := ⟨_, rfl⟩
  obtain ⟨E, hE⟩ : ∃ E, E = chkE l := ⟨_, rfl⟩
  rw [← hA, ← hE]
  have HA := hid hA
  have HE := hid hE
  clear hA hE
  go_enter Tryd.func18, Tryd.ntmps18
  go_wp2
  go_loopw [4, 10] (fun s4 i wr => ∃ (q : Nat), i = .int .i64 q ∧ q ≤ l.length ∧ s4 = .string (st (jn (l.take q))) ∧ (st (jn (l.take q))).size ≤ 25 * q ∧ Hid (chkN (l.take q) = 0) ∧ wr = w) (fun _ i _ => l.length - (intOf i).toNat)
  case atStart => exact ⟨0, rfl, Nat.zero_le _, rfl, by simp [jn, st_size], rfl, rfl⟩
  case round =>
    obtain ⟨q, rfl, hq, rfl, hsize, HK, hw⟩ := hrel
    subst hw
    by_cases hqk : q < l.length
    · obtain ⟨gb, off, e, hgl, c0⟩ := HC.out q hqk
      subst e
      have HT := hid (take_snoc l q hqk)
      have HD := hid (drop_at l q hqk)
      have hcm2 := HSZ.out l[q] (List.getElem_mem _)
      obtain ⟨c, hc⟩ : ∃ c, c = l[q] := ⟨_, rfl⟩
      rw [← hc] at c0 HT HD hcm2
      clear hc
      have HN := hid (fun w => rname_any c w hcm2)
      unfold maxLen at hcm2
      have HJ := hid (app_two (jn (l.take q)) c)
      have HJ2 : Hid (jn (l.take (q + 1)) = jn (l.take q) ++ 47 :: c.data.toList) := by
        show _ = _
        rw [HT.out, jn_snoc]
      obtain ⟨S, hS⟩ : ∃ S, S = st (jn (l.take q)) := ⟨_, rfl⟩
      rw [← hS] at hsize HJ ⊢
      clear hS
      by_cases h0 : nmB c = 0
      · have h24 : c.size ≤ 24 := by
          have := (nmE_ok.1 h0).2.2.2.2
          rw [len_list] at this; exact this
        have HK2 : Hid (chkN (l.take (q + 1)) = 0) := by
          show _ = _
          rw [HT.out]; exact chkN_snoc HK.out h0
        rw [h0] at HN
        have hz : (S ++ ⟨#[47]⟩).size = S.size + 1 := by simp [ByteArray.size_append]; rfl
        clear h0
        go_wp2_with (first | (go_at_call 15; refine (HN.out _).mono ?_; rintro e w1 ⟨rfl, hw⟩; have hw := hw.symm; subst hw))
        all_goals try (exfalso; omega)
        go_roundw
        case rel => exact ⟨q + 1, by go_num, by omega, by rw [HJ2.out, ← HJ.out], by rw [HJ2.out, ← HJ.out, ByteArray.size_append, hz]; omega, HK2, trivial⟩
        case measure => simp [intOf]; omega
      · have HX : Hid (chkE l = nmB c) := by
          show _ = _
          have := chkE_at (rest := l.drop (q + 1)) HK.out h0
          rw [← HD.out, List.take_append_drop] at this
          exact this
        have HX2 : Hid (chkE l ≠ 0) := by
          show _ ≠ _
          rw [HX.out]; exact h0
        obtain ⟨F, hF⟩ : ∃ F, F = nmB c := ⟨_, rfl⟩
        rw [← hF] at HN h0 HX
        have hne : (F != 0) = true := by simpa using h0
        clear hF h0
        go_wp2_with (first | (go_at_call 15; refine (HN.out _).mono ?_; rintro e w1 ⟨rfl, hw⟩; have hw := hw.symm; subst hw))
        go_ret2
        exact ⟨by rw [HA.out, HE.out, if_neg HX2.out, HX.out]; rfl, rfl⟩
    · have hqe : q = l.length := by omega
      subst hqe
      rw [List.take_length] at HK hsize
      have HTL : Hid (l.take l.length = l) := List.take_length
      by_cases h8 : 8 < l.length
      · have e8 : chkE l = 308 := by unfold chkE; rw [if_pos HK.out, if_pos h8]
        have E8 := hid e8
        clear e8
        go_wp2
        go_ret2
        exact ⟨by rw [HA.out, HE.out, E8.out]; rfl, rfl⟩
      · have e8 : chkE l = 0 := by unfold chkE; rw [if_pos HK.out, if_neg h8]
        have E8 := hid e8
        clear e8
        have hk : (st (jn (List.take l.length l))).toList.isEmpty = l.isEmpty := by
          rw [HTL.out, Lib.toList_data, st_list]
          cases l <;> rfl
        obtain ⟨S, hS⟩ : ∃ S, S = st (jn (List.take l.length l)) := ⟨_, rfl⟩
        have HS : Hid (S = st (jn l)) := by
          show _ = _
          rw [hS, HTL.out]
        rw [← hS] at hk ⊢
        clear hS
        cases hnil : l.isEmpty with
        | true =>
          rw [hnil] at hk
          have HX : Hid (st (joinP l) = ⟨#[47]⟩) := by
            show _ = _
            rw [List.isEmpty_iff.1 hnil]; rfl
          clear hnil
          go_wp2
          go_ret2
          exact ⟨by rw [HA.out, HE.out, E8.out, if_pos rfl, HX.out]; rfl, rfl⟩
        | false =>
          rw [hnil] at hk
          have HX : Hid (S = st (joinP l)) := by
            show _ = _
            rw [HS.out]
            cases l with
            | nil => simp at hnil
            | cons x r => rw [joinP_cons]
          clear hnil
          go_wp2
          go_ret2
          exact ⟨by rw [HA.out, HE.out, E8.out, if_pos rfl, ← HX.out]; rfl, rfl⟩
set_option maxRecDepth 100000 in
set_option maxHeartbeats 2000000 in
theorem rbelow_any (s t : ByteArray) (w : World) (hs : s.size ≤ 1048576) (ht : t.size ≤ 1048576) : Calls Tryd.prog 22 #[.string s, .string t] w fun e w' => e = .returned (.tuple #[.bool (belB s.data.toList t.data.toList), .int .i64 (belE s.data.toList t.data.toList)]) ∧ Below w.heap.size w w' := by
  have HS := hid (rsplit_any s w hs)
  have HT := hid (fun w => rsplit_any t w ht)
  obtain ⟨p, hp⟩ : ∃ p, p = s.data.toList := ⟨_, rfl⟩
  obtain ⟨o, ho⟩ : ∃ o, o = t.data.toList := ⟨_, rfl⟩
  rw [← hp] at HS ⊢
  rw [← ho] at HT ⊢
  clear hp ho hs ht
  by_cases h0 : splE p = 0
  · have e1 : belE p o = splE o := by simp [belE, h0]
    rw [e1]
    rw [h0] at HS
    by_cases h1 : splE o = 0
    · rw [h1] at HT ⊢
      have e2 : belB p o = (decide ((splL o).length < (splL p).length) && begS (splL p) (splL o)) := by unfold belB; rw [if_pos (by rw [e1, h1])]
      rw [e2]
      have H8 := (good_join (splL_ok p)).2
      have H8' := (good_join (splL_ok o)).2
      obtain ⟨L, hL⟩ : ∃ L, L = splL p := ⟨_, rfl⟩
      obtain ⟨M, hM⟩ : ∃ M, M = splL o := ⟨_, rfl⟩
      rw [← hL] at HS H8 ⊢
      rw [← hM] at HT H8' ⊢
      clear hL hM e1 e2 h0 h1
      by_cases hlt : M.length < L.length
      · have hd : decide (M.length < L.length) = true := by simpa using hlt
        rw [hd, Bool.true_and]
        clear hd
        obtain ⟨A, hA⟩ : ∃ A, A = begS L M := ⟨_, rfl⟩
        rw [← hA]
        have HA := hid hA
        clear hA
        go_enter Tryd.func22, Tryd.ntmps22
        go_upto_region 5 with (first
          | (go_at_call 10; have hk := HV1; clear hk; refine (HT.out _).mono ?_; rintro e w2 ⟨v2, rfl, hv2, hb2⟩; have HV2 := hid hv2; have HB2 := hid hb2; clear hb2 hv2)
          | (go_at_call 10; refine (HS.out).mono ?_; rintro e w1 ⟨v1, rfl, hv1, hb1⟩; have HV1 := hid hv1; have HB1 := hid hb1; clear hb1 hv1))
        replace HV1 := hid (HV1.out.below HB2.out)
        obtain ⟨ao, cap, e1, hc1, hc2, hc3⟩ := HV1.out
        obtain ⟨ao2, cap2, e2, hd1, hd2, hd3⟩ := HV2.out
        subst e1 e2
        clear hc3 hd3
        go_wp2_with (first
          | (go_at_call 31; refine (begins_any _ _ _ _ _ HV1.out HV2.out).mono ?_; rintro e w3 ⟨rfl, hb3⟩; have HB3 := hid hb3; clear hb3))
        go_ret2
        exact ⟨by rw [HA.out]; rfl, below_next (below_next HB1.out HB2.out) HB3.out⟩
      · have hd : decide (M.length < L.length) = false := by simpa using hlt
        rw [hd, Bool.false_and]
        clear hd
        go_enter Tryd.func22, Tryd.ntmps22
        go_upto_region 5 with (first
          | (go_at_call 10; have hk := HV1; clear hk; refine (HT.out _).mono ?_; rintro e w2 ⟨v2, rfl, hv2, hb2⟩; have HV2 := hid hv2; have HB2 := hid hb2; clear hb2 hv2)
          | (go_at_call 10; refine (HS.out).mono ?_; rintro e w1 ⟨v1, rfl, hv1, hb1⟩; have HV1 := hid hv1; have HB1 := hid hb1; clear hb1 hv1))
        obtain ⟨ao, cap, e1, hc1, hc2, hc3⟩ := HV1.out
        obtain ⟨ao2, cap2, e2, hd1, hd2, hd3⟩ := HV2.out
        subst e1 e2
        clear hc3 hd3
        go_wp2
        go_ret2
        exact ⟨rfl, below_next HB1.out HB2.out⟩
    · have e2 : belB p o = false := by unfold belB; rw [if_neg (by rw [e1]; exact h1)]
      rw [e2]
      obtain ⟨E, hE⟩ : ∃ E, E = splE o := ⟨_, rfl⟩
      rw [← hE] at HT h1 ⊢
      have hne : (E != 0) = true := by simpa using h1
      clear hE e1 e2 h0
      go_enter Tryd.func22, Tryd.ntmps22
      go_wp2_with (first
        | (go_at_call 10; have hk := HB1; clear hk; refine (HT.out _).mono ?_; rintro e w2 ⟨v2, rfl, hv2, hb2⟩; have HB2 := hid hb2; clear hb2 hv2)
        | (go_at_call 10; refine (HS.out).mono ?_; rintro e w1 ⟨v1, rfl, hv1, hb1⟩; have HB1 := hid hb1; clear hb1 hv1))
      go_ret2
      exact ⟨rfl, below_next HB1.out HB2.out⟩
  · have e1 : belE p o = splE p := by simp [belE, h0]
    have e2 : belB p o = false := by unfold belB; rw [if_neg (by rw [e1]; exact h0)]
    rw [e1, e2]
    obtain ⟨E, hE⟩ : ∃ E, E = splE p := ⟨_, rfl⟩
    rw [← hE] at HS h0 ⊢
    have hne : (E != 0) = true := by simpa using h0
    clear hE e1 e2 HT
    go_enter Tryd.func22, Tryd.ntmps22
    go_wp2_with (first
      | (go_at_call 10; refine (HS.out).mono ?_; rintro e w1 ⟨v1, rfl, hv1, hb1⟩; have HB1 := hid hb1; clear hb1 hv1))
    go_ret2
    exact ⟨rfl, HB1.out⟩
set_option maxRecDepth 100000 in
set_option maxHeartbeats 2000000 in
/-- the reference's Parent -/
theorem rparent_any (s : ByteArray) (w : World) (hs : s.size ≤ 1048576) : Calls Tryd.prog 12 #[.string s] w fun e w' => e = .returned (.tuple #[.string (parU s.data.toList), .string (parN s.data.toList), .int .i64 (parE s.data.toList)]) ∧ Below w.heap.size w w' := by
  have HS := hid (rsplit_any s w hs)
  obtain ⟨p, hp⟩ : ∃ p, p = s.data.toList := ⟨_, rfl⟩
  rw [← hp] at HS ⊢
  clear hp hs
  by_cases h0 : splE p = 0
  · by_cases h1 : p = [47]
    · subst h1
      have e1 : parE [47] = 309 := by simp [parE, splE_root]
      have e2 : parU [47] = ⟨#[]⟩ := by simp [parU, splE_root]
      have e3 : parN [47] = ⟨#[]⟩ := by simp [parN, splE_root]
      rw [splE_root, splL_root] at HS
      rw [e1, e2, e3]
      clear e1 e2 e3 h0
      go_enter Tryd.func12, Tryd.ntmps12
      go_wp2_with (first
        | (go_at_call 10; refine (HS.out).mono ?_; rintro e w1 ⟨v, rfl, ⟨ao, cap, rfl, _⟩, hb1⟩; have HB1 := hid hb1; clear hb1))
      go_ret3
      exact ⟨rfl, HB1.out⟩
    · have hne := splL_ne h0 h1
      have hgood := good_join (splL_ok p)
      have e1 : parE p = 0 := by simp [parE, h0, h1]
      have e2 : parU p = st (joinP ((splL p).take ((splL p).length - 1))) := by simp [parU, h0, h1]
      have e3 : parN p = (splL p)[(splL p).length - 1]'(by have := List.length_pos_iff.2 hne; omega) := by
        unfold parN
        rw [if_pos h0, if_neg h1, getLastD_eq _ _ hne]
      rw [h0] at HS
      rw [e1, e2, e3]
      clear e1 e2 e3 h0 h1
      obtain ⟨n, hn⟩ : ∃ n, (splL p).length = n + 1 := ⟨(splL p).length - 1, by have := List.length_pos_iff.2 hne; omega⟩
      have hck : chkE ((splL p).take n) = 0 := by
        obtain ⟨a1, a2⟩ := chkE_ok.1 (splL_ok p)
        refine chkE_ok.2 ⟨chkN_ok.2 fun x hx => chkN_ok.1 a1 x (List.mem_of_mem_take hx), ?_⟩
        rw [List.length_take]; omega
      have HJ := hid (fun v w' (h : SLie w' v ((splL p).take n)) => rjoin_any v _ w' h (by rw [List.length_take]; have := hgood.2; omega) (fun x hx => by have := hgood.1 x (List.mem_of_mem_take hx); unfold maxLen; omega))
      rw [if_pos hck, hck] at HJ
      have hn8 : n ≤ 8 := by have := hgood.2; omega
      have e4 : (splL p).length - 1 = n := by omega
      have HN := hid hn
      have HX : Hid ((splL p)[(splL p).length - 1]'(by have := List.length_pos_iff.2 hne; omega) = (splL p)[n]'(by have := HN.out; omega)) := by
        show _ = _
        congr 1
      rw [HX.out, e4]
      obtain ⟨x, hx⟩ : ∃ x, x = (splL p)[n]'(by have := HN.out; omega) := ⟨_, rfl⟩
      have HXX : Hid (∀ h : n < (splL p).length, x = (splL p)[n]'h) := fun _ => hx
      rw [← hx]
      obtain ⟨J, hJ⟩ : ∃ J, J = st (joinP ((splL p).take n)) := ⟨_, rfl⟩
      rw [← hJ] at HJ ⊢
      clear hx hJ e4 HX hne hgood hn hck
      go_enter Tryd.func12, Tryd.ntmps12
      go_upto_region 2 with (first
        | (go_at_call 10; refine (HS.out).mono ?_; rintro e w1 ⟨v, rfl, hv, hb1⟩; have HV := hid hv; have HB1 := hid hb1; clear hb1 hv))
      obtain ⟨ao, cap, hv, hc1, hc2, hc3⟩ := HV.out
      obtain ⟨gb, off, e, hgl, c0⟩ := hc3 n (by rw [HN.out]; omega)
      rw [HN.out] at hv
      subst hv e
      have HC := hid (HV.out.cut n (by rw [HN.out]; omega))
      rw [← HXX.out] at c0
      rw [HN.out] at hc1
      unfold maxLen at hc2
      clear hc3
      have i0 : (0 : Int) ≤ (n : Int) := by omega
      have i1 : (n : Int) ≤ (cap : Int) := by omega
      have i2 : (n : Int) < ((n + 1 : Nat) : Int) := by omega
      have i3 : (n : Int) < (n : Int) + 1 := by omega
      have i4 : n < n + 1 := by omega
      have i5 : n ≤ cap := by omega
      have i6 : IntKind.i64.wrap (n : Int) = (n : Int) := by rw [IntKind.wrap_i64]; omega
      go_wp2_with (first
        | (go_at_call 18; refine (HJ.out _ _ HC.out).mono ?_; rintro e w2 ⟨rfl, hw⟩; have hw := hw.symm; subst hw))
      go_quiet ((fail))
      go_wp2
      go_ret3
      exact ⟨rfl, below_drewN HB1.out _⟩
  · have e1 : parE p = splE p := by simp [parE, h0]
    have e2 : parU p = ⟨#[]⟩ := by simp [parU, h0]
    have e3 : parN p = ⟨#[]⟩ := by simp [parN, h0]
    rw [e1, e2, e3]
    rw [splL_err h0] at HS
    obtain ⟨E, hE⟩ : ∃ E, E = splE p := ⟨_, rfl⟩
    rw [← hE] at HS h0 ⊢
    have hne : (E != 0) = true := by simpa using h0
    clear hE e1 e2 e3
    go_enter Tryd.func12, Tryd.ntmps12
    go_wp2_with (first
      | (go_at_call 10; refine (HS.out).mono ?_; rintro e w1 ⟨v, rfl, hv, hb1⟩; have HB1 := hid hb1; clear hb1 hv))
    go_ret3
    exact ⟨rfl, HB1.out⟩
end Go.Proofs.YtbjdgehgbfcimaaDoor
