import Derived.Test.YtcaedajbkdploaaGj
namespace Go.Proofs.Ytcaedajbkdploaa
open Go.RowKit Go.Maps

set_option maxRecDepth 100000 in
set_option maxHeartbeats 4000000 in
theorem keeps_walk (a b : List Ent) (n : Int) (w : World) {u v : Value} (hu : ELie w u a) (hv : ELie w v b) : Calls Try.prog 8 #[u, v, .int .i64 n] w fun e w' => e = .returned (.bool true) ∧ Below w.heap.size w w' := by
  have HM1 := hid (made_any hu)
  have HV := hid hv
  have HS := hid speaks_any
  obtain ⟨P, hP⟩ : ∃ P, P = madeL a := ⟨_, rfl⟩
  have HPV : Hid (Val P) := by rw [hP]; exact hid (madeL_val a)
  rw [← hP] at HM1
  clear hP hu
  have HF1 := hid (fun p w (h : LN p w P) => from_any 1 5000 ⟨by decide, by decide⟩ ⟨by decide, by decide⟩ h)
  rw [from_all HPV.out.len] at HF1
  obtain ⟨ao, cap, hvv, hlc, hcm, _⟩ := hv
  subst hvv
  unfold maxLen at hcm
  have hPl := HPV.out.len
  go_enter Try.func8, Try.ntmps8
  go_upto_region 5 with (first
    | (go_at_call 27; refine (HM1.out).mono ?_; rintro e w1 ⟨rfl, hs1, hb1⟩; have HS1 := hid hs1; have HL1 := hid hb1; clear HM1 hs1 hb1)
    | (go_at_call 25; refine (HF1.out _ _ HS1.out.ln).mono ?_; rintro e w2 ⟨z, rfl, hr2, hb2⟩
       obtain ⟨x, hx⟩ : ∃ x, KS w w2 x P z P := by
         obtain ⟨x, hx⟩ := HS1.out.li
         refine ⟨x, hx.below hb2, ?_, fun q hq => ?_, HL1.out.next hb2⟩
         · obtain ⟨e1, e2 | ⟨y, cp, cur, e3, e4, e5⟩⟩ := hr2
           · exact ⟨e1, .inl e2⟩
           · exact ⟨e1, .inr ⟨y, cp, cur, e3, Nat.le_trans HL1.out.size e4, e5⟩⟩
         · have h1 := (hr2.own q hq).1
           have h2 := hx.lt
           refine ⟨by omega, fun e => ?_⟩
           have h3 := (hx.row.own q e).2
           omega
       have HK2 := hid hx
       clear hx hr2 hb2 HS1))
  obtain ⟨az, cz, hzz, hzl, hzm⟩ := HK2.out.was.len
  subst hzz
  unfold maxLen at hzm
  obtain ⟨k, hk⟩ : ∃ k, k = upTo n P.length := ⟨_, rfl⟩
  have hkl : k ≤ P.length := by rw [hk]; exact upTo_le _ _
  have HK := hid hk
  clear hk
  obtain ⟨bb, hbb⟩ : ∃ bb, bb = decide (n < 0 ∨ (P.length : Int) < n) := ⟨_, rfl⟩
  have HBB := hid hbb
  clear hbb
  go_cut [24] (fun s wx => w2 = wx ∧ s = .bool bb)
  case first =>
    by_cases h1 : n < 0
    · go_wp2
      go_meet
      exact ⟨rfl, by rw [HBB.out]; simp [h1]⟩
    · by_cases h2 : (P.length : Int) < n
      · go_wp2
        go_meet
        exact ⟨rfl, by rw [HBB.out]; simp [h2]⟩
      · go_wp2
        go_meet
        exact ⟨rfl, by rw [HBB.out]; simp [h1, h2]⟩
  case rest =>
  obtain ⟨hw0, rfl⟩ := hcut
  subst hw0
  go_upto_if 24 with fail
  go_cut [2] (fun s wx => w2 = wx ∧ s = .int .i64 (k : Int))
  case first =>
    cases bb with
    | true =>
      go_wp2
      go_meet
      refine ⟨rfl, ?_⟩
      have e := HBB.out
      have : k = P.length := by rw [HK.out]; unfold upTo; rw [if_pos (of_decide_eq_true e.symm)]
      rw [this]
    | false =>
      go_wp2
      go_meet
      refine ⟨rfl, ?_⟩
      have e := of_decide_eq_false HBB.out.symm
      have : (k : Int) = n := by rw [HK.out]; unfold upTo; rw [if_neg e]; omega
      rw [this]
  case rest =>
  obtain ⟨hw0, rfl⟩ := hcut
  subst hw0
  clear HBB bb HK
  have HF2 := hid (fun p w (h : LN p w P) => from_any ((k : Int) + 1) 5000 ⟨by omega, by omega⟩ ⟨by decide, by decide⟩ h)
  rw [from_drop hPl k] at HF2
  have hRK := rp_keep HPV.out k hkl
  have HRP := hid (fun w' x (u : Value) (h : KS w w' x P (.slice az P.length cz) P) (hm : ELie w' u (P.drop k)) => h.rep (k : Int) u hm)
  rw [hRK.1, hRK.2] at HRP
  have HEP := hid (fun p q w (h : ELie w p P) (h' : ELie w q P) => entries_any h h')
  rw [decide_eq_true rfl] at HEP
  have HRB := hid (fun w' x (h : KS w w' x P (.slice az P.length cz) P) => h.rep (k : Int) (.slice ao b.length cap) (HV.out.below h.bel))
  obtain ⟨er, her⟩ : ∃ er, er = rpE P k b := ⟨_, rfl⟩
  obtain ⟨N, hN⟩ : ∃ N, N = rpL P k b := ⟨_, rfl⟩
  rw [← her, ← hN] at HRB
  have HER := hid her
  have HNN := hid hN
  clear her hN hRK
  go_upto_region 11 with (first
    | (go_at_call 25; have hk := HF2; clear hk; refine (HF2.out _ _ HK2.out.ln).mono ?_; rintro e w3 ⟨y3, rfl, hr3, hb3⟩; have HY3 := hid hr3.lie; have HK3 := hid (HK2.out.below hb3); clear hr3 hb3 HF2)
    | (go_at_call 17; have hk := HRP; clear hk; refine (HRP.out _ _ _ HK3.out HY3.out).mono ?_; rintro e w4 ⟨rfl, x4, hk4⟩; have HK4 := hid hk4; clear hk4 HRP)
    | (go_at_call 25; (fail_if_success (have hk := HK5)); refine (HF1.out _ _ HK4.out.ln).mono ?_; rintro e w5 ⟨y5, rfl, hr5, hb5⟩; have HY5 := hid hr5.lie; have HK5 := hid (HK4.out.below hb5); clear hr5 hb5)
    | (go_at_call 24; refine (HEP.out _ _ _ HY5.out HK5.out.was.lie).mono ?_; rintro e w6 ⟨rfl, n6, hw6⟩; have HK6 := hid (HK5.out.below (drewN_below _ n6)); rw [← hw6] at HK6; clear hw6)
    | (go_at_call 17; refine (HRB.out _ _ HK6.out).mono ?_; rintro e w7 ⟨rfl, x7, hk7⟩; have HK7 := hid hk7; clear hk7 HRB; have HF3 := hid (from_any 1 5000 ⟨by decide, by decide⟩ ⟨by decide, by decide⟩ HK7.out.ln); rw [from_all HK7.out.li.len] at HF3)
    | (go_at_call 25; refine (HF3.out).mono ?_; rintro e w8 ⟨y8, rfl, hr8, hb8⟩; have HY8 := hid hr8; have HK8 := hid (HK7.out.below hb8); clear hr8 hb8))
  clear HK2 HK3 HY3 HK4 HY5 HK5 HK6 HK7 HF3 HF1
  obtain ⟨a8, c8, hy8, hn8, hm8⟩ := HY8.out.len
  subst hy8
  unfold maxLen at hm8
  by_cases h0 : er = 0
  · subst h0
    have hNe : N = P.take k ++ b := HNN.out.trans (rp_yes HER.out.symm)
    have hNl : N.length = k + b.length := by rw [hNe, List.length_append, List.length_take]; omega
    have hT : N.take k = P.take k := by rw [hNe, List.take_append_of_le_length (by rw [List.length_take]; omega), List.take_take, Nat.min_self]
    have hD : N.drop k = b := by rw [hNe]; have : k = (P.take k).length := by { rw [List.length_take]; omega }; rw [List.drop_append_of_le_length (by omega)]; conv => lhs; rw [this]; simp
    obtain ⟨u1, hs1, hl1⟩ := row_upto HY8.out k (by omega)
    obtain ⟨u2, hs2, hl2⟩ := row_upto HK8.out.was k hkl
    obtain ⟨u3, hs3, hl3⟩ := row_from HY8.out k (by omega)
    rw [hT] at hl1
    rw [hD] at hl3
    have HE1 := hid (fun w' (q : Below w8.heap.size w8 w') => entries_any (hl1.below q) (hl2.below q))
    have HE2 := hid (fun w' (q : Below w8.heap.size w8 w') => entries_any (hl3.below q) ((HV.out.below HK8.out.bel).below q))
    rw [decide_eq_true rfl] at HE1 HE2
    have hsum : ((N.length : Int) == (k : Int) + b.length) = true := by rw [hNl]; simp
    have hwr : IntKind.i64.wrap ((k : Int) + (b.length : Int)) = (k : Int) + b.length := by rw [IntKind.wrap_i64]; have := HK8.out.li.len; omega
    have HK8' := HK8
    clear hT hD hNe hl1 hl2 hl3 hNl HNN HER HV
    clear HK8
    obtain ⟨nn, hnn⟩ : ∃ nn, nn = N.length := ⟨_, rfl⟩
    rw [← hnn] at hs1 hs3 hsum hn8 ⊢
    obtain ⟨bl, hbl⟩ : ∃ bl, bl = b.length := ⟨_, rfl⟩
    rw [← hbl] at hsum hwr hlc HE2 ⊢
    obtain ⟨pl, hpl⟩ : ∃ pl, pl = P.length := ⟨_, rfl⟩
    rw [← hpl] at hs2 hPl hkl hzl ⊢
    have HBD := hid (HK8'.out.bel)
    clear hnn hbl hpl HK8' HY8
    go_wp2
    go_region_held3 (fun _ => True) (trivial) (first
      | (go_at_call 24; (fail_if_success (have hk := HW1)); (with_reducible refine (HE1.out _ (by exact ⟨rfl, rfl, rfl, Nat.le_refl _, fun _ _ => rfl⟩)).mono ?_); rintro e wa ⟨rfl, na, hwa⟩; have HW1 : Hid (Below w8.heap.size w8 wa) := hid (by rw [hwa]; exact ⟨rfl, rfl, rfl, Nat.le_refl _, fun _ _ => rfl⟩); clear hwa)
      | (go_at_call 24; (with_reducible refine (HE2.out _ (by exact ⟨HW1.out.os, HW1.out.tape, HW1.out.output, HW1.out.size, HW1.out.block⟩)).mono ?_); rintro e wb ⟨rfl, nb, hwb⟩; have HW2 : Hid (Below w8.heap.size w8 wb) := hid (by rw [hwb]; exact ⟨HW1.out.os, HW1.out.tape, HW1.out.output, HW1.out.size, HW1.out.block⟩); clear hwb)
      | (go_at_call 13; refine (HS.out _).mono ?_; rintro e wz ⟨rfl, bz⟩; have HW3 : Hid (Below w8.heap.size w8 wz) := hid (HW2.out.next ⟨bz.os, bz.tape, bz.output, bz.size, bz.block⟩); clear bz))
    all_goals
      go_wp2
      go_ret
      exact ⟨rfl, HBD.out.next HW3.out⟩
  · have hNP : N = P := HNN.out.trans (rp_not (by rw [← HER.out]; exact h0))
    have he' : (er != 0) = true := by simp [h0]
    have HE1 := hid (fun w' (q : Below w8.heap.size w8 w') => entries_any (HY8.out.lie.below q) (HK8.out.was.lie.below q))
    rw [decide_eq_true hNP] at HE1
    clear h0 hNP
    go_wp2_with (first
      | (go_at_call 24; refine (HE1.out _ (Below.refl _ _)).mono ?_; rintro e w9 ⟨rfl, n9, hw9⟩; have HL9 := hid (HK8.out.bel.next (drewN_below _ n9)); rw [← hw9] at HL9; clear hw9)
      | (go_at_call 13; refine (HS.out _).mono ?_; rintro e wz ⟨rfl, bz⟩))
    go_ret
    exact ⟨rfl, HL9.out.next bz⟩
end Go.Proofs.Ytcaedajbkdploaa
