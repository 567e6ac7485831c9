import Derived.Test.YtcaedajbkdploaaGg
namespace Go.Proofs.Ytcaedajbkdploaa
open Go.RowKit Go.Maps

/-- what is cut off a row at its front -/
theorem row_cut {B : Nat} {w : World} {v : Value} {l : List Ent} (h : ERow B w v l) : (v = .slice none 0 0 ∧ l = []) ∨ ∃ x cap, v = .slice (some ⟨x, 0, none⟩) l.length cap ∧ l.length ≤ cap ∧ cap ≤ maxLen ∧ (∀ k c, k ≤ l.length → k ≤ c → c ≤ maxLen → ELie w (.slice (some ⟨x, 0, none⟩) k c) (l.take k)) ∧ (∀ k c, k ≤ l.length → l.length - k ≤ c → c ≤ maxLen → ELie w (.slice (some ⟨x, k * 9, none⟩) (l.length - k) c) (l.drop k)) := by
  have hl := h.lie
  obtain ⟨e1, ⟨rfl, hz⟩ | ⟨x, cap, cur, rfl, e4, e5, r1, r2, r3⟩⟩ := h
  · exact .inl ⟨rfl, List.eq_nil_of_length_eq_zero hz⟩
  · refine .inr ⟨x, cap, rfl, r1, r2, fun k c hk hc hcm => ?_, fun k c hk hc hcm => ?_⟩
    · have := hl.cut 0 k c (Nat.zero_le _) hk (by omega) hcm
      simpa using this
    · have := hl.cut k l.length c hk (Nat.le_refl _) hc hcm
      rw [List.take_of_length_le (Nat.le_refl _), Nat.zero_add] at this
      exact this
/-- n, or all -/
def upTo (n : Int) (len : Nat) : Nat := if n < 0 ∨ (len : Int) < n then len else n.toNat
theorem upTo_le (n : Int) (len : Nat) : upTo n len ≤ len := by unfold upTo; split <;> omega
set_option maxRecDepth 100000 in
set_option maxHeartbeats 4000000 in
theorem begins_walk (a b : List Ent) (n : Int) (w : World) {u v : Value} (hu : ELie w u a) (hv : ELie w v b) : Calls Try.prog 6 #[u, v, .int .i64 n] w fun e w' => e = .returned (.bool true) ∧ Below w.heap.size w w' := by
  have HM1 := hid (made_any hu)
  have HV := hid (fun w' (k : Below w.heap.size w w') => made_any (hv.below k))
  have HS := hid speaks_any
  obtain ⟨P, hP⟩ : ∃ P, P = madeL a := ⟨_, rfl⟩
  obtain ⟨Q, hQ⟩ : ∃ Q, Q = madeL b := ⟨_, rfl⟩
  have HPV : Hid (Val P) := by rw [hP]; exact hid (madeL_val a)
  have HQV : Hid (Val Q) := by rw [hQ]; exact hid (madeL_val b)
  have HTK : Hid (∀ k, madeL (P.take k) = P.take k) := by rw [hP]; exact hid (madeL_take a)
  rw [← hP] at HM1
  rw [← hQ] at HV
  clear hP hQ hu hv
  obtain ⟨b1, hb1⟩ : ∃ b1, b1 = bgs P Q := ⟨_, rfl⟩
  obtain ⟨b2, hb2⟩ : ∃ b2, b2 = bgs Q P := ⟨_, rfl⟩
  have HB1 := hid hb1
  have HB2 := hid hb2
  clear hb1 hb2
  have hx1 : (b1 != b1) = false := by simp
  have hx2 : (b2 != b2) = false := by simp
  have HF1 := hid (fun p w (h : LN p w P) => from_any 1 5000 ⟨by decide, by decide⟩ ⟨by decide, by decide⟩ h)
  have HF2 := hid (fun p w (h : LN p w Q) => from_any 1 5000 ⟨by decide, by decide⟩ ⟨by decide, by decide⟩ h)
  rw [from_all HPV.out.len] at HF1
  rw [from_all HQV.out.len] at HF2
  have HG1 := hid (fun p q w (h : LN p w P) (k : LN q w Q) => begins_any h k)
  have HG2 := hid (fun p q w (h : LN p w Q) (k : LN q w P) => begins_any h k)
  have HR1 := hid (fun p q w (h : ELie w p P) (k : ELie w q Q) => rbegins_any h k)
  have HR2 := hid (fun p q w (h : ELie w p Q) (k : ELie w q P) => rbegins_any h k)
  rw [← HB1.out] at HG1 HR1
  rw [← HB2.out] at HG2 HR2
  go_enter Try.func6, Try.ntmps6
  go_upto_region 9 with (first
    | (go_at_call 27; have hk := HM1; clear hk; refine (HM1.out).mono ?_; rintro e w1 ⟨rfl, hs1, hb1⟩; have HS1 := hid hs1; have HL1 := hid hb1; clear HM1 hs1 hb1)
    | (go_at_call 27; have hk := HL1; clear hk; refine (HV.out _ HL1.out).mono ?_; rintro e w2 ⟨rfl, hs2, hb2⟩; have HS2 := hid (HS1.out.below hb2); have HT2 := hid hs2; have HL2 : Hid (Below w.heap.size w w2) := hid (HL1.out.next hb2); clear HV hs2 hb2)
    | (go_at_call 25; have hk := HF1; clear hk; refine (HF1.out _ _ HS2.out.ln).mono ?_; rintro e w3 ⟨vp, rfl, hr3, hb3⟩; have HR3 := hid hr3; have HS3 := hid (HS2.out.below hb3); have HT3 := hid (HT2.out.below hb3); have HL3 : Hid (Below w.heap.size w w3) := hid (HL2.out.next hb3); clear HF1 hr3 hb3)
    | (go_at_call 25; have hk := HR3; clear hk; refine (HF2.out _ _ HT3.out.ln).mono ?_; rintro e w4 ⟨vq, rfl, hr4, hb4⟩; have HR4 := hid hr4; have HP4 := hid (HR3.out.below hb4); have HS4 := hid (HS3.out.below hb4); have HT4 := hid (HT3.out.below hb4); have HL4 : Hid (Below w.heap.size w w4) := hid (HL3.out.next hb4); clear HF2 hr4 hb4)
    | (go_at_call 28; have hk := HG1; clear hk; refine (HG1.out _ _ _ HS4.out.ln HT4.out.ln).mono ?_; rintro e w5 ⟨rfl, n5, hw5⟩; have HP5 := hid (HP4.out.below (drewN_below w4 n5)); have HR5 := hid (HR4.out.below (drewN_below w4 n5)); have HS5 := hid (HS4.out.below (drewN_below w4 n5)); have HT5 := hid (HT4.out.below (drewN_below w4 n5)); have HL5 : Hid (Below w.heap.size w (w4.drewN n5)) := hid (HL4.out.next (drewN_below w4 n5)); rw [← hw5] at HP5 HR5 HS5 HT5 HL5; clear hw5; have HG1' := HG1; clear HG1)
    | (go_at_call 29; have hk := HR1; clear hk; refine (HR1.out _ _ _ HP5.out.lie HR5.out.lie).mono ?_; rintro e w6 ⟨rfl, hb6⟩; have HP6 := hid (HP5.out.below hb6); have HR6 := hid (HR5.out.below hb6); have HS6 := hid (HS5.out.below hb6); have HT6 := hid (HT5.out.below hb6); have HL6 : Hid (Below w.heap.size w w6) := hid (HL5.out.next hb6); clear HR1 hb6)
    | (go_at_call 28; have hk := HP6; clear hk; refine (HG2.out _ _ _ HT6.out.ln HS6.out.ln).mono ?_; rintro e w7 ⟨rfl, n7, hw7⟩; have HP7 := hid (HP6.out.below (drewN_below w6 n7)); have HR7 := hid (HR6.out.below (drewN_below w6 n7)); have HS7 := hid (HS6.out.below (drewN_below w6 n7)); have HT7 := hid (HT6.out.below (drewN_below w6 n7)); have HL7 : Hid (Below w.heap.size w (w6.drewN n7)) := hid (HL6.out.next (drewN_below w6 n7)); rw [← hw7] at HP7 HR7 HS7 HT7 HL7; clear hw7)
    | (go_at_call 29; have hk := HP7; clear hk; refine (HR2.out _ _ _ HR7.out.lie HP7.out.lie).mono ?_; rintro e w8 ⟨rfl, hb8⟩; have HP8 := hid (HP7.out.below hb8); have HR8 := hid (HR7.out.below hb8); have HS8 := hid (HS7.out.below hb8); have HT8 := hid (HT7.out.below hb8); have HL8 : Hid (Below w.heap.size w w8) := hid (HL7.out.next hb8); clear HR2 hb8))
  clear HS1 HL1 HS2 HT2 HL2 HR3 HS3 HT3 HL3 HR4 HP4 HS4 HT4 HL4 HP5 HR5 HS5 HT5 HL5 HP6 HR6 HS6 HT6 HL6 HP7 HR7 HS7 HT7 HL7
  obtain ⟨ao, cap, hvp, hlc, hcm⟩ := HP8.out.len
  subst hvp
  obtain ⟨k, hk⟩ : ∃ k, k = upTo n P.length := ⟨_, rfl⟩
  have hkl : k ≤ P.length := by rw [hk]; exact upTo_le _ _
  have HK := hid hk
  clear hk
  unfold maxLen at hcm
  obtain ⟨bb, hbb⟩ : ∃ bb, bb = decide (n < 0 ∨ (P.length : Int) < n) := ⟨_, rfl⟩
  have HBB := hid hbb
  clear hbb
  go_cut [49] (fun s wx => w8 = wx ∧ s = .bool bb)
  case first =>
    by_cases h1 : n < 0
    · go_wp2
      go_meet
      exact ⟨rfl, by rw [HBB.out]; simp [h1]⟩
    · by_cases h2 : (P.length : Int) < n
      · go_wp2
        go_meet
        exact ⟨rfl, by rw [HBB.out]; simp [h2]⟩
      · go_wp2
        go_meet
        exact ⟨rfl, by rw [HBB.out]; simp [h1, h2]⟩
  case rest =>
  obtain ⟨hw0, rfl⟩ := hcut
  subst hw0
  go_upto_if 49 with fail
  go_cut [2] (fun s wx => w8 = wx ∧ s = .int .i64 (k : Int))
  case first =>
    cases bb with
    | true =>
      go_wp2
      go_meet
      refine ⟨rfl, ?_⟩
      have e := HBB.out
      have : k = P.length := by rw [HK.out]; unfold upTo; rw [if_pos (of_decide_eq_true e.symm)]
      rw [this]
    | false =>
      go_wp2
      go_meet
      refine ⟨rfl, ?_⟩
      have e := of_decide_eq_false HBB.out.symm
      have : (k : Int) = n := by rw [HK.out]; unfold upTo; rw [if_neg e]; omega
      rw [this]
  case rest =>
  obtain ⟨hw0, rfl⟩ := hcut
  subst hw0
  clear HBB bb HK
  have HPT := hid (fun (uu : Value) w' (h : ELie w' uu (P.take k)) => made_any h)
  rw [HTK.out k] at HPT
  have HG3 := hid (fun p q w (h : LN p w P) (h' : LN q w (P.take k)) => begins_any h h')
  rw [bgs_take P k hkl] at HG3
  have HKL : Hid ((P.take k).length = k) := hid (by rw [List.length_take]; omega)
  have HE := hid (fun p q w (h : ELie w p P) (h' : ELie w q Q) => entries_any h h')
  have HBT : Hid (b1 = true → b2 = true → P = Q) := hid fun e1 e2 => bgs_both (by rw [← HB1.out]; exact e1) (by rw [← HB2.out]; exact e2)
  rcases row_cut HP8.out with ⟨hv, hPn⟩ | ⟨x, cap', hv, _, _, hcut2, _⟩
  · subst hPn
    simp only [Value.slice.injEq] at hv
    obtain ⟨rfl, _, rfl⟩ := hv
    obtain rfl : k = 0 := by simpa using hkl
    have HC2 : Hid (ELie w8 (.slice none 0 0) (List.take 0 [])) := hid (ELie.nil w8)
    simp only [List.length_nil]
    go_wp2_with (go_at_call 27; fail)
    go_at_call 27
    refine (HPT.out _ _ HC2.out).mono ?_
    rintro e w9 ⟨rfl, hs9, hb9⟩
    have HZ9 := hid hs9
    have HP9 := hid (HP8.out.below hb9)
    have HR9 := hid (HR8.out.below hb9)
    have HS9 := hid (HS8.out.below hb9)
    have HT9 := hid (HT8.out.below hb9)
    have HL9 : Hid (Below w.heap.size w w9) := hid (HL8.out.next hb9)
    have HLZ := hid (fun w' (h : SL w8.heap.size w8.heap.size w' (List.take 0 [])) => len_g h.ln)
    rw [HKL.out] at HLZ
    clear hs9 hb9 HP8 HR8 HS8 HT8 HL8
    have HPQ : Hid (b1 = true → b2 = true → decide ([] = Q) = true) := hid fun e1 e2 => decide_eq_true (HBT.out e1 e2)
    cases b1 <;> cases b2
    all_goals
      try (rw [HPQ.out rfl rfl] at HE)
      go_wp2_with (first
        | (go_at_call 28; have hk := HG3; clear hk; refine (HG3.out _ _ _ HS9.out.ln HZ9.out.ln).mono ?_; rintro e wa ⟨rfl, na, hwa⟩; have HZa := hid (HZ9.out.below (drewN_below w9 na)); have HPa := hid (HP9.out.below (drewN_below w9 na)); have HRa := hid (HR9.out.below (drewN_below w9 na)); have HSa := hid (HS9.out.below (drewN_below w9 na)); have HTa := hid (HT9.out.below (drewN_below w9 na)); have HLa : Hid (Below w.heap.size w (w9.drewN na)) := hid (HL9.out.next (drewN_below w9 na)); rw [← hwa] at HZa HPa HRa HSa HTa HLa; clear hwa HG3)
        | (go_at_call 21; refine (HLZ.out _ HZa.out).mono ?_; rintro e wb ⟨rfl, hwb⟩; subst hwb)
        | (go_at_call 28; have hk := HG1'; clear hk; refine (HG1'.out _ _ _ HSa.out.ln HTa.out.ln).mono ?_; rintro e wc ⟨rfl, nc, hwc⟩; have HPc := hid (HPa.out.below (drewN_below _ nc)); have HRc := hid (HRa.out.below (drewN_below _ nc)); have HSc := hid (HSa.out.below (drewN_below _ nc)); have HTc := hid (HTa.out.below (drewN_below _ nc)); have HLc := hid (HLa.out.next (drewN_below _ nc)); rw [← hwc] at HPc HRc HSc HTc HLc; clear hwc HG1')
        | (go_at_call 28; refine (HG2.out _ _ _ HTc.out.ln HSc.out.ln).mono ?_; rintro e wd ⟨rfl, nd, hwd⟩; have HPd := hid (HPc.out.below (drewN_below _ nd)); have HRd := hid (HRc.out.below (drewN_below _ nd)); have HLd := hid (HLc.out.next (drewN_below _ nd)); rw [← hwd] at HPd HRd HLd; clear hwd)
        | (go_at_call 24; refine (HE.out _ _ _ HPd.out.lie HRd.out.lie).mono ?_; rintro e we ⟨rfl, ne, hwe⟩; have HLe := hid (HLd.out.next (drewN_below _ ne)); rw [← hwe] at HLe; clear hwe)
        | (go_at_call 13; refine (HS.out _).mono ?_; rintro e wz ⟨rfl, bz⟩))
      go_ret
      first
        | exact ⟨rfl, HLe.out.next bz⟩
        | exact ⟨rfl, HLd.out.next bz⟩
        | exact ⟨rfl, HLc.out.next bz⟩
  · cases hv
    have HC2 := hid (hcut2 k cap hkl (by omega) (by unfold maxLen; omega))
    clear hcut2
    go_wp2_with (go_at_call 27; fail)
    go_at_call 27
    refine (HPT.out _ _ HC2.out).mono ?_
    rintro e w9 ⟨rfl, hs9, hb9⟩
    have HZ9 := hid hs9
    have HP9 := hid (HP8.out.below hb9)
    have HR9 := hid (HR8.out.below hb9)
    have HS9 := hid (HS8.out.below hb9)
    have HT9 := hid (HT8.out.below hb9)
    have HL9 : Hid (Below w.heap.size w w9) := hid (HL8.out.next hb9)
    have HLZ := hid (fun w' (h : SL w8.heap.size w8.heap.size w' (P.take k)) => len_g h.ln)
    rw [HKL.out] at HLZ
    clear hs9 hb9 HP8 HR8 HS8 HT8 HL8
    have hkk : ((k : Int) == k) = true := by simp
    have HPQ : Hid (b1 = true → b2 = true → decide (P = Q) = true) := hid fun e1 e2 => decide_eq_true (HBT.out e1 e2)
    cases b1 <;> cases b2
    all_goals
      try (rw [HPQ.out rfl rfl] at HE)
      go_wp2_with (first
        | (go_at_call 28; have hk := HG3; clear hk; refine (HG3.out _ _ _ HS9.out.ln HZ9.out.ln).mono ?_; rintro e wa ⟨rfl, na, hwa⟩; have HZa := hid (HZ9.out.below (drewN_below w9 na)); have HPa := hid (HP9.out.below (drewN_below w9 na)); have HRa := hid (HR9.out.below (drewN_below w9 na)); have HSa := hid (HS9.out.below (drewN_below w9 na)); have HTa := hid (HT9.out.below (drewN_below w9 na)); have HLa : Hid (Below w.heap.size w (w9.drewN na)) := hid (HL9.out.next (drewN_below w9 na)); rw [← hwa] at HZa HPa HRa HSa HTa HLa; clear hwa HG3)
        | (go_at_call 21; refine (HLZ.out _ HZa.out).mono ?_; rintro e wb ⟨rfl, hwb⟩; subst hwb)
        | (go_at_call 28; have hk := HG1'; clear hk; refine (HG1'.out _ _ _ HSa.out.ln HTa.out.ln).mono ?_; rintro e wc ⟨rfl, nc, hwc⟩; have HPc := hid (HPa.out.below (drewN_below _ nc)); have HRc := hid (HRa.out.below (drewN_below _ nc)); have HSc := hid (HSa.out.below (drewN_below _ nc)); have HTc := hid (HTa.out.below (drewN_below _ nc)); have HLc := hid (HLa.out.next (drewN_below _ nc)); rw [← hwc] at HPc HRc HSc HTc HLc; clear hwc HG1')
        | (go_at_call 28; refine (HG2.out _ _ _ HTc.out.ln HSc.out.ln).mono ?_; rintro e wd ⟨rfl, nd, hwd⟩; have HPd := hid (HPc.out.below (drewN_below _ nd)); have HRd := hid (HRc.out.below (drewN_below _ nd)); have HLd := hid (HLc.out.next (drewN_below _ nd)); rw [← hwd] at HPd HRd HLd; clear hwd)
        | (go_at_call 24; refine (HE.out _ _ _ HPd.out.lie HRd.out.lie).mono ?_; rintro e we ⟨rfl, ne, hwe⟩; have HLe := hid (HLd.out.next (drewN_below _ ne)); rw [← hwe] at HLe; clear hwe)
        | (go_at_call 13; refine (HS.out _).mono ?_; rintro e wz ⟨rfl, bz⟩))
      go_ret
      first
        | exact ⟨rfl, HLe.out.next bz⟩
        | exact ⟨rfl, HLd.out.next bz⟩
        | exact ⟨rfl, HLc.out.next bz⟩
end Go.Proofs.Ytcaedajbkdploaa
