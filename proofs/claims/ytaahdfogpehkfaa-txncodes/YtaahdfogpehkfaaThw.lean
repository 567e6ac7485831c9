import Derived.Test.YtaahdfogpehkfaaSp
namespace Go.Proofs.Ytaahdfogpehkfaa
open Go.RowKit Go.Maps
theorem CLie.len {w : World} {v : Value} {l : List Chg} (h : CLie w v l) : ∃ ao cap, v = .slice ao l.length cap ∧ l.length ≤ cap ∧ cap ≤ maxLen := by
  obtain ⟨ao, cap, e, h1, h2, _⟩ := h
  exact ⟨ao, cap, e, h1, h2⟩
set_option maxRecDepth 100000 in
set_option maxHeartbeats 4000000 in
theorem three_walk (va vb vc : Value) (a b c : List Chg) (w : World) (ha : CLie w va a) (hb : CLie w vb b) (hc : CLie w vc c) : Calls Try.prog 8 #[va, vb, vc] w fun e w' => e = .returned (.bool true) ∧ Below w.heap.size w w' := by
  have HM := hid (fun va vb a b w h k => merge_any va vb a b w h k)
  have HS := hid speaks_any
  have HA := hid ha
  have HB := hid hb
  have HC := hid hc
  have HCH := hid (fun v v' l w h k => changes_any v v' l l w h k)
  simp only [sameC_self] at HCH
  clear ha hb hc
  have hx := mRes_cases a b
  have hy := mRes_cases b c
  have HT := hid (@three a b c)
  obtain ⟨X, hX⟩ : ∃ X, X = mRes a b := ⟨_, rfl⟩
  obtain ⟨Y, hY⟩ : ∃ Y, Y = mRes b c := ⟨_, rfl⟩
  have HMX := hid (fun w h k => HM.out va vb a b w h k)
  have HMY := hid (fun w h k => HM.out vb vc b c w h k)
  rw [← hX] at hx HMX HT
  rw [← hY] at hy HMY HT
  clear hX hY
  obtain ⟨e1, X⟩ := X
  obtain ⟨e2, Y⟩ := Y
  go_enter Try.func8, Try.ntmps8
  go_wp2_with (first | (go_at_call 9; fail))
  refine (HMX.out _ HA.out HB.out).mono ?_
  rintro e w1 ⟨⟨vx, rfl, hx1⟩, hb1⟩
  have HX1 := hid hx1
  have HA1 := hid (HA.out.below hb1)
  have HB1 := hid (HB.out.below hb1)
  have HC1 := hid (HC.out.below hb1)
  have HW1 := hid hb1
  obtain ⟨xo, xcap, rfl, _, _⟩ := hx1.len
  clear hx1 hb1 HA HB HC
  go_wp2_with (first | (go_at_call 9; fail))
  refine (HMY.out _ HB1.out HC1.out).mono ?_
  rintro e w2 ⟨⟨vy, rfl, hy2⟩, hb2⟩
  have HY2 := hid hy2
  have HX2 := hid (HX1.out.below hb2)
  have HA2 := hid (HA1.out.below hb2)
  have HC2 := hid (HC1.out.below hb2)
  have HW2 := hid (HW1.out.next hb2)
  obtain ⟨yo, ycap, rfl, _, _⟩ := hy2.len
  clear hy2 hb2 HA1 HB1 HC1 HX1 HW1
  simp only at hx hy HX2 HY2 HT ⊢
  by_cases h1 : e1 = 0
  · by_cases h2 : e2 = 0
    · subst h1 h2
      obtain ⟨t1, t2⟩ := HT.out rfl rfl
      have HM3 := hid (fun w h k => HM.out (.slice xo X.length xcap) vc X c w h k)
      have HM4 := hid (fun w h k => HM.out va (.slice yo Y.length ycap) a Y w h k)
      have HM5 := hid (fun w h k => HM.out va va a a w h k)

      rw [t1] at HM3
      rw [t2] at HM5
      obtain ⟨Z, hZ⟩ : ∃ Z, Z = mRes a Y := ⟨_, rfl⟩
      rw [← hZ] at HM3 HM4
      clear hZ t1 t2 hx hy HT HMX HMY
      obtain ⟨e3, Z⟩ := Z
      go_wp2_with (first | (go_at_call 9; fail))
      refine (HM3.out _ HX2.out HC2.out).mono ?_
      rintro e w3 ⟨⟨vp, rfl, hp3⟩, hb3⟩
      have HP3 := hid hp3
      have HY3 := hid (HY2.out.below hb3)
      have HA3 := hid (HA2.out.below hb3)
      have HW3 := hid (HW2.out.next hb3)
      clear hp3 hb3
      go_wp2_with (first | (go_at_call 9; fail))
      refine (HM4.out _ HA3.out HY3.out).mono ?_
      rintro e w4 ⟨⟨vq, rfl, hq4⟩, hb4⟩
      have HQ4 := hid hq4
      have HP4 := hid (HP3.out.below hb4)
      have HA4 := hid (HA3.out.below hb4)
      have HW4 := hid (HW3.out.next hb4)
      clear hq4 hb4
      go_wp2_with (first | (go_at_call 9; fail))
      refine (HM5.out _ HA4.out HA4.out).mono ?_
      rintro e w5 ⟨⟨vm, rfl, hm5⟩, hb5⟩
      have HM5' := hid hm5
      have HQ5 := hid (HQ4.out.below hb5)
      have HP5 := hid (HP4.out.below hb5)
      have HA5 := hid (HA4.out.below hb5)
      have HW5 := hid (HW4.out.next hb5)
      clear hm5 hb5
      simp only at HP5 HQ5 HM5' ⊢
      go_wp2_with (first
        | (go_at_call 13; have hk := HW6; clear hk; refine (HCH.out _ _ a _ (HM5'.out.below HB6.out) (HA5.out.below HB6.out)).mono ?_; rintro e w7 ⟨rfl, hb7⟩; have HW7 := hid (HW6.out.next hb7); clear hb7)
        | (go_at_call 13; refine (HCH.out _ _ Z _ HP5.out HQ5.out).mono ?_; rintro e w6 ⟨rfl, hb6⟩; have HB6 := hid hb6; have HW6 := hid (HW5.out.next hb6); clear hb6)
        | (go_at_call 14; refine (HS.out _).mono ?_; rintro e w8 ⟨rfl, hb8⟩))
      go_ret
      exact ⟨rfl, HW7.out.next hb8⟩
    · have hb : (e2 != 0) = true := by simp [h2]
      subst h1
      go_wp2_with (first
        | (go_at_call 14; refine (HS.out _).mono ?_; rintro e w8 ⟨rfl, hb8⟩))
      go_ret
      exact ⟨rfl, HW2.out.next hb8⟩
  · have hb : (e1 != 0) = true := by simp [h1]
    go_wp2_with (first
      | (go_at_call 14; refine (HS.out _).mono ?_; rintro e w8 ⟨rfl, hb8⟩))
    go_ret
    exact ⟨rfl, HW2.out.next hb8⟩
end Go.Proofs.Ytaahdfogpehkfaa
