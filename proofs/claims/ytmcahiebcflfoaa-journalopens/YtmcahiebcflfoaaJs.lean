import Derived.Test.YtmcahiebcflfoaaJi
import Derived.Deep.RegionHeld3
import Derived.Deep.DeepCutAuto
namespace Go.Proofs.Ytmcahiebcflfoaa
open Go.RowKit Go.Maps
set_option maxRecDepth 100000 in
set_option maxHeartbeats 4000000 in
theorem speaks_any (w : World) : Calls Try.prog 11 #[] w fun e w' => e = .returned (.bool true) ∧ Below w.heap.size w w' := by
  have HBI := hid (fun w => block_bi 97 (by decide) (by decide) w)
  have za := Bi_size 97
  obtain ⟨D, hD⟩ : ∃ D, D = Bi 97 := ⟨_, rfl⟩
  rw [← hD] at HBI za
  clear hD
  have r1 : right [⟨2, D⟩] = true := by simp [right, rises, za]
  have r5 : right [⟨2, D⟩, ⟨3, D⟩, ⟨4, D⟩, ⟨5, D⟩, ⟨6, D⟩] = true := by simp [right, rises, za]
  have HNew := hid (new_j 8 w (by decide))
  rw [show (8 : Int) - 1 = 7 from rfl] at HNew
  obtain ⟨g, hg⟩ : ∃ g, g = w.heap.size := ⟨_, rfl⟩
  rw [← hg] at HNew ⊢
  have HG := hid hg
  clear hg
  obtain ⟨H1, hH1⟩ : ∃ H, H = hdB 0 1 2 := ⟨_, rfl⟩
  obtain ⟨H2, hH2⟩ : ∃ H, H = hdB 2 2 2 := ⟨_, rfl⟩
  have HA : Hid (∀ v w, JS g none w 7 0 1 0 [] → CLie w v [⟨2, D⟩] → Calls Try.prog 12 #[.pointer (some ⟨g, 0, none⟩), v] w fun e w' => ∃ wb r', e = .returned (.tuple #[.slice (some ⟨wb, 0, none⟩) 2 2, .int .i64 0]) ∧ w.heap.size ≤ wb ∧ some wb ≠ r' ∧ CLie w' (.slice (some ⟨wb, 0, none⟩) 2 2) (wrL 7 0 (encL 1 [⟨2, D⟩])) ∧ JS g r' w' 7 0 1 0 [2] ∧ New w none r' ∧ JFr g none w w') := by
    intro v w h hL
    exact jappend g none 7 0 1 0 [] v [⟨2, D⟩] (by decide) (by decide) (by decide) (by decide) (by decide) (by decide) (by simp) (by simp [sumI]) r1 w h hL
  have HA5 := hid (fun r v w h hL => jappend_full g r 7 0 1 0 [2] v [⟨2, D⟩, ⟨3, D⟩, ⟨4, D⟩, ⟨5, D⟩, ⟨6, D⟩] (by decide) (by decide) (by decide) (by decide) (by decide) (by simp) (by decide) (by simp [sumI]) r5 w h hL)
  have HNo := hid (fun r w h => jdone_no g r 7 0 1 0 [2] 1 (by decide) (by decide) w h)
  have HFr : Hid (∀ r w, JS g r w 7 0 1 0 [2] → Calls Try.prog 22 #[.pointer (some ⟨g, 0, none⟩)] w fun e w' => e = .returned (.int .i64 5) ∧ ∃ q, w' = w.drewN q) := fun r w h => jfree g r 7 0 1 0 [2] (by decide) (by decide) (by simp) (by decide) w h
  have HSe : Hid (∀ r w, JS g r w 7 0 1 0 [2] → Calls Try.prog 17 #[.pointer (some ⟨g, 0, none⟩)] w fun e w' => e = .returned (.agg #[.int .i64 0, .string H1]) ∧ JS g r w' 7 0 1 1 [2] ∧ JFr g r w w') := by
    intro r w h
    rw [hH1]
    exact jseal g r 7 0 1 0 [2] (by decide) (by decide) (by decide) w h
  have HHd : Hid (∀ r w, JS g r w 7 0 1 1 [2] → Calls Try.prog 20 #[.pointer (some ⟨g, 0, none⟩)] w fun e w' => e = .returned (.string H1) ∧ Below w.heap.size w w') := by
    intro r w h
    rw [hH1]
    exact jheader g r 7 0 1 1 [2] (by decide) (by decide) (by decide) w h
  have HDo : Hid (∀ r w, JS g r w 7 0 1 1 [2] → Calls Try.prog 15 #[.pointer (some ⟨g, 0, none⟩), .int .i64 1] w fun e w' => e = .returned (.tuple #[.agg #[.int .i64 0, .string H2], .int .i64 0]) ∧ JS g r w' 7 2 2 0 [] ∧ JFr g r w w') := by
    intro r w h
    rw [hH2]
    exact jdone g r 7 0 1 1 [2] 1 2 (by decide) (by decide) (by decide) (by decide) (by decide) (by decide) (by decide) (by simp) (by decide) (by decide) w h
  have HHd2 : Hid (∀ r w, JS g r w 7 2 2 0 [] → Calls Try.prog 20 #[.pointer (some ⟨g, 0, none⟩)] w fun e w' => e = .returned (.string H2) ∧ Below w.heap.size w w') := by
    intro r w h
    rw [hH2]
    exact jheader g r 7 2 2 0 [] (by decide) (by decide) (by decide) w h
  have HCo : Hid (∀ r w, JS g r w 7 2 2 0 [] → Calls Try.prog 19 #[.pointer (some ⟨g, 0, none⟩)] w fun e w' => e = .returned (.tuple #[.int .i64 0, .int .i64 0]) ∧ ∃ q, w' = w.drewN q) := fun r w h => jcount g r 7 2 2 0 [] (by decide) w h
  have HNx : Hid (∀ r w, JS g r w 7 2 2 0 [] → Calls Try.prog 24 #[.pointer (some ⟨g, 0, none⟩)] w fun e w' => e = .returned (.int .i64 2) ∧ ∃ q, w' = w.drewN q) := fun r w h => jnext g r 7 2 2 0 [] (by decide) (by decide) (by decide) w h
  clear hH1 hH2 r1 r5 za
  go_enter Try.func11, Try.ntmps11
  go_wp2_with (first
    | (go_at_call 9; refine (HNew.out).mono ?_; rintro e w1 ⟨rfl, hj1, hb1⟩; have HJ1 := hid hj1; have HB1 := hid hb1; clear hj1 hb1)
    | (go_at_call 32; refine (HBI.out _).mono ?_; rintro e w2 ⟨rfl, hb2⟩; have HB2 := hid (hb2.next (below_alloc w2 (.cells #[.int .i64 2, .string D] 68))); have HL2 := hid (CLie.one w2 2 D); clear hb2)
    | (go_at_call 12; fail))
  refine (HA.out _ _ (HJ1.out.below HB2.out) HL2.out).mono ?_
  rintro e w3 ⟨wb, r, rfl, hwb, hwr, hcl, hj3, hn3, hf3⟩
  have HJ3 := hid hj3
  have hz2 := HB2.out.size
  have hg1 := HJ1.out.lt.1
  have HF3 : Hid (JFr g none w1 w3) := hid ((JFr.of HB2.out).trans (.inl rfl) hf3)
  obtain ⟨ao, cap, e0, hc1, hc2, hcc⟩ := hcl
  injection e0 with e1 e2 e3
  subst e3
  obtain ⟨gb, off, e4, hgb, cc0, cc1⟩ := hcc 1 (by simp [wrL_len, encL_len])
  rw [← e1] at e4
  injection e4 with e5
  injection e5 with e6 e7 e8
  subst e6 e7
  have hc : w3.cell? ⟨wb, 2, none⟩ = some (.int .i64 2) := by
    rw [wrL_get 7 0 (encL 1 [⟨2, D⟩]) 1 (by simp [wrL_len, encL_len]) (by simp [encL_len])] at cc0
    exact cc0
  have HCW := hid hc
  have HAp : Hid (JApart g r w3 wb) := hid ⟨hgb, by have := HB2.out.size; simp at hwb hz2; omega, hwr⟩
  have HN3 := hid hn3
  clear hj3 hn3 hf3 hcc cc0 cc1 hc hc1 hc2 e1 e2
  go_wp2_with (first
    | (go_at_call 32; have hk := HB7; clear hk; refine (HBI.out _).mono ?_; rintro e w8 ⟨rfl, hb8⟩; have HB8 := hid ((HB7.out.next hb8).next (below_alloc w8 (.cells #[.int .i64 2, .string D, .int .i64 3, .string D, .int .i64 4, .string D, .int .i64 5, .string D, .int .i64 6, .string D] 68))); have HL8 := hid (CLie.five w8 2 3 4 5 6 D); clear hb8)
    | (go_at_call 32; have hk := HB6; clear hk; refine (HBI.out _).mono ?_; rintro e w7 ⟨rfl, hb7⟩; have HB7 := hid (HB6.out.next hb7); clear hb7)
    | (go_at_call 32; have hk := HB5; clear hk; refine (HBI.out _).mono ?_; rintro e w6 ⟨rfl, hb6⟩; have HB6 := hid (HB5.out.next hb6); clear hb6)
    | (go_at_call 32; have hk := HB4; clear hk; refine (HBI.out _).mono ?_; rintro e w5 ⟨rfl, hb5⟩; have HB5 := hid (HB4.out.next hb5); clear hb5)
    | (go_at_call 32; refine (HBI.out _).mono ?_; rintro e w4 ⟨rfl, hb4⟩; have HB4 := hid hb4; clear hb4)
    | (go_at_call 12; fail))
  refine (HA5.out r _ _ (HJ3.out.below HB8.out) HL8.out).mono ?_
  rintro e w9 ⟨rfl, hb9⟩
  have HB9 := hid (HB8.out.next hb9)
  have HJ9 := hid (HJ3.out.below HB9.out)
  clear HB8 HB7 HB6 HB5 HB4 HL8 hb9
  go_wp2_with (go_at_call 15; fail)
  refine (HNo.out r _ HJ9.out).mono ?_
  rintro e w10 ⟨rfl, hb10⟩
  have HJ10 := hid (HJ9.out.below hb10)
  have HB10 := hid (HB9.out.next hb10)
  clear hb10 HB9 HJ9
  have HB11 := hid (HB10.out.next (below_alloc w10 (.cells #[.int .i64 0, .string ⟨#[]⟩] 42)))
  have HJ11 := hid (HJ10.out.below (below_alloc w10 (.cells #[.int .i64 0, .string ⟨#[]⟩] 42)))
  go_wp2_with (first
    | (go_at_call 22; refine (HFr.out r _ HJ11.out).mono ?_; rintro e w12 ⟨rfl, q, hw⟩; have hw := hw.symm; subst hw)
    | (go_at_call 17; fail))
  obtain ⟨w12, hw12⟩ : ∃ w12, w12 = (w10.alloc (.cells #[.int .i64 0, .string ⟨#[]⟩] 42)).drewN q := ⟨_, rfl⟩
  have HJ12 : Hid (JS g r w12 7 0 1 0 [2]) := by rw [hw12]; exact hid (HJ11.out.drew q)
  have HB12 : Hid (Below w3.heap.size w3 w12) := by rw [hw12]; exact hid (HB11.out.next ⟨rfl, rfl, rfl, Nat.le_refl _, fun _ _ => rfl⟩)
  rw [← hw12]
  clear hw12 HB11 HJ11 HB10 HJ10
  have HAp12 := hid (HAp.out.next (.inl rfl) (JFr.of HB12.out))
  refine (HSe.out r _ HJ12.out).mono ?_
  rintro e w13 ⟨rfl, hj13, hf13⟩
  have HJ13 := hid (hj13.below (below_alloc w13 (.cells #[.int .i64 0, .string H1] 42)))
  have HF13 : Hid (JFr g r w3 (w13.alloc (.cells #[.int .i64 0, .string H1] 42))) := hid (((JFr.of HB12.out).trans (.inl rfl) hf13).trans (.inl rfl) (JFr.of (below_alloc _ _)))
  have HV13 := hid (box_at w13 (.cells #[.int .i64 0, .string H1] 42))
  clear hj13 hf13
  go_upto_region 9 with fail
  obtain ⟨w14, hw14⟩ : ∃ w14, w14 = w13.alloc (.cells #[.int .i64 0, .string H1] 42) := ⟨_, rfl⟩
  rw [← hw14] at HJ13 HF13 HV13 ⊢
  clear hw14
  obtain ⟨s0, s1⟩ := two_cells HV13.out
  have hs14 := lt_of_block HV13.out
  go_cut [11] (fun s wx => s = .bool true ∧ Below w14.heap.size w14 wx)
  case first =>
    go_region_held3 (fun w' => w'.cell? ⟨w13.heap.size, 1, none⟩ = some (.string H1)) (first | exact s1 | exact d1 | go_keep) (first
      | (go_at_call 20; refine (HHd.out r _ (by exact HJ13.out)).mono ?_; rintro e wa ⟨rfl, hba⟩; have d1 := (hba.cell (p := ⟨w13.heap.size, 1, none⟩) hs14).trans s1))
    all_goals
      go_wp2
      go_meet
      exact ⟨by simp, ⟨hba.os, hba.tape, hba.output, hba.size, hba.block⟩⟩
  case rest =>
    obtain ⟨rfl, hb15⟩ := hcut
    rename World => w15
    have HJ15 := hid (HJ13.out.below hb15)
    have HF15 : Hid (JFr g r w3 w15) := hid (HF13.out.trans (.inl rfl) (JFr.of hb15))
    clear hb15 s0 s1 hs14
    go_wp2_with (go_at_call 15; fail)
    refine (HDo.out r _ HJ15.out).mono ?_
    rintro e w16 ⟨rfl, hj16, hf16⟩
    have HJ17 := hid (hj16.below (below_alloc w16 (.cells #[.int .i64 0, .string H2] 42)))
    have HF17 : Hid (JFr g r w3 (w16.alloc (.cells #[.int .i64 0, .string H2] 42))) := hid ((HF15.out.trans (.inl rfl) hf16).trans (.inl rfl) (JFr.of (below_alloc _ _)))
    have HV17 := hid (box_at w16 (.cells #[.int .i64 0, .string H2] 42))
    clear hj16 hf16
    go_upto_region 12 with (first
      | (go_at_call 19; refine (HCo.out r _ HJ17.out).mono ?_; rintro e w18 ⟨rfl, q2, hw⟩; have hw := hw.symm; subst hw))
    obtain ⟨w18, hw18⟩ : ∃ w18, w18 = (w16.alloc (.cells #[.int .i64 0, .string H2] 42)).drewN q2 := ⟨_, rfl⟩
    have HJ18 : Hid (JS g r w18 7 2 2 0 []) := by rw [hw18]; exact hid (HJ17.out.drew q2)
    have HF18 : Hid (JFr g r w3 w18) := by rw [hw18]; exact hid (HF17.out.drew q2)
    have HV18 : Hid (w18.heap[w16.heap.size]? = some (.cells #[.int .i64 0, .string H2] 42 (0, 0))) := by rw [hw18]; exact HV17
    rw [← hw18]
    clear hw18 HJ17 HF17 HV17
    obtain ⟨s0, s1⟩ := two_cells HV18.out
    have hs18 := lt_of_block HV18.out
    have hq := HAp.out.next (.inl rfl) HF18.out
    have cw : w18.cell? ⟨wb, 2, none⟩ = some (.int .i64 2) := (World.cell?_of_block hq.2).trans HCW.out
    have hwl := hq.1.lt
    clear hq
    go_region_held3 (fun w' => w'.cell? ⟨w16.heap.size, 0, none⟩ = some (.int .i64 0) ∧ w'.cell? ⟨w16.heap.size, 1, none⟩ = some (.string H2) ∧ w'.cell? ⟨wb, 2, none⟩ = some (.int .i64 2)) (first | exact ⟨s0, s1, cw⟩ | exact d2 | exact d1 | go_keep) (first
      | (go_at_call 20; refine (HHd2.out r _ (by exact HJ18.out)).mono ?_; rintro e wa ⟨rfl, hba⟩; have d1 : wa.cell? ⟨w16.heap.size, 0, none⟩ = some (.int .i64 0) ∧ wa.cell? ⟨w16.heap.size, 1, none⟩ = some (.string H2) ∧ wa.cell? ⟨wb, 2, none⟩ = some (.int .i64 2) := ⟨(hba.cell (p := ⟨w16.heap.size, 0, none⟩) hs18).trans s0, (hba.cell (p := ⟨w16.heap.size, 1, none⟩) hs18).trans s1, (hba.cell (p := ⟨wb, 2, none⟩) hwl).trans cw⟩; have HBa : Hid (Below w18.heap.size w18 wa) := ⟨hba.os, hba.tape, hba.output, hba.size, hba.block⟩; clear hba)
      | (go_at_call 24; refine (HNx.out r _ (by exact HJ18.out.below HBa.out)).mono ?_; rintro e wc ⟨rfl, q3, hw⟩; have hw := hw.symm; subst hw))
    all_goals
      go_wp2
      go_ret
      have n1 : New w1 none r := by
        rcases HN3.out with e | ⟨k, e, hk⟩
        · exact .inl e
        · exact .inr ⟨k, e, by omega⟩
      have k18 : JFr g none w1 w18 := HF3.out.trans n1 HF18.out
      have b18 : Below g w1 w18 := k18.below (by omega) (Nat.le_refl _) (by intro x hx; cases hx)
      have b19 : Below g w w18 := HB1.out.trans b18
      have b20 : Below g w wa := b19.trans (HBa.out.mono (by have := HJ18.out.lt.1; omega))
      exact ⟨rfl, ⟨b20.os, b20.tape, b20.output, b20.size, b20.block⟩⟩
end Go.Proofs.Ytmcahiebcflfoaa
