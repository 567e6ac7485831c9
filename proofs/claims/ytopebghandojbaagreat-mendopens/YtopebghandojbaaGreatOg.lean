import Derived.Test.YtopebghandojbaaGreatOd
import Derived.Deep.CutBlock
import Derived.Deep.CutRange
import Derived.Deep.DeepCutAuto
import Derived.Deep.LoopGhost
import Derived.Deep.RegionHeld3
import Derived.BigQuiet
namespace Go.Proofs.YtopebghandojbaaGreat
open Go.RowKit Go.Maps

theorem seen_sz : ∀ (Q : List (Nat × ByteArray)) (f : Nat → Option ByteArray), (∀ q ∈ Q, q.2.size = 128) → (∀ k, (val f k).size = 128) → ∀ k, (val (Dv.seen f Q) k).size = 128
  | [], f, _, h, k => h k
  | (a, d) :: Q, f, hq, h, k => by
    have hd : d.size = 128 := hq _ (List.mem_cons_self ..)
    rw [seen_cons _ _ _ hd]
    refine seen_sz Q _ (fun q hm => hq q (List.mem_cons_of_mem _ hm)) (fun k => ?_) k
    rw [val_one]
    split
    · exact hd
    · exact h k
set_option maxRecDepth 100000 in
set_option maxHeartbeats 1500000 in
/-- no blocks, or too many -/
theorem opens_none (v : Value) (l : List ByteArray) (hl : l.length = 0 ∨ 100 < l.length) (W : World) (h : SLie W v l) :
    Calls Tryz.prog 4 #[v] W fun e w' => e = .returned (.bool true) ∧ Below W.heap.size W w' := by
  obtain ⟨ao, cap, rfl, hlc, hcm, _⟩ := h
  unfold maxLen at hcm
  have HSA := hid speaks_any
  rcases hl with hl | hl
  · rw [hl]
    go_enter Tryz.func4, Tryz.ntmps4
    go_wp2_with (first | (go_at_call 10; refine (HSA.out _).mono ?_; rintro e w1 ⟨rfl, hb1⟩))
    go_ret
    exact ⟨rfl, hb1⟩
  · have h0 : (((l.length : Nat) : Int) == 0) = false := by
      rw [beq_eq_false_iff_ne]; omega
    go_enter Tryz.func4, Tryz.ntmps4
    go_wp2_with (first | (go_at_call 10; refine (HSA.out _).mono ?_; rintro e w1 ⟨rfl, hb1⟩))
    go_ret
    exact ⟨rfl, hb1⟩
set_option maxRecDepth 100000 in
set_option maxHeartbeats 8000000 in
theorem opens_go (v : Value) (l : List ByteArray) (h1 : 1 ≤ l.length) (h100 : l.length ≤ 100) (W : World) (h : SLie W v l) :
    Calls Tryz.prog 4 #[v] W fun e w' => e = .returned (.bool true) ∧ Below W.heap.size W w' := by
  have HSL := hid h
  have HSA := hid speaks_any
  obtain ⟨ao, cap, rfl, hlc, hcm, hcell⟩ := h
  unfold maxLen at hcm
  have hg0 : 0 < W.heap.size := by
    obtain ⟨gb0, off0, _, hg0, _⟩ := hcell 0 h1
    omega
  clear hcell
  obtain ⟨n, hn⟩ : ∃ n, n = l.length := ⟨_, rfl⟩
  have HN : Hid (Calls Tryz.prog 27 #[.int .i64 (n : Int)] W fun e w1 => ∃ g fp, e = .returned (.tuple #[.pointer (some ⟨g, 0, none⟩), .int .i64 0]) ∧ Dv.DIs W.heap.size g w1 0 ⟨n, fun _ => none, []⟩ fp ∧ Below W.heap.size W w1) := hid ((Dv.new_any n (by omega) (by omega) W.heap.size W (Nat.le_refl _)).mono (by
    rintro e w1 ⟨rfl, k1, k2⟩
    exact ⟨_, _, rfl, k1, k2⟩))
  have HX : Hid (∀ w', Below W.heap.size W w' → Calls Tryz.prog 28 #[.int .i64 (n : Int)] w' fun e w1 => ∃ d fp, e = .returned (.tuple #[.pointer (some ⟨d, 0, none⟩), .int .i64 0]) ∧ Dv.XD w'.heap.size d w1 n (fun _ => none) [] fp ∧ Below w'.heap.size w' w1) := hid (fun w' k => (Dv.xd_new n (by omega) (by omega) w'.heap.size w' (Nat.le_refl _)).mono (by
    rintro e w1 ⟨rfl, k1, k2⟩
    exact ⟨_, _, rfl, k1, k2⟩))
  have hn1 : 1 ≤ n := by omega
  have hn2 : n ≤ 100 := by omega
  rw [← hn] at hlc h1 h100 ⊢
  have e0 : (((n : Nat) : Int) == 0) = false := by rw [beq_eq_false_iff_ne]; omega
  have e1 : decide ((100 : Int) < ((n : Nat) : Int)) = false := decide_eq_false (by omega)
  have HNE := hid hn
  clear hn
  go_enter Tryz.func4, Tryz.ntmps4
  go_wp2_with (first
    | (go_at_call 27; refine HN.out.mono ?_; rintro e w1 ⟨g, fp1, rfl, hd1, hb1⟩
       have HD1 := hid hd1
       have HB1 := hid hb1
       clear hd1 hb1)
    | (go_at_call 28; refine (HX.out _ HB1.out).mono ?_; rintro e w2 ⟨d, fp2, rfl, hd2, hb2⟩
       have HB2 := hid (HB1.out.next hb2)
       have hz12 := hb2.size
       have HP2 := hid (HD1.out.below hb2)
       have HX2 := hid hd2
       have HAP := hid (show ∀ b ∈ fp1, b ∉ fp2 from fun b hb hm => by have := (HD1.out.lo b hb).2; have := (HX2.out.lo b hm).1; omega)
       have HLO := hid (show ∀ b ∈ fp2, W.heap.size ≤ b ∧ b < w2.heap.size from fun b hb => ⟨by have := (HX2.out.lo b hb).1; have := HB1.out.size; omega, (HX2.out.lo b hb).2⟩)
       clear hd2 hb2))
  clear HN HX
  go_loopw [55] (fun i wr => ∃ (k N BR : Nat) (Q : List (Nat × ByteArray)) (fpP fpR : List Nat), i = .int .i64 k ∧ k ≤ n ∧ Dv.DIs W.heap.size g wr N ⟨n, fun _ => none, Q⟩ fpP ∧ Dv.XD BR d wr n (fun _ => none) Q fpR ∧ W.heap.size ≤ BR ∧ BR ≤ wr.heap.size ∧ (∀ b ∈ fpP, b ∉ fpR) ∧ Q.length ≤ k ∧ N ≤ k ∧ (∀ q ∈ Q, q.2.size = 128) ∧ Below W.heap.size W wr) (fun i _ => n - (intOf i).toNat)
  case atStart => exact ⟨0, 0, _, [], fp1, fp2, rfl, Nat.zero_le _, HP2.out, HX2.out, HB1.out.size, hz12, HAP.out, Nat.le_refl _, Nat.le_refl _, (fun q hq => by cases hq), HB2.out⟩
  case round =>
    obtain ⟨k, N, BR, Q, fpP, fpR, rfl, hk, hdp, hxr, hBR1, hBR2, hap, hQl, hNl, hQs, hbw⟩ := hrel
    have HDP := hid hdp
    have HXR := hid hxr
    have HPA := hid hap
    have HQS := hid hQs
    have HBW := hid hbw
    have hzw := hbw.size
    clear hdp hxr hap hQs hbw
    by_cases hkn : k < n
    · obtain ⟨ao', cap', ev, _, _, hcs⟩ := HSL.out.below HBW.out
      injection ev with ev1 ev2 ev3
      obtain ⟨gb, off, e, hgb, c0⟩ := hcs k (by have := HNE.out; omega)
      rw [← ev1] at e
      subst e
      have hn := HNE.out
      obtain ⟨b, hb⟩ : ∃ b, b = l[k]'(by omega) := ⟨_, rfl⟩
      rw [← hb] at c0
      clear hb hcs ev1 ev2 ev3 hn
      by_cases hbs : b.size = 128
      · have HW := hid (Dv.write_ok (S := ⟨n, fun _ => none, Q⟩) k b (by omega) (by omega) (by omega) (by show k + Dv.cnt b ≤ n; unfold Dv.cnt; omega) (by omega) (by show Q.length ≤ 100000; omega) wr HDP.out hzw)
        have hc1 : Dv.cnt b = 1 := by unfold Dv.cnt; omega
        go_wp2_with (first
          | (go_at_call 29; refine HW.out.mono ?_; rintro e w5 ⟨rfl, fp5, hd5, ho5, hf5⟩
             have HD5 := hid hd5
             have HO5 := hid ho5
             have HF5 := hid hf5
             have hz5 := ho5.size
             have HX5 := hid (Dv.XD.write k b hbs hkn (by omega) w5 (HXR.out.other ho5 (fun x hx hm => HPA.out x hm hx)) (by omega))
             clear hd5 ho5 hf5)
          | (go_at_call 30; refine HX5.out.mono ?_; rintro e w6 ⟨rfl, fp6, hd6, ho6, hf6⟩
             have HD6 := hid hd6
             have HO6 := hid ho6
             have HF6 := hid hf6
             clear hd6 ho6 hf6))
        go_roundw
        case rel =>
          have lp := HDP.out.lo
          have lp5 := HD5.out.lo
          have lr := HXR.out.lo
          have hz6 := HO6.out.size
          have hpr : ∀ x ∈ fp5, x ∉ fpR := fun x hx hm => by
            rcases HF5.out x hx with e | e
            · exact HPA.out x e hm
            · have := (lr x hm).2; omega
          refine ⟨k + 1, N + Dv.cnt b, BR, Q ++ [(k, b)], fp5, fp6, by go_num, by omega, HD5.out.other HO6.out hpr, HD6.out, hBR1, by omega, fun x hx hm => ?_, by simp; omega, by omega, fun q hq => ?_, HBW.out.trans ((HO5.out.below hzw (fun x hx => (lp x hx).1)).trans (HO6.out.below (by omega) (fun x hx => by have := (lr x hx).1; omega)))⟩
          · rcases HF6.out x hm with e | e
            · exact hpr x hx e
            · have := (lp5 x hx).2; omega
          · rcases List.mem_append.1 hq with e | e
            · exact HQS.out q e
            · rw [List.mem_singleton] at e
              rw [e]; exact hbs
        case measure => simp only [intOf] at *; omega
      · go_wp2
        go_roundw
        case rel => exact ⟨k + 1, N, BR, Q, fpP, fpR, by go_num, by omega, HDP.out, HXR.out, hBR1, hBR2, HPA.out, by omega, by omega, HQS.out, HBW.out⟩
        case measure => simp only [intOf] at *; omega
    · have hke : k = n := by omega
      have HFL := hid (Dv.flush_any (S := ⟨n, fun _ => none, Q⟩) (by omega) wr HDP.out)
      go_upto_region 16 with (first
        | (go_at_call 31; refine HFL.out.mono ?_; rintro e w5 ⟨rfl, hd5, ho5⟩
           have HD5 := hid hd5
           have HO5 := hid ho5
           have hz5 := ho5.size
           have HX5 := hid (Dv.XD.flush (by omega) w5 (HXR.out.other ho5 (fun x hx hm => HPA.out x hm hx)))
           clear hd5 ho5)
        | (go_at_call 32; refine HX5.out.mono ?_; rintro e w6 ⟨rfl, hd6, ho6⟩
           have HD6 := hid hd6
           have HO6 := hid ho6
           clear hd6 ho6))
      have hz6 := HO6.out.size
      have lp := HDP.out.lo
      have lr := HXR.out.lo
      have hB6 : Below W.heap.size W w6 := HBW.out.trans ((HO5.out.below hzw (fun x hx => (lp x hx).1)).trans (HO6.out.below (by omega) (fun x hx => by have := (lr x hx).1; omega)))
      have HB6 := hid hB6
      have HR6 := hid lr
      have hf : ∀ q, (val (Dv.seen (fun _ => none) Q) q).size = 128 := seen_sz Q _ HQS.out (fun k => by show (Dv.B 0).size = 128; exact Bd_size 0)
      have hcases := both_any (N0 := W.heap.size) (q := 0) ⟨by omega, by omega⟩ hf w6 (HD5.out.other HO6.out HPA.out) HD6.out (Nat.le_refl _) (by omega) hBR1 (by omega) HPA.out (by omega)
      clear lp lr hB6 HD6 HD5 HFL HX5 HX2 HP2 HD1
      rcases hcases with ⟨c, hc, k11, k12⟩ | k11
      · have H11 := hid k11
        have H12 := hid k12
        have hcc : (c != c) = false := by simp
        clear k11 k12
        go_wp2_with (first
          | (go_at_call 11; refine (H11.out _ (Below.refl _ _)).mono ?_; rintro e w7 ⟨rfl, hb7⟩
             have HB7 := hid hb7
             clear hb7)
          | (go_at_call 12; refine (H12.out _ HB7.out).mono ?_; rintro e w8 ⟨rfl, hk8⟩
             have HK8 := hid hk8
             clear hk8)
          | (go_at_call 10; refine (HSA.out _).mono ?_; rintro e w9 ⟨rfl, hb9⟩))
        go_ret
        have hz7 := HB7.out.size
        have hb8 := HK8.out.below (B := W.heap.size) (by omega) (fun x hx => by have := (HR6.out x hx).1; omega)
        exact ⟨rfl, ((HB6.out.next HB7.out).trans hb8).next hb9⟩
      · have H11 := hid k11
        clear k11
        go_upto_region 18 with (first
          | (go_at_call 11; refine H11.out.mono ?_; rintro e w7 ⟨s, jp, m, x, y, z, rfl, hb7, hh7⟩
             have HB7 := hid hb7
             have HH7 := hid hh7.out
             clear hb7 hh7)
          | (go_at_call 12; refine (HH7.out _ (Below.refl _ _)).mono ?_; rintro e w8 ⟨r, j, A, rfl, hbo, hk8⟩
             have HK8 := hid hk8
             have HBO := hid hbo
             clear hbo hk8))
        have hz7 := HB7.out.size
        have HB8 := hid ((HB6.out.next HB7.out).trans (HK8.out.below (B := W.heap.size) (by omega) (fun x hx => by have := (HR6.out x hx).1; omega)))
        have hrl : ∀ wx A, BothO W.heap.size 0 s g jp m r d x y z j wx A → 0 < wx.heap.size := fun wx A h => by have := h.sz; omega
        go_wp2_with fail
        go_loopg [108] A.length (fun kk _ wx => ∃ A, A.length = kk ∧ BothO W.heap.size 0 s g jp m r d x y z j wx A ∧ Below W.heap.size W wx)
        case atStart => exact ⟨A, rfl, HBO.out, HB8.out⟩
        case round =>
          obtain ⟨A2, hA2, hbo, hbw⟩ := hrel
          have HBq := hid hbo
          have HWq := hid hbw
          obtain ⟨ct, ao2, ac, s2, s3, s5, s20, s21, e8, e7⟩ := hbo.says
          have H20 := hid s20
          have H21 := hid s21
          rw [hA2] at H21 e7 s2
          clear s20 s21 hbo hbw
          by_cases hk0 : gk = 0
          · subst hk0
            have hAn : A2 = [] := List.eq_nil_of_length_eq_zero hA2
            subst hAn
            rw [decide_eq_false (show ¬ 0 < 0 by omega)] at H21
            go_wp2_with (first
              | (go_at_call 21; refine (H21.out _ (Below.refl _ _)).mono ?_; rintro e w10 ⟨rfl, hw⟩; have hw := hw.symm; subst hw))
            clear e8 e7 H20 H21
            go_loopw [115] (fun i wx => ∃ k : Nat, i = .int .i64 k ∧ k ≤ n ∧ BothO W.heap.size 0 s g jp m r d x y z j wx [] ∧ Below W.heap.size W wx) (fun i _ => n - (intOf i).toNat)
            case atStart => exact ⟨0, rfl, Nat.zero_le _, HBq.out, HWq.out⟩
            case round =>
              obtain ⟨k3, rfl, hk3, hbo, hbw⟩ := hrel
              have HB3 := hid hbo
              have HW3 := hid hbw
              have hz3 := hbw.size
              by_cases hkx : k3 < n
              · obtain ⟨da, db, ca, cb, r23, r24, r25, r26⟩ := hbo.reads (k3 : Int) (by unfold inI; omega)
                have H23 := hid r23
                have H24 := hid r24
                have H25 := hid r25
                have H26 := hid r26
                clear hbo hbw r23 r24 r25 r26
                go_wp2_with (first
                  | (go_at_call 25; refine (H25.out _ (Below.refl _ _)).mono ?_; rintro e w11 ⟨rfl, hb11⟩)
                  | (go_at_call 26; refine (H26.out _ hb11).mono ?_; rintro e w12 ⟨rfl, hb12⟩; have HB12 := hid (hb11.next hb12))
                  | (go_at_call 23; refine (H23.out _ HB12.out).mono ?_; rintro e w13 ⟨rfl, hb13⟩; have HB13 := hid (HB12.out.next hb13))
                  | (go_at_call 24; refine (H24.out _ HB13.out).mono ?_; rintro e w14 ⟨rfl, hb14⟩; have HB14 := hid (HB13.out.next hb14)))
                go_roundw
                case rel => exact ⟨k3 + 1, by go_num, by omega, HB3.out.below HB14.out, HW3.out.next HB14.out⟩
                case measure => simp only [intOf] at *; omega
              · obtain ⟨ct, ao2, ac, s2, s3, s5, s20, s21, e8, e7⟩ := hbo.says
                have H20 := hid s20
                have H21 := hid s21
                rw [decide_eq_false (show ¬ 0 < ([] : List AT).length by simp)] at H21
                rw [List.length_nil] at e7
                clear s20 s21 hbo hbw
                go_wp2_with fail
                go_region_held3 (fun w' => w'.cell? ⟨r, 8, none⟩ = some (.int .i64 ct) ∧ w'.cell? ⟨r, 7, none⟩ = some (.slice ao2 0 ac)) (first | exact ⟨e8, e7⟩ | exact d13 | go_keep) (first
                  | (go_at_call 20; refine (H20.out _ (by exact ⟨rfl, rfl, rfl, Nat.le_refl _, fun _ _ => rfl⟩)).mono ?_; rintro e w10 ⟨rfl, hw⟩; have hw := hw.symm; subst hw)
                  | (go_at_call 21; refine (H21.out _ (by exact ⟨rfl, rfl, rfl, Nat.le_refl _, fun _ _ => rfl⟩)).mono ?_; rintro e w10 ⟨rfl, hw⟩; have hw := hw.symm; subst hw)
                  | (go_at_call 10; refine (HSA.out _).mono ?_; rintro e w13 ⟨rfl, hb13⟩
                     have hb13 : Below wr.heap.size wr w13 := ⟨hb13.os, hb13.tape, hb13.output, hb13.size, hb13.block⟩
                     have d13 : w13.cell? ⟨r, 8, none⟩ = some (.int .i64 ct) ∧ w13.cell? ⟨r, 7, none⟩ = some (.slice ao2 0 ac) := ⟨(hb13.cell (p := ⟨r, 8, none⟩) s3).trans e8, (hb13.cell (p := ⟨r, 7, none⟩) s3).trans e7⟩
                     have HB13 := hid hb13
                     clear hb13))
                all_goals
                  go_wp2
                  go_ret
                  exact ⟨rfl, HW3.out.next ⟨HB13.out.os, HB13.out.tape, HB13.out.output, HB13.out.size, HB13.out.block⟩⟩
          · obtain ⟨k', rfl⟩ : ∃ k', gk = k' + 1 := ⟨gk - 1, by omega⟩
            rw [decide_eq_true (show 0 < k' + 1 by omega)] at H21
            obtain ⟨a, A3, rfl⟩ : ∃ a A3, A2 = a :: A3 := by
              cases A2 with
              | nil => simp at hA2
              | cons a b => exact ⟨a, b, rfl⟩
            have HST := hid (HBq.out.step (hrl _ _ HBq.out))
            have HSZ := HBq.out.sz
            go_wp2_with (first
              | (go_at_call 21; refine (H21.out _ (Below.refl _ _)).mono ?_; rintro e w10 ⟨rfl, hw⟩; have hw := hw.symm; subst hw)
              | (go_at_call 18; refine HST.out.mono ?_; rintro e w11 ⟨rfl, hf11, hh11⟩
                 have HW11 := hid (HWq.out.trans (hf11.lo HSZ))
                 have HH11 := hid hh11.out
                 have hz11 := Nat.le_trans HSZ hf11.size
                 clear hf11 hh11)
              | (go_at_call 19; refine (HH11.out _ (Below.refl _ _)).mono ?_; rintro e w12 ⟨rfl, hb12, hf12⟩
                 have HW12 := hid (HW11.out.trans (hf12.lo hz11))
                 have HB12 := hid hb12
                 clear hb12 hf12))
            go_roundg k'
            case measure => omega
            case rel => exact ⟨A3, by simpa using hA2, HB12.out, HW12.out⟩
theorem opens_walk (v : Value) (l : List ByteArray) (W : World) (h : SLie W v l) :
    Calls Tryz.prog 4 #[v] W fun e w' => e = .returned (.bool true) ∧ Below W.heap.size W w' := by
  by_cases h1 : 1 ≤ l.length ∧ l.length ≤ 100
  · exact opens_go v l h1.1 h1.2 W h
  · exact opens_none v l (by omega) W h
end Go.Proofs.YtopebghandojbaaGreat
namespace Go.Proofs.YtopebghandojbaaGreat
open Go.ChangeShapes Go.WideShapes Go.ChangeAt Go.RowKit Go.Joins Go.Deep

theorem open_strings {H : Type} {enc : TypeId × Value → H} {W : World} {fuel : Nat} {ao : Option Addr} {len cap : Nat} {x : DataW H × List MemPlace}
    (h : DataW.trod enc Tryz.prog W 0 (fun _ => true) true fuel 55 [.slice ao len cap] = some x) : ∃ l, SLie W (.slice ao len cap) l := by
  rcases open_slice Tryz.underlying55 h with ⟨h0, hx⟩ | ⟨a, len', cap', m, n, D, Pl, hcs, hb, hl, hm, hmm, hx, hel⟩
  · simp at h0
    obtain ⟨rfl, rfl, rfl⟩ := h0
    exact ⟨[], none, 0, rfl, Nat.le_refl _, by decide, fun i hi => by simp at hi⟩
  · simp at hcs
    obtain ⟨rfl, rfl, rfl⟩ := hcs
    have hlm : len ≤ m := by rw [hmm]; split <;> omega
    have each : ∀ i, i < len → ∃ y : ByteArray, W.cell? (a.add i) = some (.string y) := by
      intro i hi
      obtain ⟨cs', h1, h2⟩ := hel i (by omega)
      rw [cells9] at h1
      obtain ⟨_, hlen, hcell⟩ := World.cells?_some h1
      match cs', hlen with
      | [v0], _ =>
        have e0 := hcell 0 (by omega)
        rw [Deep.add_add] at e0
        obtain ⟨s, q1, _, ws⟩ := DataW.trod_string Tryz.underlying9 h2
        simp at q1
        subst q1
        exact ⟨s, by simpa using e0⟩
    obtain ⟨it, hit⟩ := choose_lt each
    refine ⟨(List.range len).map it, some a, cap, by simp, by simpa using hl, hm, fun i hi => ?_⟩
    rw [range_get]
    have hi' : i < len := by simpa using hi
    have a0 := hit i hi'
    have a00 := hit 0 (by omega)
    obtain ⟨b, off, sp⟩ := a
    have hsp : sp = none := by simpa [Addr.add] using World.cell?_spot a00
    subst hsp
    have hadd : ∀ j, (⟨b, off, none⟩ : Addr).add j = ⟨b, off + j, none⟩ := fun j => by unfold Addr.add; split <;> simp_all
    have hblk : b < W.heap.size := by
      obtain ⟨cs', h1, _⟩ := hel i (by omega)
      rw [cells9, hadd] at h1
      exact World.cells?_block h1 (by decide)
    rw [hadd] at a0
    exact ⟨b, off, rfl, hblk, a0⟩
end Go.Proofs.YtopebghandojbaaGreat
