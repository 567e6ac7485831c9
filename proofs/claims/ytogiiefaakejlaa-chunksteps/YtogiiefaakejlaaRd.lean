import Derived.Test.YtogiiefaakejlaaRc
import Derived.Test.YtogiiefaakejlaaWa
namespace Go.Proofs.Ytogiiefaakejlaa
open Go.RowKit Go.Maps

theorem chop_take (S : ByteArray) (T q : Nat) (h : q < T) : (chop S T).take (q + 1) = (chop S T).take q ++ [S.extract (q * 128) ((q + 1) * 128)] := by
  rw [List.take_succ_eq_append_getElem (by rw [chop_len]; exact h)]
  simp [chop]
theorem SRow.none {base : Nat} {w : World} {l : List ByteArray} (h : l = []) : SRow base w (.slice Option.none 0 0) l := by subst h; exact SRow.nil _ _
set_option maxRecDepth 100000 in
set_option maxHeartbeats 2000000 in
/-- the document's Blocks -/
theorem rblocks_any {base r : Nat} {w : World} {L : List Ck} (h : RI base r w L) (hok : LOk L) : Calls Try.prog 18 #[.pointer (some ⟨r, 0, none⟩)] w fun e w' => ∃ v, e = .returned (.tuple #[v, .int .i64 (blkE L)]) ∧ SLie w' v (blkL L) ∧ Below w.heap.size w w' := by
  have H := hid h
  have HOK := hid hok
  obtain ⟨v1, hm1, hr1⟩ := h.mem
  have hrl := lt_of_block hm1
  by_cases hLn : L = []
  · subst hLn
    obtain ⟨ao1, cap1, hv1, l1, l2⟩ := hr1.len
    subst hv1
    have c0 : w.cell? ⟨r, 0, none⟩ = some (.slice ao1 0 cap1) := by rw [cell_of hm1]; rfl
    clear hr1 hm1 h hok
    go_enter Try.func18, Try.ntmps18
    go_wp2
    go_ret2
    exact ⟨_, rfl, SLie.nil _, Below.refl _ _⟩
  · obtain ⟨x, rs, hLx⟩ : ∃ x rs, L = x :: rs := by cases L with | nil => exact absurd rfl hLn | cons x rs => exact ⟨x, rs, rfl⟩
    have hlp : 0 < L.length := List.length_pos_iff.2 hLn
    obtain ⟨t1, t2, t3, t4, t5⟩ := hok.tot hLn
    have HMC := hid (many_cnt hok hLn)
    have hml := miss_len hok hLn
    have hlc := hok.len_cnt
    have HMI := hid (fun (w' : World) (h' : RI base r w' L) => rmiss_any h' hok)
    have HHA := hid (fun (w' : World) (h' : RI base r w' L) (k : Int) => rhas_any h' k)
    have HMN := hid (fun (k : Int) => many_any (totOf L) k)
    have HBE : Hid (blkE L = if L.length < cntN L then 7 else if ((crc (joinL L) : Nat) : Int) = dgOf L then 0 else 30) := by
      show _ = _; unfold blkE; simp [hLn]
    have HBL : Hid (blkL L = if blkE L = 0 then chop (st (joinL L)) (totOf L).toNat else []) := rfl
    have HJD : Hid (joinL L = joinTo L (cntN L)) := rfl
    obtain ⟨gx, cap, rfl, hgx, hcx⟩ := hr1.at hlp
    have c0 : w.cell? ⟨r, 0, none⟩ = some (.slice (some ⟨gx, 0, none⟩) L.length cap) := by rw [cell_of hm1]; rfl
    have q0 : w.cell? ⟨gx, 0, none⟩ = some (.int .i64 (dgOf L)) := by have := hcx 0 hlp 0 (by omega); subst hLx; exact this
    have q1 : w.cell? ⟨gx, 1, none⟩ = some (.int .i64 (totOf L)) := by have := hcx 0 hlp 1 (by omega); subst hLx; exact this
    obtain ⟨lc1, lc2⟩ : L.length ≤ cap ∧ cap ≤ maxLen := by
      obtain ⟨ao, cp, e, l1, l2⟩ := hr1.len
      cases e
      exact ⟨l1, l2⟩
    unfold maxLen at lc2
    obtain ⟨N, hN⟩ : ∃ N, N = L.length := ⟨_, rfl⟩
    rw [← hN] at c0 lc1 hlp hml hlc HBE
    have eN : ((N : Int) == 0) = false := by simp; omega
    have HN := hid hN
    obtain ⟨C, hC⟩ : ∃ C, C = cntN L := ⟨_, rfl⟩
    rw [← hC] at HMC t4 t5 hml hlc HBE HJD t3
    have HC := hid hC
    obtain ⟨t, ht⟩ : ∃ t, t = totOf L := ⟨_, rfl⟩
    rw [← ht] at q1 HMN HMC HBL t1 t2 t3
    have HT := hid ht
    obtain ⟨D, hD⟩ : ∃ D, D = dgOf L := ⟨_, rfl⟩
    rw [← hD] at q0 HBE
    have HC0 := hid c0
    have HQ0 := hid q0
    have HQ1 := hid q1
    have HML := hid hml
    have HT3 := hid t3
    clear hr1 hm1 h hok hLx hcx hN hC ht hD hml t3 hLn q0 q1
    by_cases hlt : N < C
    · go_enter Try.func18, Try.ntmps18
      go_wp2_with (go_at_call 21; fail)
      refine (HMI.out _ H.out).mono ?_
      rintro e w1 ⟨mv, rfl, hi1, hb1⟩
      obtain ⟨mo, mc, rfl, m1, m2⟩ := hi1.len
      rw [HML.out] at m1 ⊢
      have em : decide (((C - N : Nat) : Int) > 0) = true := by simp; omega
      have HB1 := hid hb1
      clear hi1 hb1
      go_wp2
      go_ret2
      refine ⟨_, ?_, SLie.none ?_, HB1.out⟩
      · rw [HBE.out, if_pos hlt]; rfl
      · rw [HBL.out, HBE.out, if_pos hlt]; rfl
    · have hNC : C = N := by omega
      subst hNC
      have HJX := hid (joinTo_exact HOK.out (by rw [← HC.out, ← HN.out]; omega) C (by rw [← HC.out]; omega))
      obtain ⟨T, hTT⟩ : ∃ T : Nat, T = t.toNat := ⟨_, rfl⟩
      have htT : t = (T : Int) := by omega
      have hjl : (joinTo L C).length = 128 * T := by
        have h1 := HJX.out
        rw [← HT.out] at h1
        have h2 := HT3.out
        unfold cnt at h2
        omega
      have hT1 : 1 ≤ T ∧ T ≤ 1024 := by omega
      have HS := hid (refOf (st (joinTo L C)) (by rw [st_size, hjl]; unfold maxLen; omega))
      rw [st_list] at HS
      have hSL : (st (joinTo L C)).size = 128 * T := by rw [st_size]; exact hjl
      rw [HJD.out] at HBE HBL
      have HSL := hid hSL
      clear hTT HJX hjl hSL HJD HT3
      subst htT
      rw [show ((T : Int).toNat) = T by omega] at HBL
      go_enter Try.func18, Try.ntmps18
      go_wp2_with (go_at_call 21; fail)
      refine (HMI.out _ H.out).mono ?_
      rintro e w1 ⟨mv, rfl, hi1, hb1⟩
      obtain ⟨mo, mc, rfl, m1, m2⟩ := hi1.len
      rw [HML.out] at m1 ⊢
      have em : decide (((C - C : Nat) : Int) > 0) = false := by simp
      have HB1 := hid hb1
      clear hi1 hb1 c0
      go_wp2
      go_loopw [4, 5] (fun s i wr => ∃ k : Nat, k ≤ C ∧ i = .int .i64 k ∧ s = .string (st (joinTo L k)) ∧ Hid (Below w.heap.size w wr)) (fun _ i _ => C - (intOf i).toNat)
      case atStart => exact ⟨0, Nat.zero_le _, rfl, rfl, HB1⟩
      case round =>
        obtain ⟨k, hk, rfl, rfl, HB⟩ := hrel
        rename World => wr
        have e0 : wr.cell? ⟨r, 0, none⟩ = some (.slice (some ⟨gx, 0, none⟩) C cap) := (HB.out.cell (p := ⟨r, 0, none⟩) hrl).trans HC0.out
        have e1 : wr.cell? ⟨gx, 1, none⟩ = some (.int .i64 (T : Int)) := (HB.out.cell (p := ⟨gx, 1, none⟩) hgx).trans HQ1.out
        have e2 : wr.cell? ⟨gx, 0, none⟩ = some (.int .i64 D) := (HB.out.cell (p := ⟨gx, 0, none⟩) hgx).trans HQ0.out
        obtain ⟨m, hm⟩ : ∃ m, m = many (T : Int) (k : Int) := ⟨_, rfl⟩
        have HM := hid (HMN.out (k : Int))
        have hmc := HMC.out k
        rw [← hm] at HM hmc
        clear hm
        by_cases hkc : k < C
        · have hm0 : decide (m > 0) = true := by simpa using hmc.2 hkc
          have HH := hid (HHA.out _ (H.out.below HB.out) (k : Int))
          have HSU := hid (joinTo_succ L k)
          have hjk := joinTo_len HOK.out k
          have hds := datOf_size HOK.out (k : Int)
          have hfd := findC_dat L (k : Int)
          generalize findC L (k : Int) = fc at HH hfd
          obtain ⟨fd, ft, fn, fs, fm⟩ := fc
          have hfd2 : fs = datOf L (k : Int) := hfd
          rw [← hfd2] at HSU hds
          obtain ⟨J, hJ⟩ : ∃ J, J = joinTo L k := ⟨_, rfl⟩
          rw [← hJ] at HSU hjk ⊢
          have hcat : (st J).size + fs.size ≤ 1000000 := by rw [st_size]; omega
          clear hfd hfd2 hJ hmc
          go_wp2_with (first
            | (go_at_call 29; refine (HM.out _).mono ?_; rintro e w1 ⟨rfl, hw⟩; have hw := hw.symm; subst hw)
            | (go_at_call 33; refine (HH.out).mono ?_; rintro e w2 ⟨rfl, hb2⟩; have HB2 := hid hb2; clear hb2))
          go_roundw
          case rel =>
            refine ⟨k + 1, hkc, by simp, ?_, hid ((HB.out.next HB2.out).next (below_alloc _ _))⟩
            rw [HSU.out, ← st_append, st_toList]
          case measure => simp [intOf]; omega
        · have e : k = C := by omega
          have hm0 : decide (m > 0) = false := by simp; have := mt hmc.1 hkc; omega
          subst e
          clear hmc
          obtain ⟨S, hS⟩ : ∃ S, S = st (joinTo L k) := ⟨_, rfl⟩
          obtain ⟨kk, hkk⟩ : ∃ kk : Nat, kk = crc (joinTo L k) := ⟨_, rfl⟩
          rw [← hS] at HS HBL HSL ⊢
          rw [← hkk] at HS HBE
          clear hS hkk
          have hssz := HSL.out
          by_cases hkD : (kk : Int) = D
          · have hd : ((kk : Int) != D) = false := by simpa using hkD
            have HKD := hid hkD
            clear hkD
            go_wp2_with (go_at_call 29; refine (HM.out _).mono ?_; rintro e w1 ⟨rfl, hw⟩; have hw := hw.symm; subst hw)
            go_quiet ((go_at_call 28; exact Calls.quiet_of_same (HS.out _)))
            go_wp2
            go_loopw [8, 9] (fun s i wx => ∃ q : Nat, q ≤ T ∧ i = .int .i64 (q * 128 : Nat) ∧ Hid (SRow w.heap.size wx s ((chop S T).take q)) ∧ Hid (Below w.heap.size w wx)) (fun _ i _ => T * 128 - (intOf i).toNat)
            case atStart => exact ⟨0, Nat.zero_le _, rfl, SRow.nil _ _, HB.out.dN _⟩
            case round =>
              obtain ⟨q, hq, rfl, HR, HBX⟩ := hrel
              rename World => wx
              obtain ⟨so, sc, rfl, hs1, hs2⟩ := HR.out.len
              have htl : ((chop S T).take q).length = q := by rw [List.length_take, chop_len]; omega
              by_cases hqT : q < T
              · have hb1 : q * 128 + 128 ≤ S.size := by omega
                have HTK := hid (chop_take S T q hqT)
                have hsz := HBX.out.size
                have HTL := hid htl
                clear htl
                go_wp2_with (at_builtin; refine pushS rfl (.tmp 60) (.tmp 66) rfl w.heap.size _ _ ((chop S T).take q) (S.extract (q * 128) (q * 128 + 128)) rfl rfl rfl HR.out (by rw [HTL.out]; omega) hsz ?_; intro v' w3 hv3 hb3 _; have HV3 := hid hv3; have HB3 := hid hb3; clear hv3 hb3)
                obtain ⟨ao3, cap3, rfl, hd1, hd2⟩ := HV3.out.len
                go_wp2
                go_roundw
                case rel => exact ⟨q + 1, hqT, by go_num, hid (by rw [HTK.out, show (q + 1) * 128 = q * 128 + 128 by omega]; exact HV3.out), hid (HBX.out.trans HB3.out)⟩
                case measure => simp [intOf]; omega
              · have e : q = T := by omega
                subst e
                have hbe : blkE L = 0 := by rw [HBE.out, if_neg hlt, if_pos HKD.out]
                have HBE0 := hid hbe
                clear hbe htl
                go_wp2
                go_ret2
                refine ⟨.slice so ((chop S q).take q).length sc, ?_, ?_, HBX.out⟩
                · rw [HBE0.out]; rfl
                · rw [HBL.out, if_pos HBE0.out]
                  have := HR.out.lie
                  rw [List.take_of_length_le (by rw [chop_len]; omega)] at this ⊢
                  exact this
          · have hd : ((kk : Int) != D) = true := by simpa using hkD
            go_wp2_with (go_at_call 29; refine (HM.out _).mono ?_; rintro e w1 ⟨rfl, hw⟩; have hw := hw.symm; subst hw)
            go_quiet ((go_at_call 28; exact Calls.quiet_of_same (HS.out _)))
            go_wp2
            go_ret2
            refine ⟨_, ?_, SLie.none ?_, HB.out.dN _⟩
            · rw [HBE.out, if_neg hlt, if_neg hkD]; rfl
            · rw [HBL.out, HBE.out, if_neg hlt, if_neg hkD]; rfl
end Go.Proofs.Ytogiiefaakejlaa
