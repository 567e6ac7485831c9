import Derived.Test.YtokjlgebkihimaaGreatYe
namespace Go.Proofs.YtokjlgebkihimaaGreat
open Go.RowKit Go.Maps Go.Shelf

theorem setd_t1 {W w1 : World} {p q cap p' q' cap' : Nat} {B B' : List ByteArray} (i : Nat) (hi : i < 8) (h : TV W p q cap p' q' cap' B B' w1) : Calls Tryz.prog 27 #[.pointer (some ⟨p, 0, none⟩), .int .i64 (i : Int), dN.v] w1 fun e w' => e = .returned (.int .i64 0) ∧ TV W p q cap p' q' cap' (putB sG B i dN) B' w' := by
  obtain ⟨m, m', h1, h2, h3, h4, h5⟩ := h.ex
  exact (vset_ok (w := w1) i (show i < sG.z from hi) dN d_c h1).mono fun e w' ⟨he, hv', ho⟩ => ⟨he, h.one h1 h2 h3 h4 h5 ⟨m, hv', ho.wide (by simp), .inl rfl⟩⟩
theorem setd_t2 {W w1 : World} {p q cap p' q' cap' : Nat} {B B' : List ByteArray} (i : Nat) (hi : i < 8) (h : TV W p q cap p' q' cap' B B' w1) : Calls Tryz.prog 27 #[.pointer (some ⟨p', 0, none⟩), .int .i64 (i : Int), dN.v] w1 fun e w' => e = .returned (.int .i64 0) ∧ TV W p q cap p' q' cap' B (putB sG B' i dN) w' :=
  (setd_t1 i hi h.swap).mono fun _ _ ⟨g1, g2⟩ => ⟨g1, g2.swap⟩
theorem emp_non {B : List ByteArray} (h : Emp sG B) (j : Nat) : Non B j := fun q _ => vl_none (fun a p => by
  show (if p < 8 then (datN sG ((nd sG B a).at p)).toNat else 0) = 0
  rw [h.at0 a p, datN_zero s_ok]
  split <;> rfl) j q
set_option maxRecDepth 100000 in
set_option maxHeartbeats 8000000 in
theorem dapart_walk (v : Value) (l : List Stp) (w : World) (hT : TLie w v l) : Calls Tryz.prog 6 #[v] w fun e w' => e = .returned (.bool true) ∧ Below w.heap.size w w' := by
  obtain ⟨ao, cap0, rfl, h1, h2, h3⟩ := hT
  have HC := hid h3
  unfold maxLen at h2
  obtain ⟨n, hn⟩ : ∃ n, n = l.length := ⟨_, rfl⟩
  rw [← hn] at h1 ⊢
  have HN := hid hn
  clear h3 hn
  have q26 : ∀ (w : World) (g : Nat), (binOp .eql 26 (.pointer (some ⟨g, 0, none⟩)) (.pointer none)).run Tryz.prog w = .ok (.bool false) w := fun w g => by kernel_rfl
  have q26n : ∀ (w : World) (g : Nat), (binOp .neq 26 (.pointer (some ⟨g, 0, none⟩)) (.pointer none)).run Tryz.prog w = .ok (.bool true) w := fun w g => by kernel_rfl
  go_enter Tryz.func6, Tryz.ntmps6
  go_wp2_with (go_at_call 25; fail)
  refine (start_any _).mono ?_
  rintro e w1 ⟨p, rfl, hd1⟩
  have HD1 := hid hd1
  clear hd1
  go_wp2_with (go_at_call 25; fail)
  refine (start_any _).mono ?_
  rintro e w2 ⟨p', rfl, hd2⟩
  obtain ⟨q, cap, m, hv, hq, hm⟩ := HD1.out.sv.ex
  obtain ⟨q', cap', m', hv', hq', hm'⟩ := hd2.sv.ex
  have hs1 := HD1.out.sv.bel.size
  have HD : Hid (TV w p q cap p' q' cap' B0 B0 w2) := hid ⟨⟨m, m', hv.below hd2.sv.bel, hv', by have := hv.ml; omega, hm, by omega⟩, by have := hv.pl; have := hd2.sv.le; omega, ⟨HD1.out.sv.le, by have := hd2.sv.le; omega⟩, HD1.out.sv.bel.next hd2.sv.bel⟩
  clear HD1 hd2 hv hq hm hv' hq' hm' hs1
  by_cases hbig : 100 < n
  · have hb : decide (100 < (n : Int)) = true := decide_eq_true (by omega)
    go_wp2_with (go_at_call 9; refine (speaks_any _).mono ?_; rintro e w3 ⟨rfl, b2⟩; have HB2 := hid (HD.out.bel.next b2); clear b2)
    go_ret
    exact ⟨rfl, HB2.out⟩
  · have hb : decide (100 < (n : Int)) = false := decide_eq_false (by omega)
    go_wp2_with (go_at_call 27; fail)
    refine (setd_t1 1 (by decide) HD.out).mono ?_
    rintro e w3 ⟨rfl, hd3⟩
    have HD3 := hid hd3
    clear hd3 HD
    go_wp2_with (go_at_call 27; fail)
    refine (setd_t2 1 (by decide) HD3.out).mono ?_
    rintro e w4 ⟨rfl, hd4⟩
    have HA4 : Hid (AV w p q cap p' q' cap' B01 B01 [] [] w4) := hid ⟨hd4, b01_emp.1.ti, fd_emp b01_emp.1 b01_emp.2.1, fd_emp b01_emp.1 b01_emp.2.2, b01_emp.1.ti, fd_emp b01_emp.1 b01_emp.2.1, fun j _ _ => emp_non b01_emp.1 j⟩
    clear hd4 HD3
    go_wp2
    go_loopw [48] (fun ix wr => ∃ (j : Nat) (B B' : List ByteArray) (S T : List (List UInt8)), ix = .int .i64 (j : Int) ∧ j ≤ n ∧ S.length ≤ j ∧ T.length ≤ j ∧ Hid (AV w p q cap p' q' cap' B B' S T wr)) (fun ix _ => n - (intOf ix).toNat)
    case atStart => exact ⟨0, B01, B01, [], [], rfl, Nat.zero_le _, Nat.le_refl _, Nat.le_refl _, HA4⟩
    case round =>
      obtain ⟨j, B, B', S, T, rfl, hj, hSj, hTj, HV⟩ := hrel
      rename World => wr
      clear HA4
      by_cases hlt : j < n
      · have hj' : j < l.length := by rw [← HN.out]; exact hlt
        obtain ⟨gb, off, ea, hgb, hat, hsz⟩ := HC.out j hj'
        subst ea
        obtain ⟨⟨sk, sd, st', sn⟩, hs⟩ : ∃ s, s = l[j]'hj' := ⟨_, rfl⟩
        rw [← hs] at hat hsz
        clear hs
        obtain ⟨c0, c1, c2, c3⟩ := hat.same (HV.out.tv.bel.block gb hgb)
        simp only at c0 c1 c2 c3
        have hgr : gb < wr.heap.size := Nat.lt_of_lt_of_le hgb HV.out.tv.bel.size
        clear hat hsz
        go_upto_region 10 with fail
        obtain ⟨wa, hwa⟩ : ∃ wa, wa = wr.alloc (.cells #[.int .i64 sk, .int .i64 sd, .int .i64 st', .string sn] 40) := ⟨_, rfl⟩
        have hka : Below wr.heap.size wr wa := by rw [hwa]; exact below_alloc wr _
        have hB4 : SB4 wr.heap.size wa ⟨sk, sd, st', sn⟩ := by rw [hwa]; exact box_at _ _
        have HVa := hid (HV.out.next hka)
        rw [← hwa]
        obtain ⟨rb, hrb⟩ : ∃ rb, rb = wr.heap.size := ⟨_, rfl⟩
        rw [← hrb] at hB4 ⊢
        have HB4 := hid hB4
        clear hwa hB4 hrb c0 c1 c2 c3 hgb hgr HV hka
        obtain ⟨d0, d1, d2, d3⟩ := HB4.out.cells
        have hrbl := lt_of_block HB4.out
        simp only at d0 d1 d2 d3
        by_cases hd0 : sd = 0
        · subst hd0
          by_cases hk : sk < 2
          · have hkd : decide (sk < 2) = true := decide_eq_true hk
            obtain ⟨r, B1, S1, hP, hC⟩ := put_t1 (i := 0) sn st' HVa.out.tv HVa.out.hv HVa.out.f0 (by decide) (by omega)
            have HP := hid hP
            have HCp := hid hC
            clear hC hP
            go_wp2_with (go_at_call 11; fail)
            refine HCp.out.mono ?_
            rintro e w5 ⟨rfl, htv, k40⟩
            have HT5 := hid htv
            have HB5 := hid (HB4.out.kt k40)
            clear htv k40 d0 d1 d2 d3 hrbl
            obtain ⟨d0, d1, d2, d3⟩ := HB5.out.cells
            have hrbl := lt_of_block HB5.out
            simp only at d0 d1 d2 d3
            by_cases h306 : r = 306
            · have h3 : (r == 306) = true := by simpa using h306
              go_wp2_with (go_at_call 9; refine (speaks_any _).mono ?_; rintro e w6 ⟨rfl, b6⟩; have HB6 := hid (HT5.out.bel.next b6); clear b6)
              go_ret
              exact ⟨rfl, HB6.out⟩
            · have h3 : (r == 306) = false := by simpa using h306
              obtain ⟨r', B2, S2, hP2, hC2⟩ := put_t2 (i := 0) sn st' HT5.out HVa.out.hw HVa.out.fw (by decide) (by omega)
              have hsame := put_same HVa.out.hv HVa.out.f0 HVa.out.hw HVa.out.fw (by omega) HVa.out.nw HP.out hP2 h306
              subst hsame
              have HP2 := hid hP2
              have HC2 := hid hC2
              have HG := hid HP.out.grow.2
              clear hC2 hP2 h306
              go_wp2_with (go_at_call 11; fail)
              refine HC2.out.mono ?_
              rintro e w6 ⟨rfl, htv, _⟩
              have HT6 := hid htv
              clear htv
              go_wp2
              go_roundw
              case rel => exact ⟨j + 1, B1, B2, _, T, by go_num, by omega, by have := HG.out; omega, by omega, HT6.out, HP.out.ti, HP.out.fd, HP.out.oth 1 (by decide) (by decide) T HVa.out.f1, HP2.out.ti, HP2.out.fd, fun z h1 h2 => HP2.out.non HVa.out.hw h2 (by omega) (HVa.out.nw z h1 h2)⟩
              case measure => simp [intOf]; omega
          · have hkd : decide (sk < 2) = false := decide_eq_false hk
            obtain ⟨B1, S1, hP, hC⟩ := take_t1 (i := 0) sn HVa.out.tv HVa.out.hv HVa.out.f0 (by decide) (by omega)
            have HP := hid hP
            have HCp := hid hC
            have HG := hid hP.grow.2
            clear hC hP
            go_wp2_with (go_at_call 13; fail)
            refine HCp.out.mono ?_
            rintro e w5 ⟨rfl, htv, k40⟩
            have HT5 := hid htv
            have HB5 := hid (HB4.out.kt k40)
            clear htv k40 d0 d1 d2 d3 hrbl
            obtain ⟨d0, d1, d2, d3⟩ := HB5.out.cells
            have hrbl := lt_of_block HB5.out
            simp only at d0 d1 d2 d3
            obtain ⟨B2, S2, hP2, hC2⟩ := take_t2 (i := 0) sn HT5.out HVa.out.hw HVa.out.fw (by decide) (by omega)
            have hsame := take_same HP.out hP2
            subst hsame
            have HP2 := hid hP2
            have HC2 := hid hC2
            clear hC2 hP2
            go_wp2_with (go_at_call 13; fail)
            refine HC2.out.mono ?_
            rintro e w6 ⟨rfl, htv, _⟩
            have HT6 := hid htv
            clear htv
            go_wp2
            go_roundw
            case rel => exact ⟨j + 1, B1, B2, _, T, by go_num, by omega, by have := HG.out; omega, by omega, HT6.out, HP.out.ti, HP.out.fd, HP.out.oth 1 (by decide) (by decide) T HVa.out.f1, HP2.out.ti, HP2.out.fd, fun z h1 h2 => HP2.out.non HVa.out.hw h2 (by omega) (HVa.out.nw z h1 h2)⟩
            case measure => simp [intOf]; omega
        · by_cases hd1 : sd = 1
          · subst hd1
            by_cases hk : sk < 2
            · have hkd : decide (sk < 2) = true := decide_eq_true hk
              obtain ⟨r, B1, S1, hP, hC⟩ := put_t1 (i := 1) sn st' HVa.out.tv HVa.out.hv HVa.out.f1 (by decide) (by omega)
              have HP := hid hP
              have HCp := hid hC
              clear hC hP
              go_wp2_with (go_at_call 11; fail)
              refine HCp.out.mono ?_
              rintro e w5 ⟨rfl, htv, k40⟩
              have HT5 := hid htv
              have HB5 := hid (HB4.out.kt k40)
              clear htv k40 d0 d1 d2 d3 hrbl
              obtain ⟨d0, d1, d2, d3⟩ := HB5.out.cells
              have hrbl := lt_of_block HB5.out
              simp only at d0 d1 d2 d3
              by_cases h306 : r = 306
              · have h3 : (r == 306) = true := by simpa using h306
                go_wp2_with (go_at_call 9; refine (speaks_any _).mono ?_; rintro e w6 ⟨rfl, b6⟩; have HB6 := hid (HT5.out.bel.next b6); clear b6)
                go_ret
                exact ⟨rfl, HB6.out⟩
              · have h3 : (r == 306) = false := by simpa using h306
                have HG := hid HP.out.grow.2
                clear h306
                go_wp2
                go_roundw
                case rel => exact ⟨j + 1, B1, B', S, S1, by go_num, by omega, by omega, by have := HG.out; omega, HT5.out, HP.out.ti, HP.out.oth 0 (by decide) (by decide) S HVa.out.f0, HP.out.fd, HVa.out.hw, HVa.out.fw, HVa.out.nw⟩
                case measure => simp [intOf]; omega
            · have hkd : decide (sk < 2) = false := decide_eq_false hk
              obtain ⟨B1, S1, hP, hC⟩ := take_t1 (i := 1) sn HVa.out.tv HVa.out.hv HVa.out.f1 (by decide) (by omega)
              have HP := hid hP
              have HCp := hid hC
              have HG := hid hP.grow.2
              clear hC hP
              go_wp2_with (go_at_call 13; fail)
              refine HCp.out.mono ?_
              rintro e w5 ⟨rfl, htv, k40⟩
              have HT5 := hid htv
              have HB5 := hid (HB4.out.kt k40)
              clear htv k40 d0 d1 d2 d3 hrbl
              obtain ⟨d0, d1, d2, d3⟩ := HB5.out.cells
              have hrbl := lt_of_block HB5.out
              simp only at d0 d1 d2 d3
              go_wp2
              go_roundw
              case rel => exact ⟨j + 1, B1, B', S, S1, by go_num, by omega, by omega, by have := HG.out; omega, HT5.out, HP.out.ti, HP.out.oth 0 (by decide) (by decide) S HVa.out.f0, HP.out.fd, HVa.out.hw, HVa.out.fw, HVa.out.nw⟩
              case measure => simp [intOf]; omega
          · have e0 : (sd != 0) = true := by simpa using hd0
            have e1 : (sd != 1) = true := by simpa using hd1
            go_wp2
            go_roundw
            case rel => exact ⟨j + 1, B, B', S, T, by go_num, by omega, by omega, by omega, HVa⟩
            case measure => simp [intOf]; omega
      · have hje : decide ((j : Int) < (n : Int)) = false := decide_eq_false (by omega)
        have HNA := hid (fun (W : World) (h : TV w p q cap p' q' cap' B B' W) => names_t1 h HV.out.hv HV.out.f0)
        have HNB := hid (fun (W : World) (h : TV w p q cap p' q' cap' B B' W) => names_t1 h.swap HV.out.hw HV.out.fw)
        have HFA := hid (fun (W : World) (t : ByteArray) (h : TV w p q cap p' q' cap' B B' W) => find_t1 t h HV.out.hv HV.out.f0)
        have HFB := hid (fun (W : World) (t : ByteArray) (h : TV w p q cap p' q' cap' B B' W) => find_t1 t h.swap HV.out.hw HV.out.fw)
        obtain ⟨SN, hSN⟩ : ∃ SN, SN = sortN (namesL S) := ⟨_, rfl⟩
        rw [← hSN] at HNA HNB
        clear hSN
        go_wp2_with (go_at_call 17; fail)
        refine (HNA.out _ HV.out.tv).mono ?_
        rintro e w5 ⟨v5, rfl, hr5, hb5⟩
        have HT5 := hid (HV.out.tv.next hb5)
        have HL5 := hid hr5.lie
        obtain ⟨a5, cp5, rfl⟩ := hr5.len
        clear hr5 hb5
        go_wp2_with (go_at_call 17; fail)
        refine (HNB.out _ HT5.out).mono ?_
        rintro e w6 ⟨v6, rfl, hr6, hb6⟩
        have HT6 := hid (HT5.out.next hb6)
        have HL6 := hid hr6.lie
        have HL56 := hid (HL5.out.below hb6)
        obtain ⟨a6, cp6, rfl⟩ := hr6.len
        clear hr6 hb6
        obtain ⟨ns, hns⟩ : ∃ ns, ns = SN.length := ⟨_, rfl⟩
        rw [← hns] at HL6 HL56 ⊢
        have HNS := hid hns
        clear hns
        go_wp2_with (first
          | (go_at_call 21; refine (texts_same HL56.out HL6.out).mono ?_; rintro e w7 ⟨rfl, hb7⟩; have HT7 := hid (HT6.out.next hb7); have HL7 := hid (HL56.out.below hb7); clear hb7))
        obtain ⟨ao7, cap7, e7, hc7, hm7, hl7⟩ := HL7.out
        injection e7 with g1 g2 g3
        subst g1
        clear g2 g3
        have HL := hid hl7
        unfold maxLen at hm7
        clear hl7
        go_loopw [121] (fun ix wx => ∃ i : Nat, ix = .int .i64 (i : Int) ∧ i ≤ ns ∧ Hid (Below w7.heap.size w7 wx)) (fun ix _ => ns - (intOf ix).toNat)
        case atStart => exact ⟨0, rfl, Nat.zero_le _, hid (Below.refl _ _)⟩
        case round =>
          obtain ⟨i, rfl, hi, HX⟩ := hrel
          rename World => wx
          by_cases hil : i < ns
          · have hi' : i < SN.length := by rw [← HNS.out]; exact hil
            obtain ⟨ga, oa, ea, hga, ca⟩ := HL.out i hi'
            subst ea
            obtain ⟨t, ht⟩ : ∃ t, t = SN[i]'hi' := ⟨_, rfl⟩
            rw [← ht] at ca
            have cx := (HX.out.cell (p := ⟨ga, oa + i, none⟩) hga).trans ca
            have hgx : ga < wx.heap.size := Nat.lt_of_lt_of_le hga HX.out.size
            clear ht ca
            have HTx := hid (HT7.out.next HX.out)
            obtain ⟨tk0, htk⟩ : ∃ tk0, tk0 = tkN S t := ⟨_, rfl⟩
            have HA1 := hid (HFA.out _ t HTx.out)
            have HA2 := hid (fun W (h : TV w p q cap p' q' cap' B B' W) => HFB.out W t h)
            obtain ⟨te0, hte⟩ : ∃ te0, te0 = tkE S t := ⟨_, rfl⟩
            rw [← htk, ← hte] at HA1 HA2
            have hne : ((tk0 : Int) != (tk0 : Int)) = false := by simp
            clear htk hte
            go_wp2_with (go_at_call 15; fail)
            refine HA1.out.mono ?_
            rintro e w8 ⟨rfl, hb8⟩
            have HT8 := hid (HTx.out.next hb8)
            have HX8 := hid (HX.out.next hb8)
            clear hb8 cx hgx
            go_wp2_with (go_at_call 15; fail)
            refine (HA2.out _ HT8.out).mono ?_
            rintro e w9 ⟨rfl, hb9⟩
            have HX9 := hid (HX8.out.next hb9)
            clear hb9
            go_wp2
            go_roundw
            case rel => exact ⟨i + 1, by go_num, by omega, HX9⟩
            case measure => simp [intOf]; omega
          · have hie : decide ((i : Int) < (ns : Int)) = false := decide_eq_false (by omega)
            go_wp2_with (go_at_call 9; refine (speaks_any _).mono ?_; rintro e w8 ⟨rfl, b8⟩; have HB8 := hid ((HT7.out.bel.next HX.out).next b8); clear b8)
            go_ret
            exact ⟨rfl, HB8.out⟩
end Go.Proofs.YtokjlgebkihimaaGreat
