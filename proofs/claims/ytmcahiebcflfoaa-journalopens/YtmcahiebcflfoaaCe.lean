import Derived.Test.YtmcahiebcflfoaaKb
import Derived.Test.YtmcahiebcflfoaaTr
import Derived.Test.YtmcahiebcflfoaaTh
namespace Go.Proofs.Ytmcahiebcflfoaa
open Go.RowKit Go.Maps
theorem refEncode_arg (seq : Int) (v : Value) (h : ¬ (1 ≤ seq ∧ seq ≤ 1099511627776)) (w : World) : Calls Try.prog 37 #[.int .i64 seq, v] w fun e w' => e = .returned (.tuple #[.slice none 0 0, .int .i64 1]) ∧ w' = w := by
  by_cases h1 : seq < 1
  · go_enter Try.func37, Try.ntmps37
    go_wp2
    go_ret2
    exact ⟨rfl, rfl⟩
  · have h2 : 1099511627776 < seq := by omega
    go_enter Try.func37, Try.ntmps37
    go_wp2
    go_ret2
    exact ⟨rfl, rfl⟩
theorem refEncode_txn (seq : Int) (v : Value) (l : List Chg) (h : 1 ≤ seq ∧ seq ≤ 1099511627776) (w : World) (hC : CLie w v l) (hr : right l = false) : Calls Try.prog 37 #[.int .i64 seq, v] w fun e w' => e = .returned (.tuple #[.slice none 0 0, .int .i64 70]) ∧ Below w.heap.size w w' := by
  have HC := hid (right_any v l w hC)
  rw [hr] at HC
  obtain ⟨k1, k2⟩ := h
  clear hC hr
  go_enter Try.func37, Try.ntmps37
  go_wp2_with (first
    | (go_at_call 30; refine (HC.out).mono ?_; rintro e w2 ⟨rfl, hb2⟩))
  go_ret2
  exact ⟨rfl, hb2⟩
theorem SRow.one (w : World) (x : ByteArray) : SRow w.heap.size (w.alloc (.cells #[.string x] 9)) (.slice (some ⟨w.heap.size, 0, none⟩) 1 1) [x] :=
  ⟨rfl, .inr ⟨w.heap.size, 1, #[.string x], rfl, Nat.le_refl _, box_at _ _, Nat.le_refl _, by decide, rfl, rfl⟩⟩
set_option maxRecDepth 100000 in
set_option maxHeartbeats 8000000 in
theorem refEncode_ok (n : Nat) (v : Value) (l : List Chg) (h1 : 1 ≤ n) (h2 : n ≤ 1099511627776) (w : World) (hC : CLie w v l) (hr : right l = true) : Calls Try.prog 37 #[.int .i64 n, v] w fun e w' => ∃ v', e = .returned (.tuple #[v', .int .i64 0]) ∧ SLie w' v' (encL n l) ∧ Below w.heap.size w w' := by
  have HR := hid (right_any v l w hC)
  rw [hr] at HR
  have h48 : l.length ≤ 48 := right_len hr
  have HF8 := hid (fun w => refFixed n 8 (by omega) (by decide) w)
  have HF1 := hid (fun w => refFixed l.length 1 (by omega) (by decide) w)
  rw [show ((8 : Nat) : Int) = 8 from rfl] at HF8
  rw [show ((1 : Nat) : Int) = 1 from rfl] at HF1
  have HXX := hid (right_iff.1 hr).2.2
  have HSZ := hid (headL_short (l := l) n (crc (allD (l.map (·.d)))) hr)
  have HEQ := hid (encL_eq n l)
  obtain ⟨x8, hx8⟩ : ∃ x, x = st (fEnc n 8) := ⟨_, rfl⟩
  obtain ⟨x1, hx1⟩ : ∃ x, x = st (fEnc l.length 1) := ⟨_, rfl⟩
  rw [← hx8] at HF8
  rw [← hx1] at HF1
  have s8 : x8.size = 8 := by rw [hx8, st_size, fEnc_len]
  have s1 : x1.size = 1 := by rw [hx1, st_size, fEnc_len]
  have HX8 : Hid (x8.data.toList = fEnc n 8) := by show _ = _; rw [hx8, st_list]
  have HX1 : Hid (x1.data.toList = fEnc l.length 1) := by show _ = _; rw [hx1, st_list]
  clear hx8 hx1 hr
  obtain ⟨ao, cap, rfl, hlc, hcm, hcell⟩ := hC
  have HC := hid hcell
  unfold maxLen at hcm
  clear hcell
  go_enter Try.func37, Try.ntmps37
  go_wp2_with (first
    | (go_at_call 30; refine (HR.out).mono ?_; rintro e w1 ⟨rfl, hb1⟩; have HB1 := hid hb1; clear hb1)
    | (go_at_call 45; have hk := HB2; clear hk; refine (HF1.out _).mono ?_; rintro e w3 ⟨rfl, hb3⟩; have HB3 := hid (HB2.out.next hb3); clear hb3)
    | (go_at_call 45; refine (HF8.out _).mono ?_; rintro e w2 ⟨rfl, hb2⟩; have HB2 := hid (HB1.out.next hb2); clear hb2))
  go_loopw [6, 7, 33] (fun s6 s7 i wr => ∃ (q : Nat) (t a : ByteArray), i = .int .i64 q ∧ q ≤ l.length ∧ s6 = .string t ∧ s7 = .string a ∧ t.data.toList = [84] ++ (fEnc n 8 ++ fEnc l.length 1 ++ plE ((l.take q).map (·.b))) ∧ a.data.toList = allD ((l.take q).map (·.d)) ∧ a.size = 128 * q ∧ Below w.heap.size w wr) (fun _ _ i _ => l.length - (intOf i).toNat)
  case atStart =>
    refine ⟨0, _, _, rfl, Nat.zero_le _, rfl, rfl, ?_, rfl, rfl, HB3.out⟩
    rw [cat_list, cat_list, HX8.out, HX1.out]
    simp [plE]
  case round =>
    obtain ⟨q, t, a, rfl, hq, rfl, rfl, ht, hal, has, hBq⟩ := hrel
    have hts : t.size = 10 + 2 * q := by
      rw [← len_list, ht]
      simp only [List.length_append, fEnc_len, plE_len, List.length_map, List.length_take, List.length_cons, List.length_nil]
      omega
    have HT := hid ht
    have HAL := hid hal
    have HBq := hid hBq
    clear ht hal hBq
    by_cases hqk : q < l.length
    · obtain ⟨gb, off, e, hgl, c0, c1⟩ := HC.out q hqk
      subst e
      have HTK := hid (List.take_succ_eq_append_getElem hqk)
      obtain ⟨y1, y2, y3⟩ := HXX.out _ (List.getElem_mem hqk)
      obtain ⟨c, hc⟩ : ∃ c, c = l[q] := ⟨_, rfl⟩
      rw [← hc] at c0 c1 HTK y1 y2 y3
      clear hc
      obtain ⟨p, hp⟩ : ∃ p : Nat, c.b = (p : Int) := ⟨c.b.toNat, by omega⟩
      rw [hp] at c0 y2
      have HP : Hid (c.b.toNat = p) := by show _ = _; omega
      clear hp y1
      replace c0 := (HBq.out.cell (p := ⟨gb, off + q * 2, none⟩) hgl).trans c0
      replace c1 := (HBq.out.cell (p := ⟨gb, off + q * 2 + 1, none⟩) hgl).trans c1
      have hgr : gb < wr.heap.size := Nat.lt_of_lt_of_le hgl HBq.out.size
      have HF2 := hid (fun w => refFixed p 2 (by omega) (by decide) w)
      rw [show ((2 : Nat) : Int) = 2 from rfl] at HF2
      obtain ⟨x2, hx2⟩ : ∃ x, x = st (fEnc p 2) := ⟨_, rfl⟩
      rw [← hx2] at HF2
      have s2 : x2.size = 2 := by rw [hx2, st_size, fEnc_len]
      have HX2 : Hid (x2.data.toList = fEnc p 2) := by show _ = _; rw [hx2, st_list]
      clear hx2
      have HV := hid (box_at wr (.cells #[.int .i64 (p : Int), .string c.d] 68))
      go_wp2_with (first
        | (go_at_call 45; refine (HF2.out _).mono ?_; rintro e w5 ⟨rfl, hb5⟩
           have HV5 := hid ((hb5.block _ (lt_of_block HV.out)).trans HV.out)
           obtain ⟨q0, q1⟩ := two_cells HV5.out
           have hl5 := lt_of_block HV5.out
           have HB5 := hid (HBq.out.next ((below_alloc _ _).next hb5))
           clear hb5))
      go_roundw
      case rel =>
        refine ⟨q + 1, _, _, by go_num, by omega, rfl, rfl, ?_, ?_, ?_, HB5.out⟩
        · rw [cat_list, HT.out, HX2.out, HTK.out, List.map_append, List.map_cons, List.map_nil, plE_snoc, HP.out]
          simp only [List.append_assoc]
        · rw [cat_list, HAL.out, HTK.out, List.map_append]
          unfold allD
          simp
        · rw [ByteArray.size_append, has, y3]; omega
      case measure => simp [intOf]; omega
    · have hqe : q = l.length := by omega
      subst hqe
      rw [List.take_length] at HT HAL
      have HOF := hid (fun w => refOf a (by unfold maxLen; omega) w)
      rw [HAL.out] at HOF
      obtain ⟨sm, hsm⟩ : ∃ sm, sm = crc (allD (l.map (·.d))) := ⟨_, rfl⟩
      have hsl : sm < 4294967296 := by rw [hsm]; exact crc_lt _
      rw [← hsm] at HOF HSZ
      have HF4 := hid (fun w => refFixed sm 4 (by omega) (by decide) w)
      rw [show ((4 : Nat) : Int) = 4 from rfl] at HF4
      obtain ⟨x4, hx4⟩ : ∃ x, x = st (fEnc sm 4) := ⟨_, rfl⟩
      rw [← hx4] at HF4
      have s4 : x4.size = 4 := by rw [hx4, st_size, fEnc_len]
      obtain ⟨u, hu⟩ : ∃ u, t ++ x4 = u := ⟨_, rfl⟩
      have HUL : Hid (u.data.toList = headL n (l.map (·.b)) sm) := by
        show _ = _
        rw [← hu, cat_list, HT.out, hx4, st_list]
        unfold headL
        simp only [List.length_map, List.append_assoc]
      have HU := hid hu
      have hus : u.size ≤ 122 := by rw [← len_list, HUL.out]; exact HSZ.out
      have HBL := hid (fun w => refBlock u hus w)
      rw [HUL.out] at HBL
      obtain ⟨r, hr⟩ : ∃ r, r = st (sealL (bodyL (headL n (l.map (·.b)) sm))) := ⟨_, rfl⟩
      have HRH : Hid (r = headB n l) := by show _ = _; rw [hr, hsm]; rfl
      rw [← hr] at HBL
      clear hr hu hx4 hsm hus
      go_wp2_with (first
        | (go_at_call 57; refine (HOF.out _).mono ?_; rintro e w5 ⟨rfl, hw⟩; have hw := hw.symm; subst hw)
        | (go_at_call 45; refine (HF4.out _).mono ?_; rintro e w6 ⟨rfl, hb6⟩; have HB6 := hid (HBq.out.next hb6); clear hb6)
        | (go_at_call 44; rw [HU.out]; refine (HBL.out _).mono ?_; rintro e w7 ⟨rfl, hb7⟩; have HB7 := hid (HB6.out.next hb7); clear hb7))
      have HR7 := hid (SRow.one w7 r)
      have HB8 := hid (below_alloc w7 (.cells #[.string r] 9))
      obtain ⟨w8, hw8⟩ : ∃ w8, w8 = w7.alloc (.cells #[.string r] 9) := ⟨_, rfl⟩
      rw [← hw8] at HR7 HB8 ⊢
      clear hw8
      go_loopw [12, 60] (fun ov i wx => ∃ q : Nat, i = .int .i64 q ∧ q ≤ l.length ∧ SRow w7.heap.size wx ov (r :: (l.take q).map (·.d)) ∧ Below w7.heap.size w7 wx) (fun _ i _ => l.length - (intOf i).toNat)
      case atStart => exact ⟨0, rfl, Nat.zero_le _, HR7.out, HB8.out⟩
      case round =>
        rename World => wx
        obtain ⟨q, rfl, hq, hRq, hWq⟩ := hrel
        have HRq := hid hRq
        have HWq := hid hWq
        have hzq := hWq.size
        have HWw := hid (HB7.out.next hWq)
        have hlT : (r :: (l.take q).map (·.d)).length ≤ 100 := by simp; omega
        obtain ⟨oo, ocap, rfl, ho1, ho2⟩ := hRq.len
        unfold maxLen at ho2
        clear hRq hWq
        by_cases hqk : q < l.length
        · obtain ⟨gb, off, e, hgl, c0, c1⟩ := HC.out q hqk
          subst e
          have HTK := hid (List.take_succ_eq_append_getElem hqk)
          obtain ⟨c, hc⟩ : ∃ c, c = l[q] := ⟨_, rfl⟩
          rw [← hc] at c0 c1 HTK
          clear hc
          replace c0 := (HWw.out.cell (p := ⟨gb, off + q * 2, none⟩) hgl).trans c0
          replace c1 := (HWw.out.cell (p := ⟨gb, off + q * 2 + 1, none⟩) hgl).trans c1
          have hgr : gb < wx.heap.size := Nat.lt_of_lt_of_le hgl HWw.out.size
          obtain ⟨S, hS⟩ : ∃ S, S = r :: (l.take q).map (·.d) := ⟨_, rfl⟩
          have HS := hid hS
          rw [← hS] at HRq hlT ho1 ⊢
          clear hS
          have HB9 := hid (below_alloc wx (.cells #[.int .i64 c.b, .string c.d] 68))
          have HR9 := hid (HRq.out.below HB9.out)
          go_wp2_with (first
            | (at_builtin; refine pushS (w0 := wx.alloc (.cells #[.int .i64 c.b, .string c.d] 68)) rfl (.tmp 64) (.tmp 67) rfl w7.heap.size (wx.heap.size + 1) _ S c.d rfl rfl (by simp) HR9.out (by omega) (by simp; omega) ?_; intro v9 w9 hS9 hb9 hk9))
          go_roundw
          case rel =>
            refine ⟨q + 1, by go_num, by omega, ?_, (HWq.out.next HB9.out).trans hb9⟩
            rw [HTK.out, List.map_append, ← List.cons_append, ← HS.out]; exact hS9
          case measure => simp [intOf]; omega
        · have hqe : q = l.length := by omega
          subst hqe
          rw [List.take_length] at HRq ho1 ⊢
          go_wp2
          go_ret2
          refine ⟨_, rfl, ?_, HWw.out⟩
          rw [HEQ.out, ← HRH.out]
          exact HRq.out.lie
end Go.Proofs.Ytmcahiebcflfoaa
