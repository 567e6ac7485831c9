import Derived.Test.YtogiiefaakejlaaWa
import Derived.Test.YtogiiefaakejlaaCe
namespace Go.Proofs.Ytogiiefaakejlaa
open Go.RowKit Go.Maps

theorem ext_mid (A B C : List UInt8) : (st (A ++ B ++ C)).extract A.length (A.length + B.length) = st B := by
  apply data_eq
  rw [ByteArray.data_extract, Array.toList_extract, List.extract_eq_take_drop, st_list, st_list, List.append_assoc, List.drop_left]
  rw [Nat.add_sub_cancel_left, List.take_left]
theorem rest_part (l : List ByteArray) (k : Nat) : allD l = allD (l.take (k * 8)) ++ allD (part l k) ++ allD (l.drop ((k + 1) * 8)) := by
  rw [← allD_append, ← take_part, ← allD_append, List.take_append_drop]
theorem ext_part {l : List ByteArray} (h : blocksB l = true) (k : Nat) (hk : k * 8 < l.length) : (st (allD l)).extract (k * 1024) (k * 1024 + (part l k).length * 128) = st (allD (part l k)) := by
  have h1 : (allD (l.take (k * 8))).length = k * 1024 := by
    have hb : blocksB (l.take (k * 8)) = true := by
      rw [blocksB, List.all_eq_true] at *
      exact fun x hx => h x (List.mem_of_mem_take hx)
    rw [allD_blocks hb, List.length_take]
    omega
  have h2 := allD_blocks (part_blocks h k)
  rw [rest_part l k, ← h2, ← h1]
  exact ext_mid _ _ _
theorem splitL_take (l : List ByteArray) (k : Nat) (h : k < (splitL l).length) : (splitL l).take (k + 1) = (splitL l).take k ++ [chunkL l k] := by
  rw [List.take_succ_eq_append_getElem h, splitL_get]
theorem one_ck (c : Ck) : ∀ u ∈ Ck.cs c, u.oneCell' = true := by
  intro u hu
  simp [Ck.cs] at hu
  rcases hu with rfl | rfl | rfl | rfl | rfl <;> rfl
def lenV : Value → Nat
  | .slice _ n _ => n
  | _ => 0
theorem KRow.none {base : Nat} {w : World} {l : List Ck} (h : l = []) : KRow base w (.slice Option.none 0 0) l := by subst h; exact KRow.nil _ _
set_option maxRecDepth 100000 in
set_option maxHeartbeats 4000000 in
/-- the document's Split -/
theorem rsplit_any {w : World} {v : Value} {l : List ByteArray} (h : SLie w v l) : Calls Try.prog 10 #[v] w fun e w' => ∃ v', e = .returned (.tuple #[v', .int .i64 (splE l)]) ∧ KRow w.heap.size w' v' (splK l) ∧ Below w.heap.size w w' := by
  have H := hid h
  obtain ⟨ao, cap, rfl, hlc, hcm, hcell⟩ := h
  have HC := hid hcell
  obtain ⟨n, hn⟩ : ∃ n, n = l.length := ⟨_, rfl⟩
  have HN := hid hn
  have hn63 : n ≤ 9223372036854775807 := by unfold maxLen at hcm; omega
  by_cases h1 : 1 ≤ n ∧ n ≤ 1024
  · have HSE : Hid (splE l = if blocksB l then 0 else 4) := by show _ = _; unfold splE; rw [if_pos (by omega)]
    have HSK : Hid (splK l = if blocksB l = true then splitL l else []) := by
      show _ = _; unfold splK
      by_cases hb : blocksB l = true
      · rw [if_pos ⟨by omega, by omega, hb⟩, if_pos hb]
      · rw [if_neg (fun q => hb q.2.2), if_neg hb]
    rw [← hn]
    rw [← hn] at hlc H
    clear hcell hn
    obtain ⟨h1a, h1b⟩ := h1
    have hd1 : decide ((n : Int) < 1) = false := by simp; omega
    have hd2 : decide ((n : Int) > 1024) = false := by simp; omega
    go_enter Try.func10, Try.ntmps10
    go_wp2
    go_loopw [4, 22] (fun s i wr => ∃ j : Nat, j ≤ n ∧ i = .int .i64 j ∧ s = .string (st (allD (l.take j))) ∧ Hid ((allD (l.take j)).length = j * 128) ∧ Hid (∀ q (hq : q < l.length), q < j → l[q].size = 128) ∧ wr = w) (fun _ i _ => n - (intOf i).toNat)
    case atStart => exact ⟨0, Nat.zero_le _, rfl, rfl, rfl, fun q _ h => by omega, rfl⟩
    case round =>
      obtain ⟨j, hj, rfl, rfl, HAL, HA, rfl⟩ := hrel
      rename World => w0
      by_cases hlt : j < n
      · have hj' : j < l.length := by rw [← HN.out]; exact hlt
        obtain ⟨gb, off, ea, hga, ca⟩ := HC.out j hj'
        subst ea
        have HTK : Hid (allD (l.take (j + 1)) = allD (l.take j) ++ (l[j]'hj').data.toList) := by
          show _ = _
          rw [List.take_succ_eq_append_getElem hj', allD_append]
          simp [allD]
        obtain ⟨x, hx⟩ : ∃ x, x = l[j]'hj' := ⟨_, rfl⟩
        rw [← hx] at ca HTK
        have HX := hid hx
        obtain ⟨A, hA⟩ : ∃ A, A = allD (l.take j) := ⟨_, rfl⟩
        rw [← hA] at HTK HAL ⊢
        have hsA : (st A).size = j * 128 := by rw [st_size]; exact HAL.out
        clear hx hA
        by_cases hsz : x.size = 128
        · have hcat : (st A).size + x.size ≤ 1000000 := by omega
          go_wp2
          go_roundw
          case rel =>
            refine ⟨j + 1, hlt, by simp, ?_, ?_, fun q hq hqj => ?_, by trivial⟩
            · rw [HTK.out, ← st_append, st_toList]
            · show _ = _
              rw [HTK.out, List.length_append, HAL.out, Array.length_toList]
              have : x.data.size = 128 := hsz
              omega
            · by_cases e : q = j
              · subst e; rw [← HX.out]; exact hsz
              · exact HA.out q hq (by omega)
          case measure => simp [intOf]; omega
        · go_wp2
          go_ret2
          have hb : blocksB l = false := by
            rw [Bool.eq_false_iff]
            intro hb
            exact hsz (by rw [HX.out]; exact blocksB_iff.1 hb j hj')
          refine ⟨_, ?_, KRow.none (by rw [HSK.out, hb]; rfl), Below.refl _ _⟩
          rw [HSE.out, hb]
          rfl
      · have hb : blocksB l = true := blocksB_iff.2 fun i hi => HA.out i hi (by rw [← HN.out] at hi; omega)
        have HBK := hid hb
        have hall := allD_blocks hb
        rw [← HN.out] at hall
        have HTA : Hid (l.take j = l) := List.take_of_length_le (by rw [← HN.out]; omega)
        rw [HTA.out]
        have HS := hid (refOf (st (allD l)) (by rw [st_size]; unfold maxLen; omega))
        rw [st_list] at HS
        have hssz : (st (allD l)).size = n * 128 := by rw [st_size]; exact hall
        have HEX := hid (fun k hk => ext_part hb k hk)
        obtain ⟨D, hD⟩ : ∃ D, D = st (allD l) := ⟨_, rfl⟩
        obtain ⟨dg, hdg⟩ : ∃ dg : Nat, dg = crc (allD l) := ⟨_, rfl⟩
        rw [← hD] at HS hssz HEX ⊢
        rw [← hdg] at HS
        have HDG := hid hdg
        obtain ⟨C, hC⟩ : ∃ C : Nat, C = (n + 7) / 8 := ⟨_, rfl⟩
        have HCC := hid hC
        have hLL : (splitL l).length = C := by rw [splitL_len, ← HN.out, HCC.out]
        have HLL := hid hLL
        have hCb : 1 ≤ C ∧ C ≤ 128 := by omega
        clear hb hall hD hdg hC hLL HAL HA HTA
        go_wp2_with (go_at_call 28; refine (HS.out _).mono ?_; rintro e w2 ⟨rfl, hw⟩; have hw := hw.symm; subst hw)
        go_loopw [7, 9] (fun s a wx => ∃ k at' : Nat, k ≤ C ∧ a = .int .i64 at' ∧ (k < C → at' = k * 1024) ∧ lenV s = k ∧ at' ≤ 200000 ∧ Hid (KRow w0.heap.size wx s ((splitL l).take k)) ∧ Hid (Below w0.heap.size w0 wx)) (fun s _ _ => C - lenV s)
        case atStart => exact ⟨0, 0, Nat.zero_le _, rfl, fun _ => rfl, rfl, by omega, KRow.nil _ _, Below.refl _ _⟩
        case round =>
          obtain ⟨k, at', hk, rfl, hat, hlv, hab, HR, HB⟩ := hrel
          obtain ⟨so, sc, rfl, hs1, hs2⟩ := HR.out.len
          have htl : ((splitL l).take k).length = k := by rw [List.length_take, HLL.out]; omega
          rw [htl] at hs1 hlv ⊢
          have HM := hid (many_any (n : Int) (k : Int))
          have HTL := hid htl
          clear htl
          by_cases hkc : k < C
          · have hk8 : k * 8 < n := by have := HCC.out; omega
            have hat1 := hat hkc
            subst hat1
            obtain ⟨P, hP⟩ : ∃ P, P = (part l k).length := ⟨_, rfl⟩
            have hPb : 1 ≤ P ∧ P ≤ 8 ∧ k * 8 + P ≤ n := by rw [hP, part_len, ← HN.out]; omega
            have hmn : many (n : Int) (k : Int) = (P : Int) := by
              have h2 := part_len l k
              rw [← hP, ← HN.out] at h2
              unfold many
              rw [if_pos (by omega)]
              omega
            rw [hmn] at HM
            have HMP : Hid (k + 1 < C → P = 8) := by
              intro q
              have := HCC.out
              rw [hP, part_len, ← HN.out]
              omega
            have hex := HEX.out k (by rw [← HN.out]; exact hk8)
            rw [← hP] at hex
            have hpl : (allD (part l k)).length ≤ 1024 := by rw [allD_blocks (part_blocks HBK.out k), part_len]; omega
            have HSP := hid (refOf (st (allD (part l k))) (by rw [st_size]; unfold maxLen; omega))
            rw [st_list] at HSP
            have HTK := hid (splitL_take l k (by rw [HLL.out]; exact hkc))
            have hck : chunkL l k = ⟨dg, n, k, st (allD (part l k)), crc (allD (part l k))⟩ := by unfold chunkL; rw [← HDG.out, ← HN.out]
            rw [hck] at HTK
            obtain ⟨S, hS⟩ : ∃ S, S = st (allD (part l k)) := ⟨_, rfl⟩
            obtain ⟨pg, hpg⟩ : ∃ pg : Nat, pg = crc (allD (part l k)) := ⟨_, rfl⟩
            rw [← hS] at HSP HTK hex
            rw [← hpg] at HSP HTK
            have HEXT := hid hex
            clear hP hmn hex hpl hck hS hpg hat
            go_wp2_with (go_at_call 29; refine (HM.out _).mono ?_; rintro e w2 ⟨rfl, hw⟩; have hw := hw.symm; subst hw)
            rw [show k * 1024 + 128 * P = k * 1024 + P * 128 by omega, HEXT.out]
            refine (HSP.out _).mono ?_
            rintro e w2 ⟨rfl, hw⟩
            have hw := hw.symm
            subst hw
            have hsz := HB.out.size
            go_wp2_with (at_builtin; refine pushK rfl (.tmp 53) (.tmp 63) rfl w0.heap.size _ _ ((splitL l).take k) ⟨dg, n, k, S, pg⟩ rfl rfl rfl (by have := HR.out; rw [HTL.out] at this; exact this) (one_ck _) (by rw [HTL.out]; omega) hsz ?_; intro v' w3 hv3 hb3 _ _; have HV3 := hid hv3; have HB3 := hid hb3; clear hv3 hb3)
            obtain ⟨ao3, cap3, rfl, hd1, hd2⟩ := HV3.out.len
            have hl3 : ((splitL l).take k ++ [(⟨dg, n, k, S, pg⟩ : Ck)]).length = k + 1 := by rw [List.length_append, HTL.out]; rfl
            rw [hl3] at hd1 ⊢
            have HL3 := hid hl3
            clear hl3
            go_wp2
            go_roundw
            case rel =>
              refine ⟨k + 1, k * 1024 + 128 * P, hkc, by go_num, fun q => ?_, rfl, by omega, ?_, ?_⟩
              · have := HCC.out; have := HMP.out; omega
              · show KRow _ _ _ _
                rw [HTK.out, ← HL3.out]
                exact HV3.out
              · exact HB.out.trans HB3.out
            case measure => simp [lenV]; omega
          · have hkC : k = C := by omega
            subst hkC
            have hmn : many (n : Int) (k : Int) = 0 := by
              have := many_pos (n : Int) (k : Int)
              have h2 := many_le (n : Int) (k : Int)
              have h3 : ¬ (k : Int) < cnt (n : Int) := by have := HCC.out; unfold cnt; omega
              have h4 : ¬ 0 < many (n : Int) (k : Int) := fun q => h3 (this.1 q).2.2.2
              omega
            rw [hmn] at HM
            clear hmn hat
            go_wp2_with (go_at_call 29; refine (HM.out _).mono ?_; rintro e w2 ⟨rfl, hw⟩; have hw := hw.symm; subst hw)
            go_ret2
            refine ⟨.slice so k sc, ?_, ?_, HB.out⟩
            · rw [HSE.out, HBK.out]; rfl
            · rw [HSK.out, if_pos HBK.out]
              have := HR.out
              rw [List.take_of_length_le (by rw [HLL.out]; omega)] at this
              rw [HLL.out] at this
              exact this
  · have HSE : Hid (splE l = 1) := by show _ = _; unfold splE; rw [if_neg (by omega)]
    have HSK : Hid (splK l = []) := by show _ = _; unfold splK; rw [if_neg (by omega)]
    rw [← hn]
    clear hcell hn HC H HN hlc hcm
    by_cases h2 : n < 1
    · have hd1 : decide ((n : Int) < 1) = true := by simp; omega
      go_enter Try.func10, Try.ntmps10
      go_wp2
      go_ret2
      refine ⟨_, ?_, KRow.none HSK.out, Below.refl _ _⟩
      rw [HSE.out]
      rfl
    · have hd1 : decide ((n : Int) < 1) = false := by simp; omega
      have hd2 : decide ((n : Int) > 1024) = true := by simp; omega
      go_enter Try.func10, Try.ntmps10
      go_wp2
      go_ret2
      refine ⟨_, ?_, KRow.none HSK.out, Below.refl _ _⟩
      rw [HSE.out]
      rfl
end Go.Proofs.Ytogiiefaakejlaa
