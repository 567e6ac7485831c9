import Derived.Test.YtogiiefaakejlaaSa
namespace Go.Proofs.Ytogiiefaakejlaa
open Go.RowKit Go.Maps

/-- each of a block's size? -/
def blocksB (l : List ByteArray) : Bool := l.all fun b => decide (b.size = 128)
theorem allD_blocks {l : List ByteArray} (h : blocksB l = true) : (allD l).length = l.length * 128 := by
  induction l with
  | nil => rfl
  | cons x r ih =>
    simp only [blocksB, List.all_cons, Bool.and_eq_true, decide_eq_true_eq] at h
    have := ih h.2
    simp only [allD, List.map_cons, List.flatten_cons, List.length_append, List.length_cons] at this ⊢
    rw [this, Array.length_toList]
    have e : x.data.size = 128 := h.1
    omega
theorem blocksB_iff {l : List ByteArray} : blocksB l = true ↔ ∀ i (hi : i < l.length), l[i].size = 128 := by
  simp only [blocksB, List.all_eq_true, decide_eq_true_eq]
  exact ⟨fun h i hi => h _ (List.getElem_mem hi), fun h x hx => by obtain ⟨i, hi, rfl⟩ := List.getElem_of_mem hx; exact h i hi⟩
theorem part_blocks {l : List ByteArray} (h : blocksB l = true) (i : Nat) : blocksB (part l i) = true := by
  rw [blocksB, List.all_eq_true] at *
  exact fun x hx => h x (List.mem_of_mem_drop (List.mem_of_mem_take hx))
def chunkL (l : List ByteArray) (i : Nat) : Ck := ⟨crc (allD l), l.length, i, st (allD (part l i)), crc (allD (part l i))⟩
/-- a snapshot's chunks -/
def splitL (l : List ByteArray) : List Ck := (List.range ((l.length + 7) / 8)).map (chunkL l)
theorem splitL_len (l : List ByteArray) : (splitL l).length = (l.length + 7) / 8 := by simp [splitL]
theorem splitL_get (l : List ByteArray) (i : Nat) (h : i < (splitL l).length) : (splitL l)[i] = chunkL l i := by simp [splitL]
def splE (l : List ByteArray) : Int := if 1 ≤ l.length ∧ l.length ≤ 1024 then (if blocksB l then 0 else 4) else 1
def splK (l : List ByteArray) : List Ck := if 1 ≤ l.length ∧ l.length ≤ 1024 ∧ blocksB l = true then splitL l else []
theorem KLie.nil (w : World) : KLie w (.slice none 0 0) [] := ⟨none, 0, rfl, Nat.le_refl _, by decide, fun i hi => by simp at hi⟩
theorem KLie.none {w : World} {l : List Ck} (h : l = []) : KLie w (.slice none 0 0) l := by subst h; exact KLie.nil w
set_option maxRecDepth 100000 in
set_option maxHeartbeats 4000000 in
/-- Split -/
theorem split_any {w : World} {v : Value} {l : List ByteArray} (h : SLie w v l) : Calls Try.prog 9 #[v] w fun e w' => ∃ v', e = .returned (.tuple #[v', .int .i64 (splE l)]) ∧ KLie w' v' (splK l) ∧ Below w.heap.size w w' := by
  have H := hid h
  obtain ⟨ao, cap, rfl, hlc, hcm, hcell⟩ := h
  have HC := hid hcell
  obtain ⟨n, hn⟩ : ∃ n, n = l.length := ⟨_, rfl⟩
  have HN := hid hn
  have hn63 : n ≤ 9223372036854775807 := by unfold maxLen at hcm; omega
  by_cases h1 : 1 ≤ n ∧ n ≤ 1024
  · have HSE : Hid (splE l = if blocksB l then 0 else 4) := by show _ = _; unfold splE; rw [if_pos (by omega)]
    have HSK : Hid (splK l = if blocksB l = true then splitL l else []) := by
      show _ = _; unfold splK
      by_cases hb : blocksB l = true
      · rw [if_pos ⟨by omega, by omega, hb⟩, if_pos hb]
      · rw [if_neg (fun q => hb q.2.2), if_neg hb]
    rw [← hn]
    rw [← hn] at hlc H
    clear hcell hn
    obtain ⟨h1a, h1b⟩ := h1
    have hd : decide (1 ≤ (n : Int) ∧ (n : Int) ≤ 1024) = true := by simp; omega
    go_enter Try.func9, Try.ntmps9
    go_wp2_with (go_at_call 23; refine (isTotal_any _ _).mono ?_; rintro e w1 ⟨rfl, hw⟩; have hw := hw.symm; subst hw; rw [hd])
    go_loopw [17] (fun i wr => ∃ j : Nat, j ≤ n ∧ i = .int .i64 j ∧ Hid (∀ q (hq : q < l.length), q < j → l[q].size = 128) ∧ wr = w) (fun i _ => n - (intOf i).toNat)
    case atStart => exact ⟨0, Nat.zero_le _, rfl, fun q _ h => by omega, rfl⟩
    case round =>
      obtain ⟨j, hj, rfl, HA, rfl⟩ := hrel
      by_cases hlt : j < n
      · have hj' : j < l.length := by rw [← HN.out]; exact hlt
        obtain ⟨gb, off, ea, hga, ca⟩ := HC.out j hj'
        subst ea
        obtain ⟨x, hx⟩ : ∃ x, x = l[j]'hj' := ⟨_, rfl⟩
        rw [← hx] at ca
        have HX := hid hx
        clear hx
        by_cases hsz : x.size = 128
        · go_wp2
          go_roundw
          case rel => exact ⟨j + 1, hlt, by simp, fun q hq hqj => by
            by_cases e : q = j
            · subst e; rw [← HX.out]; exact hsz
            · exact HA.out q hq (by omega), by trivial⟩
          case measure => simp [intOf]; omega
        · go_wp2
          go_ret2
          have hb : blocksB l = false := by
            rw [Bool.eq_false_iff]
            intro hb
            exact hsz (by rw [HX.out]; exact blocksB_iff.1 hb j hj')
          refine ⟨_, ?_, KLie.none (by rw [HSK.out, hb]; rfl), Below.refl _ _⟩
          rw [HSE.out, hb]
          rfl
      · have hb : blocksB l = true := blocksB_iff.2 fun i hi => HA.out i hi (by rw [← HN.out] at hi; omega)
        have HBK := hid hb
        have hall : (allD l).length ≤ 140737488355328 := by rw [allD_blocks hb, ← HN.out]; omega
        have HJ := hid (fun (w' : World) (h : SLie w' (.slice ao n cap) l) => join_any h hall (by rw [← HN.out]; omega))
        have HS := hid (sumOf (st (allD l)) (by rw [st_size]; unfold maxLen; omega))
        rw [st_list] at HS
        obtain ⟨C, hC⟩ : ∃ C : Nat, C = (n + 7) / 8 := ⟨_, rfl⟩
        have hCb : 1 ≤ C ∧ C ≤ 128 := by omega
        have hcn : cnt (n : Int) = (C : Int) := by unfold cnt; omega
        have HCN := hid (fun w => count_any (n : Int) (by omega) (by omega) w)
        rw [hcn] at HCN
        obtain ⟨D, hD⟩ : ∃ D, D = st (allD l) := ⟨_, rfl⟩
        obtain ⟨dg, hdg⟩ : ∃ dg : Nat, dg = crc (allD l) := ⟨_, rfl⟩
        rw [← hD] at HJ HS
        rw [← hdg] at HS
        have HDG := hid hdg
        obtain ⟨cs, hmk, hfil⟩ := mkK C (by omega)
        have HFIL := hid hfil
        have HCC := hid hC
        clear hb hall hC hcn hD hdg hfil
        go_wp2_with (go_at_call 25; fail)
        refine (HJ.out _ H.out).mono ?_
        rintro e w1 ⟨rfl, hb1⟩
        have HB1 := hid hb1
        clear hb1
        go_wp2_with (first
          | (go_at_call 24; refine (HS.out _).mono ?_; rintro e w2 ⟨rfl, hw⟩; have hw := hw.symm; subst hw)
          | (go_at_call 26; refine (HCN.out _).mono ?_; rintro e w2 ⟨rfl, hw⟩; have hw := hw.symm; subst hw))
        obtain ⟨w2, hw2⟩ : ∃ w2, w2 = w1.alloc (.cells cs 24) := ⟨_, rfl⟩
        have HF0 := hid (HFIL.out w1 (splitL l))
        rw [← hw2] at HF0 ⊢
        have HB2 : Hid (Below wr.heap.size wr w2) := by
          show Below _ _ _
          rw [hw2]; exact HB1.out.next (below_alloc _ _)
        obtain ⟨g, hg⟩ : ∃ g, g = w1.heap.size := ⟨_, rfl⟩
        rw [← hg] at HF0 ⊢
        have hgw : wr.heap.size ≤ g := by rw [hg]; exact HB1.out.size
        clear hw2 hg hmk
        have hLL : (splitL l).length = C := by rw [splitL_len, ← HN.out, HCC.out]
        have HLL := hid hLL
        clear hLL
        go_loopw [35] (fun i wx => ∃ k : Nat, k ≤ C ∧ i = .int .i64 k ∧ Hid (Below wr.heap.size wr wx) ∧ Hid (Fil 24 g C k wx (splitL l))) (fun i _ => C - (intOf i).toNat)
        case atStart => exact ⟨0, Nat.zero_le _, rfl, HB2, HF0⟩
        case round =>
          obtain ⟨k, hk, rfl, HB, HF⟩ := hrel
          by_cases hkc : k < C
          · have HCUT := hid (fun (w' : World) (h : SLie w' (.slice ao n cap) l) => cut_any h k (by rw [← HN.out]; have := HCC.out; omega) (by rw [← HN.out]; omega))
            have hall : (allD (part l k)).length ≤ 1024 := by rw [allD_blocks (part_blocks HBK.out k), part_len]; omega
            have HJP := hid (fun (w' : World) (v' : Value) (h : SLie w' v' (part l k)) => join_any h (by omega) (by rw [part_len]; omega))
            have HSP := hid (sumOf (st (allD (part l k))) (by rw [st_size]; unfold maxLen; omega))
            rw [st_list] at HSP
            obtain ⟨P, hP⟩ : ∃ P, P = st (allD (part l k)) := ⟨_, rfl⟩
            obtain ⟨pg, hpg⟩ : ∃ pg : Nat, pg = crc (allD (part l k)) := ⟨_, rfl⟩
            rw [← hP] at HJP HSP
            rw [← hpg] at HSP
            have hLk : (splitL l)[k]'(by rw [HLL.out]; exact hkc) = ⟨dg, n, k, P, pg⟩ := by rw [splitL_get, chunkL, ← HDG.out, ← HN.out, ← hP, ← hpg]
            have HLk := hid hLk
            clear hP hpg hall hLk
            go_wp2_with (go_at_call 27; fail)
            refine (HCUT.out _ (H.out.below HB.out)).mono ?_
            rintro e wa ⟨pv, rfl, hpv, hw⟩
            have hw := hw.symm
            subst hw
            have HPV := hid hpv
            clear hpv
            go_wp2_with (go_at_call 25; fail)
            refine (HJP.out _ _ HPV.out).mono ?_
            rintro e w3 ⟨rfl, hb3⟩
            have HB3 := hid hb3
            have HF3 := hid (HF.out.same (hb3.block g HF.out.lt))
            obtain ⟨x0, c0⟩ := HF3.out.get (k * 5) (by omega)
            obtain ⟨x1, c1⟩ := HF3.out.get (k * 5 + 1) (by omega)
            obtain ⟨x2, c2⟩ := HF3.out.get (k * 5 + 2) (by omega)
            obtain ⟨x3, c3⟩ := HF3.out.get (k * 5 + 3) (by omega)
            obtain ⟨x4, c4⟩ := HF3.out.get (k * 5 + 4) (by omega)
            have f0 := HF3.out.free (k * 5)
            have f1 := HF3.out.free (k * 5 + 1)
            have f2 := HF3.out.free (k * 5 + 2)
            have f3 := HF3.out.free (k * 5 + 3)
            have f4 := HF3.out.free (k * 5 + 4)
            clear hb3
            go_wp2_with (go_at_call 24; refine (HSP.out _).mono ?_; rintro e w4 ⟨rfl, hw⟩; have hw := hw.symm; subst hw)
            go_roundw
            case rel =>
              refine ⟨k + 1, hkc, by simp, ?_, ?_⟩
              · have hb := HB.out.next HB3.out
                exact ((((hb.setCell (p := ⟨g, k * 5, none⟩) hgw _).setCell (p := ⟨g, k * 5 + 1, none⟩) hgw _).setCell (p := ⟨g, k * 5 + 2, none⟩) hgw _).setCell (p := ⟨g, k * 5 + 3, none⟩) hgw _).setCell (p := ⟨g, k * 5 + 4, none⟩) hgw _
              · have := HF3.out.set hkc (by rw [HLL.out]; exact hkc)
                rw [HLk.out] at this
                exact this
            case measure => simp [intOf]; omega
          · have hkC : k = C := by omega
            subst hkC
            go_wp2
            go_ret2
            have hl := HF.out.lie HLL.out (by omega)
            refine ⟨.slice (some ⟨g, 0, none⟩) k k, ?_, ?_, HB.out⟩
            · rw [HSE.out, HBK.out]
              rfl
            · rw [HSK.out, if_pos HBK.out]
              exact hl
  · have HSE : Hid (splE l = 1) := by show _ = _; unfold splE; rw [if_neg (by omega)]
    have HSK : Hid (splK l = []) := by show _ = _; unfold splK; rw [if_neg (by omega)]
    rw [← hn]
    have hd : decide (1 ≤ (n : Int) ∧ (n : Int) ≤ 1024) = false := by simp; omega
    clear hcell hn HC h1 H HN hlc hcm
    go_enter Try.func9, Try.ntmps9
    go_wp2_with (go_at_call 23; refine (isTotal_any _ _).mono ?_; rintro e w1 ⟨rfl, hw⟩; have hw := hw.symm; subst hw; rw [hd])
    go_ret2
    refine ⟨_, ?_, KLie.none HSK.out, Below.refl _ _⟩
    rw [HSE.out]
    rfl
end Go.Proofs.Ytogiiefaakejlaa
