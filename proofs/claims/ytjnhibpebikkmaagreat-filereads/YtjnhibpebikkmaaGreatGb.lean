import Derived.Test.YtjnhibpebikkmaaGreatGa
namespace Go.Proofs.YtjnhibpebikkmaaGreat
open Go.RowKit Go.Maps Go.Shelf

theorem chgL_mem {F B : List ByteArray} (c : Chg) : c ∈ chgL F B ↔ ∃ b : Nat, b < B.length ∧ c = ⟨(b : Int), bk B b⟩ ∧ bk F b ≠ bk B b := by
  unfold chgL
  rw [List.mem_filterMap]
  constructor
  · rintro ⟨b, hb, h⟩
    rw [List.mem_range] at hb
    split at h
    · cases h
    · rename_i hne
      cases h
      exact ⟨b, hb, rfl, hne⟩
  · rintro ⟨b, hb, rfl, hne⟩
    exact ⟨b, List.mem_range.2 hb, by rw [if_neg hne]⟩
theorem chgL_rise (F B : List ByteArray) : Rise (chgL F B) := by
  unfold chgL Rise
  rw [List.pairwise_filterMap]
  refine List.Pairwise.imp ?_ (List.pairwise_lt_range (n := B.length))
  intro a b hab x hx y hy
  split at hx
  · cases hx
  · split at hy
    · cases hy
    · cases hx; cases hy
      show (a : Int) < (b : Int)
      omega
/-- the map of a view holds its changes -/
theorem Diff.eq {F B : List ByteArray} {M : List Chg} (h : Diff F B M) (hr : Rise M) : M = chgL F B := Um.rise_unique hr (chgL_rise F B) (fun x => (h x).trans (chgL_mem x).symm)
theorem keysRow {base n : Nat} {v : Value} {news : List Value} {w : World} (h : w.ownsRow base 3 1 v n news) (hn : 0 < n) : ∃ g cap cur fz, v = .slice (some ⟨g, 0, none⟩) n cap ∧ base ≤ g ∧ w.heap[g]? = some (.cells cur 3 fz) ∧ ∀ i (hi : i < news.length), w.cell? ⟨g, i, none⟩ = some news[i] := by
  have hh := h
  obtain ⟨e1, ⟨rfl, e2⟩ | ⟨g, cap, cur, rfl, e3, e4, e5⟩⟩ := h
  · omega
  · refine ⟨g, cap, cur, _, rfl, e3, e4, fun i hi => ?_⟩
    have := hh.cellAt i (by rw [e1] at hi; omega)
    simpa [hi] using this
theorem keysNil {base : Nat} {v : Value} {news : List Value} {w : World} (h : w.ownsRow base 3 1 v 0 news) : ∃ ao cap, v = .slice ao 0 cap := by
  obtain ⟨e1, ⟨rfl, e2⟩ | ⟨g, cap, cur, rfl, e3, e4, e5⟩⟩ := h
  · exact ⟨none, 0, rfl⟩
  · exact ⟨_, cap, rfl⟩
theorem CRow.block {base : Nat} {w : World} {v : Value} {l : List Chg} (h : CRow base w v l) {x : Nat} (hx : v.ownBlock = some x) : ∃ cur fz, w.heap[x]? = some (.cells cur 75 fz) := by
  obtain ⟨e1, ⟨rfl, _⟩ | ⟨y, cap, cur, rfl, e4, e5, e6⟩⟩ := h
  · cases hx
  · cases hx; exact ⟨cur, _, e5⟩
set_option maxRecDepth 100000 in
set_option maxHeartbeats 2000000 in
theorem changes_any {G : Geo} {p q cap m : Nat} {w : World} {F B : List ByteArray} (h : VI G p q cap m w F B) : Calls Tryz.prog 10 #[.pointer (some ⟨p, 0, none⟩)] w fun e w' => ∃ v, e = .returned v ∧ CLie w' v (chgL F B) ∧ Below w.heap.size w w' := by
  have HV := hid h
  obtain ⟨M, hM, hD⟩ := h.map
  have hMe := hD.eq hM.rise
  have hMl : M.length ≤ 1024 := by have := hD.len hM.rise; have := h.bl; have := h.ok.n1; omega
  rw [← hMe]
  have HR := hid hM.rise
  have HN := hid (fun w' (hv : VI G p q cap m w' F B) => vnone_any (w := w') hv)
  have HB0 := hid (below_alloc w (.cells #[] 75))
  have HV0 := hid (h.below HB0.out)
  have HM0 := hid (hM.same (HB0.out.block m h.ml))
  have HK := hid (keys_call (some m) (w.alloc (.cells #[] 75)))
  have HS := hid (sorted_call HM0.out hMl)
  have c7 : (w.alloc (.cells #[] 75)).cell? ⟨p, 7, none⟩ = some (.map (some m)) := (HV0.out.cell 7).trans rfl
  have HL0 := hid (CRow.empty w.heap.size w (Nat.le_refl _))
  have HMe := hid hMe
  have HMm := hid (fun (w' : World) (hm : w'.heap[m]? = w.heap[m]?) => hM.same hm)
  have hml := h.ml
  clear h hM hD hMe
  go_enter Tryz.func10, Tryz.ntmps10
  go_wp2_with (go_at_call 26; fail)
  obtain ⟨w0, hw0⟩ : ∃ w0, w0 = w.alloc (.cells #[] 75) := ⟨_, rfl⟩
  rw [← hw0] at HB0 HV0 HM0 HK HS c7 HL0 ⊢
  have HS0 : Hid (w0.heap.size = w.heap.size + 1) := by rw [hw0]; exact hid (by simp)
  clear hw0
  go_wp2_with (first
    | (go_at_call 26; refine (HN.out _ HV0.out).mono ?_; rintro e w1 ⟨rfl, hw⟩; have hw := hw.symm; subst hw)
    | (go_at_call 28; refine HK.out.mono ?_; rintro e w1 ⟨rfl, hw⟩; have hw := hw.symm; subst hw)
    | (go_at_call 27; fail))
  refine HS.out.mono ?_
  rintro e w5 ⟨v5, rfl, hrow, hb5⟩
  have hs0 := HS0.out
  have HB5 : Hid (Below w0.heap.size w0 w5) := hid ((below_alloc w0 _).trans (hb5.mono (by omega)))
  have HBw := hid (HB0.out.trans (HB5.out.mono (by omega)))
  have HL5 := hid (HL0.out.below HB5.out)
  clear HK HS c7 HL0 HM0 HV0 HB0 hb5 hs0
  by_cases h0 : M.length = 0
  · have hnil : M = [] := List.eq_nil_of_length_eq_zero h0
    subst hnil
    obtain ⟨ao, cp, rfl⟩ := keysNil hrow
    clear hrow
    go_wp2
    refine wp_loop_rounds 1 ?_
    rw [rounds_succ]
    go_wp2
    go_ret
    exact ⟨_, rfl, cc_lie HL5.out, HBw.out⟩
  · obtain ⟨gk, ck, cur, fz, rfl, hgk, hobj, hcell⟩ := keysRow hrow (by omega)
    have HOBJ := hid hobj
    have HCELL := hid hcell
    have HGK := hid hgk
    clear hrow hobj hcell hgk
    go_wp2
    go_loopw [3, 17] (fun lv iv wr => ∃ j : Nat, iv = .int .i64 (j : Int) ∧ j ≤ M.length ∧ CRow w.heap.size wr lv (M.take j) ∧ Below w.heap.size w wr ∧ wr.heap[gk]? = w5.heap[gk]?) (fun _ iv _ => M.length - (intOf iv).toNat)
    case atStart => exact ⟨0, rfl, Nat.zero_le _, HL5.out, HBw.out, rfl⟩
    case round =>
      obtain ⟨j, rfl, hj, hrw, hbw, hgw⟩ := hrel
      have HRW := hid hrw
      have HBW := hid hbw
      have HGW := hid hgw
      obtain ⟨ao, cl, rfl, _, _⟩ := hrw.len
      clear hrw hbw hgw
      by_cases hjl : j < M.length
      · obtain ⟨cj, hcj⟩ : ∃ cj, cj = M[j] := ⟨_, rfl⟩
        have hmem : cj ∈ M := by rw [hcj]; exact List.getElem_mem hjl
        have hky : wr.cell? ⟨gk, j, none⟩ = some (.int .i64 cj.b) := by
          rw [cell_same HGW.out, HCELL.out j (by simpa using hjl), hcj]
          simp
        have hVr := HV.out.below HBW.out
        have c7 : wr.cell? ⟨p, 7, none⟩ = some (.map (some m)) := (hVr.cell 7).trans rfl
        have hlk := (HMm.out wr (HBW.out.block m hml)).look1 cj hmem
        have hpl := hVr.pl
        have hgl : gk < wr.heap.size := by
          have := HGW.out; rw [HOBJ.out] at this; exact lt_of_block this
        simp only [valC] at hlk
        have HTK : Hid (M.take (j + 1) = M.take j ++ [cj]) := hid (by rw [List.take_succ_eq_append_getElem hjl, hcj])
        clear hcj hmem hVr
        go_wp2_with (first
          | (refine pushC rfl (.tmp 21) (.tmp 28) rfl w.heap.size wr.heap.size _ (M.take j) cj rfl rfl rfl HRW.out (by simp; omega) HBW.out.size ?_
             intro v' w7 hrw7 hbw7 hfr7
             have HR7 := hid hrw7
             have HB7 := hid hbw7
             have HF7 := hid hfr7
             clear hrw7 hbw7 hfr7))
        go_roundw
        case rel =>
          refine ⟨j + 1, by go_num, by omega, ?_, HBW.out.trans HB7.out, ?_⟩
          · rw [HTK.out]; exact HR7.out
          · refine (HF7.out gk hgl ?_).trans HGW.out
            intro e
            obtain ⟨cur2, fz2, hx⟩ := HRW.out.block e.symm
            have := HGW.out
            rw [HOBJ.out, hx] at this
            cases this
        case measure => simp only [intOf] at *; omega
      · have hje : j = M.length := by omega
        subst hje
        go_wp2
        go_ret
        have k := cc_lie HRW.out
        have e : M.take M.length = M := List.take_of_length_le (Nat.le_refl _)
        refine ⟨.slice ao (M.take M.length).length cl, rfl, ?_, HBW.out⟩
        rw [e] at k ⊢
        exact k
end Go.Proofs.YtjnhibpebikkmaaGreat
