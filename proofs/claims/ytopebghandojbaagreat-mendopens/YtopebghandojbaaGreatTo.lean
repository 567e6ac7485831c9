import Derived.Test.YtopebghandojbaaGreatTn
import Derived.Deep.RegionHeld3
namespace Go.Proofs.YtopebghandojbaaGreat
open Go.RowKit
def zeroH : Value := .agg #[.int .i64 0, .slice none 0 0, .int .i64 0]
theorem unV_size (b : ByteArray) : (unV b).1.size ≤ b.size := by
  unfold unV
  split
  · exact Nat.zero_le _
  · split
    · exact Nat.zero_le _
    · split
      · exact Nat.zero_le _
      · split
        · exact Nat.zero_le _
        · show (b.extract _ _).size ≤ _
          rw [ByteArray.size_extract]
          omega
theorem cut_any (t : ByteArray) (hs : t.size ≤ maxLen) : ∃ n m, (∀ w, Calls Tryz.prog 95 #[.string t, .string tS] w fun e w' => e = .returned (.tuple #[.string n, .bool m]) ∧ w' = w) ∧ (m = true ↔ isT t) := by
  by_cases h : isT t
  · exact ⟨_, _, cut_yes t hs h, ⟨fun _ => h, fun _ => rfl⟩⟩
  · exact ⟨_, _, cut_no t hs h, ⟨fun k => (by cases k), fun k => absurd k h⟩⟩
theorem var_a {w w5 : World} {o : Obj} (h : Below (w.alloc o).heap.size (w.alloc o) w5) : w5.heap[w.heap.size]? = some o :=
  (h.block _ (by show _ < (w.heap.push o).size; simp)).trans (by show (w.heap.push o)[_]? = _; simp)
theorem setB3 {w0 w : World} {g : Nat} (h : Below w0.heap.size w0 w) (hg : w0.heap.size ≤ g) (a b c : Value) : Below w0.heap.size w0 (((w.setCell ⟨g, 0, none⟩ a).setCell ⟨g, 1, none⟩ b).setCell ⟨g, 2, none⟩ c) := ((h.setCell hg _).setCell hg _).setCell hg _
set_option maxRecDepth 100000 in
set_option maxHeartbeats 1000000 in
theorem head_no (b : ByteArray) (hb : b.size ≤ 150000000000000) (h : ¬ ((unV b).2 = 0 ∧ isT (unV b).1)) (w : World) : Calls Tryz.prog 130 #[.string b] w fun e w' => e = .returned (.tuple #[zeroH, .bool false]) ∧ Below w.heap.size w w' := by
  have HU := hid (fun w => unblock_any b hb w)
  obtain ⟨n, m, hC, hm⟩ := cut_any (unV b).1 (by have := unV_size b; unfold maxLen; omega)
  have HC := hid hC
  obtain ⟨t, ht⟩ : ∃ t, t = (unV b).1 := ⟨_, rfl⟩
  obtain ⟨er, he⟩ : ∃ er, er = (unV b).2 := ⟨_, rfl⟩
  rw [← ht, ← he] at HU h
  rw [← ht] at HC hm
  unfold tS at HC
  unfold zeroH
  clear hC ht he
  by_cases h0 : er = 0
  · subst h0
    have hmf : m = false := by
      cases m with
      | false => rfl
      | true => exact absurd ⟨rfl, hm.1 rfl⟩ h
    subst hmf
    clear h hm
    go_enter Tryz.func130, Tryz.ntmps130
    go_wp2_with (first
      | (go_at_call 94; refine (HU.out _).mono ?_; rintro e w1 ⟨rfl, hb1⟩; have HV := hid (var_a hb1); have HB1 := hid ((below_alloc _ _).next hb1); obtain ⟨q0, q1, q2⟩ := three_cells HV.out; have hfr := frees HV.out; have hlt := lt_of_block HV.out; clear hb1)
      | (go_at_call 95; refine (HC.out _).mono ?_; rintro e w2 ⟨rfl, hw⟩; have hw := hw.symm; subst hw))
    refine bodyPost_ret (v := .tuple #[.agg #[.int .i64 0, .slice none 0 0, .int .i64 0], .bool false]) (by simp [results, Tryz.results130, go_sem, q0, q1, q2]) rfl ⟨rfl, ?_⟩
    exact setB3 HB1.out (Nat.le_refl _) _ _ _
  · have h0' : (er != 0) = true := by simp [h0]
    clear h0 h hm
    go_enter Tryz.func130, Tryz.ntmps130
    go_wp2_with (first
      | (go_at_call 94; refine (HU.out _).mono ?_; rintro e w1 ⟨rfl, hb1⟩; have HV := hid (var_a hb1); have HB1 := hid ((below_alloc _ _).next hb1); obtain ⟨q0, q1, q2⟩ := three_cells HV.out; have hfr := frees HV.out; have hlt := lt_of_block HV.out; clear hb1)
      | (go_at_call 95; refine (HC.out _).mono ?_; rintro e w2 ⟨rfl, hw⟩; have hw := hw.symm; subst hw))
    refine bodyPost_ret (v := .tuple #[.agg #[.int .i64 0, .slice none 0 0, .int .i64 0], .bool false]) (by simp [results, Tryz.results130, go_sem, q0, q1, q2]) rfl ⟨rfl, ?_⟩
    exact setB3 HB1.out (Nat.le_refl _) _ _ _
theorem keptV {v g : Nat} {o : Obj} {w w' : World} (k : Kept w.heap.size g w w') (h : w.heap[v]? = some o) (h2 : v ≠ g) : w'.heap[v]? = some o := (k.block v (lt_of_block h) h2).trans h
theorem bel_kept {w0 w w' : World} {g : Nat} (h : Below w0.heap.size w0 w) (k : Kept w.heap.size g w w') (hg : w0.heap.size ≤ g) : Below w0.heap.size w0 w' := h.trans (k.below h.size hg)
theorem three_set0 {w : World} {g : Nat} {a b c v : Value} {t : TypeId} (h : w.heap[g]? = some (.cells #[a, b, c] t (0, 0))) : (w.setCell ⟨g, 0, none⟩ v).heap[g]? = some (.cells #[v, b, c] t (0, 0)) := by
  simp [World.setCell, Array.getElem?_modify, h]
set_option maxRecDepth 100000 in
set_option maxHeartbeats 2000000 in
theorem arePlaces_eq (v : Value) (l : List Int) (w : World) (h : ILie w v l) : Calls Tryz.prog 144 #[v] w fun e w' => e = .returned (.bool (placesB l)) ∧ w' = w := by
  obtain ⟨ao, cap, rfl, hlc, hcm, hcell⟩ := h
  have HC := hid hcell
  clear hcell
  unfold maxLen at hcm
  obtain ⟨A, hA⟩ : ∃ A : Bool, A = placesB l := ⟨_, rfl⟩
  rw [← hA]
  have HA := hid hA
  clear hA
  go_enter Tryz.func144, Tryz.ntmps144
  go_wp2
  go_loopw [3, 8] (fun la i wr => ∃ (q : Nat) (last : Int), i = .int .i64 q ∧ q ≤ l.length ∧ la = .int .i64 last ∧ risesI (-1) l = risesI last (l.drop q) ∧ wr = w) (fun _ i _ => l.length - (intOf i).toNat)
  case atStart => exact ⟨0, -1, rfl, Nat.zero_le _, rfl, rfl, rfl⟩
  case round =>
    obtain ⟨q, last, rfl, hq, rfl, hr, hw⟩ := hrel
    subst hw
    have HRR := hid hr
    clear hr
    by_cases hqk : q < l.length
    · obtain ⟨gb, off, e, hgl, c0⟩ := HC.out q hqk
      subst e
      have HD := hid (drop_at l q hqk)
      obtain ⟨c, hc⟩ : ∃ c, c = l[q] := ⟨_, rfl⟩
      rw [← hc] at c0 HD
      clear hc
      have HN : Hid (risesI (-1) l = (decide (last < c) && (decide (c < 1024) && risesI c (l.drop (q + 1))))) := by
        show _ = _
        rw [HRR.out, HD.out]; rfl
      have HF := hid (follows_any last c)
      obtain ⟨f, hf⟩ : ∃ f, f = (decide (last < c) && decide (c < 1024)) := ⟨_, rfl⟩
      rw [← hf] at HF
      have HFF := hid hf
      clear hf
      cases f with
      | false =>
        go_wp2_with (first | (go_at_call 110; refine (HF.out _).mono ?_; rintro e w1 ⟨rfl, hw⟩; have hw := hw.symm; subst hw))
        go_ret
        refine ⟨?_, rfl⟩
        have hz : risesI (-1) l = false := by
          rw [HN.out]
          have := HFF.out
          cases h1 : decide (last < c)
          · rfl
          · cases h2 : decide (c < 1024)
            · rfl
            · rw [h1, h2] at this; cases this
        rw [HA.out, placesB, hz]; rfl
      | true =>
        go_wp2_with (first | (go_at_call 110; refine (HF.out _).mono ?_; rintro e w1 ⟨rfl, hw⟩; have hw := hw.symm; subst hw))
        go_roundw
        case rel =>
          refine ⟨q + 1, c, by go_num, by omega, rfl, ?_, trivial⟩
          rw [HN.out]
          have := HFF.out
          cases h1 : decide (last < c)
          · rw [h1] at this; cases this
          · cases h2 : decide (c < 1024)
            · rw [h1, h2] at this; cases this
            · simp
        case measure => simp [intOf]; omega
    · have hqe : q = l.length := by omega
      subst hqe
      go_wp2
      go_ret
      refine ⟨?_, rfl⟩
      rw [HA.out, placesB, HRR.out, List.drop_length]
      simp [risesI]
      omega
/-- what can be wrong -/
def wrong (e : Int) : Prop := e = 0 ∨ e = 4 ∨ e = 20
theorem fxE_wrong (k : Nat) (s : ByteArray) (e : Int) (h : wrong e) : wrong (fxE k s e) := by
  unfold fxE
  split
  · exact h
  · split
    · exact .inr (.inr rfl)
    · split
      · exact .inl rfl
      · exact .inr (.inl rfl)
theorem rdP_wrong (s : ByteArray) (e : Int) (h : wrong e) : ∀ q, wrong (rdP s e q).2.2
  | 0 => h
  | q + 1 => fxE_wrong 2 _ _ (rdP_wrong s e h q)
theorem hEnd_wrong (n : ByteArray) : wrong (hEnd n) := by
  have h1 : wrong (fxE 4 (hP n).2.1 (hP n).2.2) := fxE_wrong 4 _ _ (rdP_wrong _ _ (fxE_wrong 1 _ _ (fxE_wrong 8 _ _ (.inl rfl))) _)
  unfold hEnd endV
  split
  · exact h1
  · split
    · exact .inl rfl
    · exact .inr (.inl rfl)
/-- while a head is read: the reader, the head, the result's box -/
structure HS (w : World) (g B : Nat) (wr : World) (n1 sm : Int) (pv : Value) (ps : List Int) (s : ByteArray) (e : Int) : Prop where
  rd : RIs g wr s e
  hx : wr.heap[g + 1]? = some (.cells #[.int .i64 n1, pv, .int .i64 sm] 209 (0, 0))
  row : IRow B wr pv ps
  rs : wr.heap[w.heap.size]? = some (.cells #[.int .i64 0, .slice none 0 0, .int .i64 0] 209 (0, 0))
  bel : Below w.heap.size w wr
  vg : w.heap.size < g
  gB : g + 1 < B
  Bz : B ≤ wr.heap.size
theorem HS.read {w wr w' : World} {g B : Nat} {n1 sm : Int} {pv : Value} {ps : List Int} {s s' : ByteArray} {e e' : Int} (h : HS w g B wr n1 sm pv ps s e) (k : Kept wr.heap.size g wr w') (hr : RIs g w' s' e') : HS w g B w' n1 sm pv ps s' e' :=
  ⟨hr, keptV k h.hx (by omega), h.row.same (fun x hx => k.block x (h.row.lt x hx) (by have := (h.row.own x hx).1; have := h.gB; omega)), keptV k h.rs (by have := h.vg; omega), bel_kept h.bel k (Nat.le_of_lt h.vg), h.vg, h.gB, Nat.le_trans h.Bz k.size⟩
theorem HS.set {w wr : World} {g B : Nat} {n1 sm : Int} {pv : Value} {ps : List Int} {s : ByteArray} {e : Int} (h : HS w g B wr n1 sm pv ps s e) (o : Nat) (v : Value) {n1' sm' : Int} {pv' : Value} (hx : (wr.setCell ⟨g + 1, o, none⟩ v).heap[g + 1]? = some (.cells #[.int .i64 n1', pv', .int .i64 sm'] 209 (0, 0))) {ps' : List Int} (hrow : IRow B (wr.setCell ⟨g + 1, o, none⟩ v) pv' ps') :
    HS w g B (wr.setCell ⟨g + 1, o, none⟩ v) n1' sm' pv' ps' s e :=
  ⟨(set_other (w := wr) (o := o) v (show g ≠ g + 1 by omega)).trans h.rd, hx, hrow, (set_other (w := wr) (o := o) v (show w.heap.size ≠ g + 1 by have := h.vg; omega)).trans h.rs, h.bel.setCell (by have := h.vg; show _ ≤ g + 1; omega) _, h.vg, h.gB, by have := h.Bz; simpa [World.setCell] using this⟩
theorem HS.drew {w wr : World} {g B : Nat} {n1 sm : Int} {pv : Value} {ps : List Int} {s : ByteArray} {e : Int} (h : HS w g B wr n1 sm pv ps s e) : HS w g B wr.drew n1 sm pv ps s e :=
  ⟨h.rd, h.hx, h.row, h.rs, h.bel.trans ⟨rfl, rfl, rfl, Nat.le_refl _, fun _ _ => rfl⟩, h.vg, h.gB, h.Bz⟩
theorem HS.push {w w7 w8 : World} {g B : Nat} {n1 sm : Int} {pv v8 : Value} {ps ps' : List Int} {s : ByteArray} {e : Int} (h : HS w g B w7 n1 sm pv ps s e) (hI : IRow B w8 v8 ps') (hb : Below B w7 w8) : HS w g B (w8.setCell ⟨g + 1, 1, none⟩ v8) n1 sm v8 ps' s e := by
  have hgB := h.gB
  have hvg := h.vg
  have hx8 := (hb.block _ hgB).trans h.hx
  refine ⟨(set_other (w := w8) (o := 1) v8 (show g ≠ g + 1 by omega)).trans ((hb.block g (by omega)).trans h.rd), three_set1 hx8, hI.same (fun x hx => set_other _ (by have := (hI.own x hx).1; omega)), (set_other (w := w8) (o := 1) v8 (show w.heap.size ≠ g + 1 by omega)).trans ((hb.block _ (by omega)).trans h.rs), ?_, hvg, hgB, ?_⟩
  · exact (h.bel.trans (hb.mono (by omega))).setCell (by show _ ≤ g + 1; omega) _
  · have := hb.size; have := h.Bz; simp [World.setCell]; omega
theorem IRow.setO {B : Nat} {w : World} {v u : Value} {l : List Int} {g o : Nat} (h : IRow B w v l) (hg : g < B) : IRow B (w.setCell ⟨g, o, none⟩ u) v l :=
  h.same (fun x hx => set_other _ (by have := (h.own x hx).1; omega))
set_option maxRecDepth 100000 in
set_option maxHeartbeats 4000000 in
theorem head_any (b t n : ByteArray) (hb : b.size ≤ 150000000000000) (hu : unV b = (t, 0)) (hT : isT t) (hn : n = t.extract 1 t.size) (w : World) :
    Calls Tryz.prog 130 #[.string b] w fun e w' => ∃ pv, e = .returned (.tuple #[.agg #[.int .i64 (hN1 n), pv, .int .i64 (hN4 n)], .bool (hOk n)]) ∧ ILie w' pv (hP n).1 ∧ Below w.heap.size w w' := by
  have hts : t.size ≤ b.size := by have := unV_size b; rw [hu] at this; exact this
  have hns : n.size ≤ t.size := by rw [hn, ByteArray.size_extract]; omega
  have HU := hid (fun w => unblock_any b hb w)
  rw [hu] at HU
  have HC := hid (fun w => cut_yes t (by unfold maxLen; omega) hT w)
  rw [← hn] at HC
  unfold tS at HC
  clear hu hT hn
  have HF1 := hid (fun g w h => fix_r 8 (by decide) (by decide) g n 0 (by unfold maxLen; omega) w h)
  have HF2 := hid (fun g w h => fix_r 1 (by decide) (by decide) g (fxS 8 n 0) (fxE 8 n 0) (by have := fxS_size 8 n 0; unfold maxLen; omega) w h)
  go_enter Tryz.func130, Tryz.ntmps130
  go_wp2_with (first
    | (go_at_call 94; refine (HU.out _).mono ?_; rintro e w1 ⟨rfl, hb1⟩; have HV := hid (var_a hb1); have HB1 := hid ((below_alloc _ _).next hb1); clear hb1)
    | (go_at_call 95; refine (HC.out _).mono ?_; rintro e w2 ⟨rfl, hw⟩; have hw := hw.symm; subst hw)
    | (go_at_call 96; refine (of_any _ _).mono ?_; rintro e w3 ⟨rfl, rfl⟩)
    | (go_at_call 97; fail))
  have hvl := lt_of_block HV.out
  have HH3 : Hid (HS w w1.heap.size (w1.heap.size + 2) ((w1.alloc (.cells #[.string n, .int .i64 0] 206)).alloc (.cells #[.int .i64 0, .slice none 0 0, .int .i64 0] 209)) 0 0 (.slice none 0 0) [] n 0) := by
    refine ⟨?_, ?_, IRow.nil _ _, ?_, ?_, hvl, by omega, by simp⟩
    · exact (Below.heap_alloc _ _ _ (by simp)).trans (box_at _ _)
    · have := box_at (w1.alloc (.cells #[.string n, .int .i64 0] 206)) (.cells #[.int .i64 0, .slice none 0 0, .int .i64 0] 209)
      simpa using this
    · exact (Below.heap_alloc _ _ _ (by simp; omega)).trans ((Below.heap_alloc _ _ _ hvl).trans HV.out)
    · exact (HB1.out.next (below_alloc _ _)).next (below_alloc _ _)
  obtain ⟨w3, hw3⟩ : ∃ w3, w3 = (w1.alloc (.cells #[.string n, .int .i64 0] 206)).alloc (.cells #[.int .i64 0, .slice none 0 0, .int .i64 0] 209) := ⟨_, rfl⟩
  rw [← hw3] at HH3 ⊢
  clear hw3
  refine (HF1.out _ _ HH3.out.rd).mono ?_
  rintro e w4 ⟨⟨y4, rfl⟩, hr4, hk4⟩
  have HH4 := hid (HH3.out.read hk4 hr4)
  clear hr4 hk4
  obtain ⟨q0, q1, q2⟩ := three_cells HH4.out.hx
  have hfr := frees HH4.out.hx
  have hl4 := lt_of_block HH4.out.hx
  have HH5 := hid (HH4.out.set 0 (.int .i64 (fxN 8 n 0)) (three_set0 HH4.out.hx) (HH4.out.row.setO (by omega)))
  go_wp2_with (first
    | (go_at_call 97; refine (HF2.out _ _ HH5.out.rd).mono ?_; rintro e w6 ⟨⟨y6, rfl⟩, hr6, hk6⟩; have HH6 := hid (HH5.out.read hk6 hr6); clear hr6 hk6))
  clear q0 q1 q2 hfr HF1 HF2 HU HC
  obtain ⟨s6, hs6⟩ : ∃ s, s = fxS 1 (fxS 8 n 0) (fxE 8 n 0) := ⟨_, rfl⟩
  obtain ⟨e6, he6⟩ : ∃ e, e = fxE 1 (fxS 8 n 0) (fxE 8 n 0) := ⟨_, rfl⟩
  obtain ⟨c, hc⟩ : ∃ c, c = fxN 1 (fxS 8 n 0) (fxE 8 n 0) := ⟨_, rfl⟩
  obtain ⟨N1, hNe⟩ : ∃ c, c = fxN 8 n 0 := ⟨_, rfl⟩
  have hc2 : c < 256 := by rw [hc]; exact hN2_lt n
  have hs6l : s6.size ≤ n.size := by rw [hs6]; exact Nat.le_trans (fxS_size _ _ _) (fxS_size _ _ _)
  have HPE : Hid (hP n = rdP s6 e6 c) := by show _ = _; rw [hs6, he6, hc]; rfl
  have HN1 : Hid (hN1 n = N1) := by show _ = _; rw [hNe]; rfl
  rw [← hs6, ← he6, ← hNe] at HH6
  rw [← hc, ← hNe]
  clear hs6 he6 hc hNe
  go_loopw [46] (fun i wr => ∃ (q : Nat) (pv : Value), i = .int .i64 q ∧ q ≤ c ∧ HS w w1.heap.size (w1.heap.size + 2) wr N1 0 pv (rdP s6 e6 q).1 (rdP s6 e6 q).2.1 (rdP s6 e6 q).2.2) (fun i _ => c - (intOf i).toNat)
  case atStart => exact ⟨0, _, rfl, Nat.zero_le _, HH6.out⟩
  case round =>
    obtain ⟨q, pv, rfl, hq, hHq⟩ := hrel
    have HHq := hid hHq
    clear hHq HH3 HH4 HH5 HH6
    have HPS := hid (rdP_size s6 e6 q)
    have HPL := hid (rdP_len s6 e6 q)
    by_cases hqk : q < c
    · have HF := hid (fun g w h => fix_r 2 (by decide) (by decide) g (rdP s6 e6 q).2.1 (rdP s6 e6 q).2.2 (by have := HPS.out; unfold maxLen; omega) w h)
      have HNX : Hid (rdP s6 e6 (q + 1) = ((rdP s6 e6 q).1 ++ [(fxN 2 (rdP s6 e6 q).2.1 (rdP s6 e6 q).2.2 : Int)], fxS 2 (rdP s6 e6 q).2.1 (rdP s6 e6 q).2.2, fxE 2 (rdP s6 e6 q).2.1 (rdP s6 e6 q).2.2)) := rfl
      obtain ⟨p, hp⟩ : ∃ p, p = fxN 2 (rdP s6 e6 q).2.1 (rdP s6 e6 q).2.2 := ⟨_, rfl⟩
      rw [← hp] at HF HNX
      clear hp
      obtain ⟨P, hP⟩ : ∃ P, P = (rdP s6 e6 q).1 := ⟨_, rfl⟩
      have hPl : P.length ≤ 256 := by rw [hP, HPL.out]; omega
      rw [← hP] at HHq HNX
      clear hP
      obtain ⟨pao, pcap, hpv, _, _⟩ := HHq.out.row.len
      subst hpv
      have hlq := lt_of_block HHq.out.hx
      go_wp2_with (first
        | (go_at_call 97; refine (HF.out _ _ HHq.out.rd).mono ?_; rintro e w7 ⟨⟨y7, rfl⟩, hr7, hk7⟩
           have HH7 := hid (HHq.out.read hk7 hr7)
           clear hr7 hk7
           obtain ⟨q0, q1, q2⟩ := three_cells HH7.out.hx
           have hl7 := lt_of_block HH7.out.hx
           have hz7 := HH7.out.Bz)
        | (at_builtin; refine pushI (w0 := w7) rfl (.tmp 54) (.tmp 56) rfl (w1.heap.size + 2) w7.heap.size _ P p rfl rfl rfl HH7.out.row (by omega) HH7.out.Bz ?_
           intro v8 w8 hI8 hb8 _
           obtain ⟨pao8, pcap8, hv8, _, _⟩ := hI8.len
           subst hv8
           have HH8 := hid (HH7.out.push hI8 hb8)
           have HX8 := hid ((hb8.block _ (by omega)).trans HH7.out.hx)
           have HLL : (P ++ [(p : Int)]).length = P.length + 1 := by simp
           rw [HLL] at HH8 ⊢
           clear hI8 hb8 q0 q1 q2 HLL
           obtain ⟨q0, q1, q2⟩ := three_cells HX8.out
           have hfr8 := frees HX8.out
           have hl8 := lt_of_block HX8.out))
      go_roundw
      case rel => exact ⟨q + 1, .slice pao8 (P.length + 1) pcap8, by go_num, by omega, by rw [HNX.out]; exact HH8.out⟩
      case measure => simp [intOf]; omega
    · have hqe : q = c := by omega
      subst hqe
      have HF := hid (fun g w h => fix_r 4 (by decide) (by decide) g (rdP s6 e6 q).2.1 (rdP s6 e6 q).2.2 (by have := HPS.out; unfold maxLen; omega) w h)
      rw [← HPE.out] at HF HHq HPS HPL
      have HN4 : Hid (fxN 4 (hP n).2.1 (hP n).2.2 = hN4 n) := rfl
      have HEN : Hid (endV (fxS 4 (hP n).2.1 (hP n).2.2) (fxE 4 (hP n).2.1 (hP n).2.2) = hEnd n) := rfl
      have HOK : Hid (hOk n = (decide (hEnd n = 0) && (decide (1 ≤ (N1 : Int) ∧ (N1 : Int) ≤ 1099511627776) && placesB (hP n).1))) := by show _ = _; unfold hOk; rw [HN1.out]
      have HFE := hid (fun g w h => end_r g (fxS 4 (hP n).2.1 (hP n).2.2) (fxE 4 (hP n).2.1 (hP n).2.2) w h)
      have HSQ := hid (isSeq_any N1)
      have HAP := hid (fun v w h => arePlaces_eq v (hP n).1 w h)
      rw [HN4.out] at HF
      rw [HEN.out] at HFE
      obtain ⟨P, hP⟩ : ∃ P, P = (hP n).1 := ⟨_, rfl⟩
      obtain ⟨S4, hS4⟩ : ∃ S, S = fxS 4 (Go.Proofs.YtopebghandojbaaGreat.hP n).2.1 (Go.Proofs.YtopebghandojbaaGreat.hP n).2.2 := ⟨_, rfl⟩
      obtain ⟨E4, hE4⟩ : ∃ S, S = fxE 4 (Go.Proofs.YtopebghandojbaaGreat.hP n).2.1 (Go.Proofs.YtopebghandojbaaGreat.hP n).2.2 := ⟨_, rfl⟩
      rw [← hS4, ← hE4] at HF HFE
      rw [← hP] at HHq HAP HOK HPL
      obtain ⟨N4, hN4e⟩ : ∃ N, N = hN4 n := ⟨_, rfl⟩
      obtain ⟨EN, hENe⟩ : ∃ N, N = hEnd n := ⟨_, rfl⟩
      have HP1 := hid hP
      have HN4e := hid hN4e
      have HEW : Hid (wrong EN) := by rw [hENe]; exact hEnd_wrong n
      rw [← hN4e] at HF
      rw [← hENe] at HFE HOK
      clear hP hS4 hE4 hN4e hENe HPE HN4 HEN
      have hPl : P.length ≤ 256 := by rw [HPL.out]; omega
      obtain ⟨pao, pcap, hpv, _, _⟩ := HHq.out.row.len
      subst hpv
      have hlq := lt_of_block HHq.out.hx
      go_wp2_with (first
        | (go_at_call 97; refine (HF.out _ _ HHq.out.rd).mono ?_; rintro e w7 ⟨⟨y7, rfl⟩, hr7, hk7⟩
           have HH7 := hid (HHq.out.read hk7 hr7)
           clear hr7 hk7
           obtain ⟨q0, q1, q2⟩ := three_cells HH7.out.hx
           have hfr7 := frees HH7.out.hx
           have hl7 := lt_of_block HH7.out.hx
           have HH8 := hid (HH7.out.set 2 (.int .i64 N4) (three_set2 HH7.out.hx) (HH7.out.row.setO (by omega))))
        | (go_at_call 98; fail))
      obtain ⟨w8, hw8⟩ : ∃ w8, w8 = w7.setCell ⟨w1.heap.size + 1, 2, none⟩ (.int .i64 N4) := ⟨_, rfl⟩
      rw [← hw8] at HH8 ⊢
      clear hw8 q0 q1 q2 hfr7 HH7
      obtain ⟨q0, q1, q2⟩ := three_cells HH8.out.hx
      have hl8 := lt_of_block HH8.out.hx
      obtain ⟨r0, r1, r2⟩ := three_cells HH8.out.rs
      have hfr8 := frees HH8.out.rs
      have hlr := lt_of_block HH8.out.rs
      have hvg := HH8.out.vg
      have HRD : Hid (RIs w1.heap.size w8.drew S4 E4) := HH8.out.rd
      have HIL : Hid (ILie w8.drew (.slice pao P.length pcap) P) := HH8.out.drew.row.lie
      obtain ⟨sq, hsq⟩ : ∃ s, s = decide (1 ≤ (N1 : Int) ∧ (N1 : Int) ≤ 1099511627776) := ⟨_, rfl⟩
      obtain ⟨pl, hpl⟩ : ∃ s, s = placesB P := ⟨_, rfl⟩
      rw [← hsq] at HSQ HOK
      rw [← hpl] at HAP HOK
      clear hsq hpl
      have hEW : EN = 0 ∨ EN = 4 ∨ EN = 20 := HEW.out
      have hne1 : w1.heap.size + 1 ≠ w.heap.size := by omega
      have hne2 : w.heap.size ≠ w1.heap.size + 1 := by omega
      have hv8 : w.heap.size < w1.heap.size + 2 := by omega
      rcases hEW with rfl | rfl | rfl
      · cases sq with
        | false =>
          have hOK : hOk n = false := by
            rw [HOK.out]; simp
          first
            | (go_region_with (first
                | (go_at_call 98; refine (HFE.out _ w8.drew HRD.out).mono ?_; rintro e wa ⟨rfl, hw⟩; have hw := hw.symm; subst hw)
                | (go_at_call 138; refine (HSQ.out w8.drew).mono ?_; rintro e wa ⟨rfl, hw⟩; have hw := hw.symm; subst hw)
                | (go_at_call 144; refine (HAP.out _ w8.drew HIL.out).mono ?_; rintro e wa ⟨rfl, hw⟩; have hw := hw.symm; subst hw)))
            | fail
          all_goals
            go_wp2
            refine bodyPost_ret (v := .tuple #[.agg #[.int .i64 N1, .slice pao P.length pcap, .int .i64 N4], .bool false]) (by simp [results, Tryz.results130, go_sem, r0, r1, r2]) rfl ⟨.slice pao P.length pcap, by rw [HN1.out, ← HN4e.out, hOK], ?_, ?_⟩
            · rw [← HP1.out]
              exact (((HH8.out.row.setO (u := .int .i64 N1) (o := 0) hv8).setO (u := .slice pao P.length pcap) (o := 1) hv8).setO (u := .int .i64 N4) (o := 2) hv8).lie
            · have h := setB3 HH8.out.bel (Nat.le_refl _) (.int .i64 N1) (.slice pao P.length pcap) (.int .i64 N4)
              exact ⟨h.os, h.tape, h.output, h.size, h.block⟩
        | true =>
          cases pl with
          | false =>
            have hOK : hOk n = false := by
              rw [HOK.out]; simp
            first
              | (go_region_held3 (fun w' => w'.cell? ⟨w1.heap.size + 1, 0, none⟩ = some (.int .i64 N1) ∧ w'.cell? ⟨w1.heap.size + 1, 1, none⟩ = some (.slice pao P.length pcap) ∧ w'.cell? ⟨w1.heap.size + 1, 2, none⟩ = some (.int .i64 N4)) (first | exact ⟨q0, q1, q2⟩ | go_keep) (first
                  | (go_at_call 98; refine (HFE.out _ w8.drew HRD.out).mono ?_; rintro e wa ⟨rfl, hw⟩; have hw := hw.symm; subst hw)
                  | (go_at_call 138; refine (HSQ.out w8.drew).mono ?_; rintro e wa ⟨rfl, hw⟩; have hw := hw.symm; subst hw)
                  | (go_at_call 144; refine (HAP.out _ w8.drew HIL.out).mono ?_; rintro e wa ⟨rfl, hw⟩; have hw := hw.symm; subst hw)))
              | fail
            all_goals
              go_wp2
              refine bodyPost_ret (v := .tuple #[.agg #[.int .i64 N1, .slice pao P.length pcap, .int .i64 N4], .bool false]) (by simp [results, Tryz.results130, go_sem, r0, r1, r2]) rfl ⟨.slice pao P.length pcap, by rw [HN1.out, ← HN4e.out, hOK], ?_, ?_⟩
              · rw [← HP1.out]
                exact (((HH8.out.row.setO (u := .int .i64 N1) (o := 0) hv8).setO (u := .slice pao P.length pcap) (o := 1) hv8).setO (u := .int .i64 N4) (o := 2) hv8).lie
              · have h := setB3 HH8.out.bel (Nat.le_refl _) (.int .i64 N1) (.slice pao P.length pcap) (.int .i64 N4)
                exact ⟨h.os, h.tape, h.output, h.size, h.block⟩
          | true =>
            have hOK : hOk n = true := by
              rw [HOK.out]; simp
            first
              | (go_region_held3 (fun w' => w'.cell? ⟨w1.heap.size + 1, 0, none⟩ = some (.int .i64 N1) ∧ w'.cell? ⟨w1.heap.size + 1, 1, none⟩ = some (.slice pao P.length pcap) ∧ w'.cell? ⟨w1.heap.size + 1, 2, none⟩ = some (.int .i64 N4)) (first | exact ⟨q0, q1, q2⟩ | go_keep) (first
                  | (go_at_call 98; refine (HFE.out _ w8.drew HRD.out).mono ?_; rintro e wa ⟨rfl, hw⟩; have hw := hw.symm; subst hw)
                  | (go_at_call 138; refine (HSQ.out w8.drew).mono ?_; rintro e wa ⟨rfl, hw⟩; have hw := hw.symm; subst hw)
                  | (go_at_call 144; refine (HAP.out _ w8.drew HIL.out).mono ?_; rintro e wa ⟨rfl, hw⟩; have hw := hw.symm; subst hw)))
              | fail
            all_goals
              go_wp2
              refine bodyPost_ret (v := .tuple #[.agg #[.int .i64 N1, .slice pao P.length pcap, .int .i64 N4], .bool true]) (by simp [results, Tryz.results130, go_sem, r0, r1, r2]) rfl ⟨.slice pao P.length pcap, by rw [HN1.out, ← HN4e.out, hOK], ?_, ?_⟩
              · rw [← HP1.out]
                exact (((HH8.out.row.setO (u := .int .i64 N1) (o := 0) hv8).setO (u := .slice pao P.length pcap) (o := 1) hv8).setO (u := .int .i64 N4) (o := 2) hv8).lie
              · have h := setB3 HH8.out.bel (Nat.le_refl _) (.int .i64 N1) (.slice pao P.length pcap) (.int .i64 N4)
                exact ⟨h.os, h.tape, h.output, h.size, h.block⟩
      · have hOK : hOk n = false := by
          rw [HOK.out]; simp
        first
          | (go_region_with (first
              | (go_at_call 98; refine (HFE.out _ w8.drew HRD.out).mono ?_; rintro e wa ⟨rfl, hw⟩; have hw := hw.symm; subst hw)
              | (go_at_call 138; refine (HSQ.out w8.drew).mono ?_; rintro e wa ⟨rfl, hw⟩; have hw := hw.symm; subst hw)
              | (go_at_call 144; refine (HAP.out _ w8.drew HIL.out).mono ?_; rintro e wa ⟨rfl, hw⟩; have hw := hw.symm; subst hw)))
          | fail
        all_goals
          go_wp2
          refine bodyPost_ret (v := .tuple #[.agg #[.int .i64 N1, .slice pao P.length pcap, .int .i64 N4], .bool false]) (by simp [results, Tryz.results130, go_sem, r0, r1, r2]) rfl ⟨.slice pao P.length pcap, by rw [HN1.out, ← HN4e.out, hOK], ?_, ?_⟩
          · rw [← HP1.out]
            exact (((HH8.out.row.setO (u := .int .i64 N1) (o := 0) hv8).setO (u := .slice pao P.length pcap) (o := 1) hv8).setO (u := .int .i64 N4) (o := 2) hv8).lie
          · have h := setB3 HH8.out.bel (Nat.le_refl _) (.int .i64 N1) (.slice pao P.length pcap) (.int .i64 N4)
            exact ⟨h.os, h.tape, h.output, h.size, h.block⟩
      · have hOK : hOk n = false := by
          rw [HOK.out]; simp
        first
          | (go_region_with (first
              | (go_at_call 98; refine (HFE.out _ w8.drew HRD.out).mono ?_; rintro e wa ⟨rfl, hw⟩; have hw := hw.symm; subst hw)
              | (go_at_call 138; refine (HSQ.out w8.drew).mono ?_; rintro e wa ⟨rfl, hw⟩; have hw := hw.symm; subst hw)
              | (go_at_call 144; refine (HAP.out _ w8.drew HIL.out).mono ?_; rintro e wa ⟨rfl, hw⟩; have hw := hw.symm; subst hw)))
          | fail
        all_goals
          go_wp2
          refine bodyPost_ret (v := .tuple #[.agg #[.int .i64 N1, .slice pao P.length pcap, .int .i64 N4], .bool false]) (by simp [results, Tryz.results130, go_sem, r0, r1, r2]) rfl ⟨.slice pao P.length pcap, by rw [HN1.out, ← HN4e.out, hOK], ?_, ?_⟩
          · rw [← HP1.out]
            exact (((HH8.out.row.setO (u := .int .i64 N1) (o := 0) hv8).setO (u := .slice pao P.length pcap) (o := 1) hv8).setO (u := .int .i64 N4) (o := 2) hv8).lie
          · have h := setB3 HH8.out.bel (Nat.le_refl _) (.int .i64 N1) (.slice pao P.length pcap) (.int .i64 N4)
            exact ⟨h.os, h.tape, h.output, h.size, h.block⟩
end Go.Proofs.YtopebghandojbaaGreat
