import Derived.Test.YtmcahiebcflfoaaTe
namespace Go.Proofs.Ytmcahiebcflfoaa
open Go.RowKit Go.Maps
/-- a transaction's blocks -/
def encL (seq : Nat) (l : List Chg) : List ByteArray := st (sealL (bodyL (headL seq (l.map (·.b)) (crc (allD (l.map (·.d))))))) :: l.map (·.d)
theorem three_set1 {w : World} {g : Nat} {a b c v : Value} {t : TypeId} (h : w.heap[g]? = some (.cells #[a, b, c] t (0, 0))) : (w.setCell ⟨g, 1, none⟩ v).heap[g]? = some (.cells #[a, v, c] t (0, 0)) := by
  simp [World.setCell, Array.getElem?_modify, h]
theorem three_set2 {w : World} {g : Nat} {a b c v : Value} {t : TypeId} (h : w.heap[g]? = some (.cells #[a, b, c] t (0, 0))) : (w.setCell ⟨g, 2, none⟩ v).heap[g]? = some (.cells #[a, b, v] t (0, 0)) := by
  simp [World.setCell, Array.getElem?_modify, h]
theorem set_other {w : World} {g k o : Nat} (v : Value) (h : k ≠ g) : (w.setCell ⟨g, o, none⟩ v).heap[k]? = w.heap[k]? := Below.heap_setCell _ _ _ _ h
/-- two rows lie apart -/
theorem apartSI {B : Nat} {w : World} {v u : Value} {S : List ByteArray} {I : List Int} (h : SRow B w v S) (k : IRow B w u I) : ∀ x, v.ownBlock = some x → some x ≠ u.ownBlock := by
  intro x hx e
  obtain ⟨_, c1, h1⟩ := h.own x hx
  obtain ⟨_, c2, h2⟩ := k.own x e.symm
  rw [h1] at h2
  cases h2
theorem apartIS {B : Nat} {w : World} {v u : Value} {S : List ByteArray} {I : List Int} (h : SRow B w v S) (k : IRow B w u I) : ∀ x, u.ownBlock = some x → some x ≠ v.ownBlock := by
  intro x hx e
  exact apartSI h k x e.symm hx.symm
theorem IRow.lt {B : Nat} {w : World} {v : Value} {l : List Int} (h : IRow B w v l) : ∀ x, v.ownBlock = some x → x < w.heap.size := fun x hx => by
  obtain ⟨_, c, hc⟩ := h.own x hx
  exact lt_of_block hc
theorem SRow.lt {B : Nat} {w : World} {v : Value} {l : List ByteArray} (h : SRow B w v l) : ∀ x, v.ownBlock = some x → x < w.heap.size := fun x hx => by
  obtain ⟨_, c, hc⟩ := h.own x hx
  exact lt_of_block hc
theorem below_set {B g o : Nat} {w w' : World} (v : Value) (h : Below B w w') (hg : B ≤ g) : Below B w (w'.setCell ⟨g, o, none⟩ v) := h.setCell hg _
theorem two_cells {w : World} {g : Nat} {a b : Value} {t : TypeId} (hh : w.heap[g]? = some (.cells #[a, b] t (0, 0))) : w.cell? ⟨g, 0, none⟩ = some a ∧ w.cell? ⟨g, 1, none⟩ = some b := by
  refine ⟨?_, ?_⟩ <;> simp [World.cell?, hh]
theorem lie_head {w : World} {gs cap n : Nat} {cur : Array Value} {r : ByteArray} {D : List ByteArray} (hg : w.heap[gs]? = some (.cells cur 9 (0, 0))) (hn : D.length = n) (h0 : 0 < cur.size) (hc : ∀ i (hi : i < D.length), cur[1 + i]? = some (.string D[i])) (hcap : n + 1 ≤ cap) (hm : cap ≤ maxLen) :
    SLie (w.setCell ⟨gs, 0, none⟩ (.string r)) (.slice (some ⟨gs, 0, none⟩) (n + 1) cap) (r :: D) := by
  refine ⟨_, _, by rw [List.length_cons, hn], by rw [List.length_cons, hn]; exact hcap, hm, fun i hi => ⟨gs, 0, rfl, by simpa [World.setCell] using lt_of_block hg, ?_⟩⟩
  match i, hi with
  | 0, _ => simp [World.cell?, World.setCell, Array.getElem?_modify, hg, h0]
  | i + 1, hi =>
    have := hc i (by simpa using hi)
    rw [Nat.add_comm] at this
    simp [World.cell?, World.setCell, Array.getElem?_modify, hg, this]
theorem rises_data : ∀ {last : Int} {l : List Chg}, rises last l = true → (allD (l.map (·.d))).length = 128 * l.length
  | _, [], _ => rfl
  | last, c :: l, h => by
    unfold rises at h
    simp only [Bool.and_eq_true, decide_eq_true_eq] at h
    have ih := rises_data h.2.2.2
    have hs : c.d.data.toList.length = 128 := by rw [Array.length_toList]; exact h.2.2.1
    unfold allD at *
    rw [List.map_cons, List.map_cons, List.flatten_cons, List.length_append, ih, hs, List.length_cons]
    omega
theorem rises_places : ∀ {last : Int} {l : List Chg}, -1 ≤ last → rises last l = true → ∀ p ∈ l.map (·.b), 0 ≤ p ∧ p < 1024
  | _, [], _, _, p, hp => by simp at hp
  | last, c :: l, hl, h, p, hp => by
    unfold rises at h
    simp only [Bool.and_eq_true, decide_eq_true_eq] at h
    rw [List.map_cons, List.mem_cons] at hp
    rcases hp with rfl | hp
    · omega
    · exact rises_places (by omega) h.2.2.2 p hp
theorem right_rises {l : List Chg} (h : right l = true) : rises (-1) l = true := by unfold right at h; simp at h; exact h.2
theorem allD_len {l : List Chg} (h : right l = true) : (allD (l.map (·.d))).length = 128 * l.length := rises_data (right_rises h)
theorem right_places {l : List Chg} (h : right l = true) : ∀ p ∈ l.map (·.b), 0 ≤ p ∧ p < 65536 := fun p hp => by
  have := rises_places (Int.le_refl _) (right_rises h) p hp
  omega
theorem right_len {l : List Chg} (h : right l = true) : l.length ≤ 48 := by unfold right at h; simp at h; exact h.1
set_option maxRecDepth 100000 in
set_option maxHeartbeats 4000000 in
theorem encode_ok (seq : Nat) (v : Value) (l : List Chg) (h1 : 1 ≤ seq) (h2 : seq ≤ 1099511627776) (w : World) (hC : CLie w v l) (hr : right l = true) : Calls Try.prog 34 #[.int .i64 seq, v] w fun e w' => ∃ v', e = .returned (.tuple #[v', .int .i64 0]) ∧ SLie w' v' (encL seq l) ∧ Below w.heap.size w w' := by
  have HI := hid (isSeq_any seq)
  rw [decide_eq_true (show (1:Int) ≤ seq ∧ (seq:Int) ≤ 1099511627776 by omega)] at HI
  have HC := hid (check_any v l w hC)
  rw [hr] at HC
  simp only [if_true] at HC
  have h48 : l.length ≤ 48 := right_len hr
  have HR := hid hr
  obtain ⟨ao, cap, rfl, hlc, hcm, hcell⟩ := hC
  have HCE := hid hcell
  unfold maxLen at hcm
  clear hcell hr
  obtain ⟨cs, hmk, hmS⟩ := mkS l.length (by omega)
  have HMS := hid hmS
  clear hmS
  go_enter Try.func34, Try.ntmps34
  go_wp2_with (first
    | (go_at_call 54; refine (HI.out _).mono ?_; rintro e w1 ⟨rfl, hw⟩; have hw := hw.symm; subst hw)
    | (go_at_call 33; refine (HC.out).mono ?_; rintro e w2 ⟨rfl, hb2⟩; have HB2 := hid hb2; clear hb2))
  clear HI HC hmk
  have HV3 := hid (box_at w2 (.cells #[.int .i64 seq, .slice none 0 0, .int .i64 0] 107))
  have HB3 := hid (below_alloc w2 (.cells #[.int .i64 seq, .slice none 0 0, .int .i64 0] 107))
  have hs3 : (w2.alloc (.cells #[.int .i64 seq, .slice none 0 0, .int .i64 0] 107)).heap.size = w2.heap.size + 1 := by simp
  have HS4 := hid (HMS.out (w2.alloc (.cells #[.int .i64 seq, .slice none 0 0, .int .i64 0] 107)))
  have HB4 := hid (below_alloc (w2.alloc (.cells #[.int .i64 seq, .slice none 0 0, .int .i64 0] 107)) (.cells cs 9))
  obtain ⟨w3, hw3⟩ : ∃ w3, w3 = w2.alloc (.cells #[.int .i64 seq, .slice none 0 0, .int .i64 0] 107) := ⟨_, rfl⟩
  rw [← hw3] at HV3 HB3 HS4 HB4 hs3 ⊢
  clear hw3
  obtain ⟨w4, hw4⟩ : ∃ w4, w4 = w3.alloc (.cells cs 9) := ⟨_, rfl⟩
  rw [← hw4] at HS4 HB4 ⊢
  clear hw4
  have hlt3 := lt_of_block HV3.out
  go_loopw [8, 27] (fun bv i wr => ∃ (q : Nat) (pv : Value), i = .int .i64 q ∧ q ≤ l.length ∧ SRow w3.heap.size wr bv (ByteArray.empty :: (l.take q).map (·.d)) ∧ IRow w3.heap.size wr pv ((l.take q).map (·.b)) ∧ wr.heap[w2.heap.size]? = some (.cells #[.int .i64 seq, pv, .int .i64 0] 107 (0, 0)) ∧ Below w2.heap.size w2 wr ∧ w3.heap.size ≤ wr.heap.size) (fun _ i _ => l.length - (intOf i).toNat)
  case atStart => exact ⟨0, _, rfl, Nat.zero_le _, by rw [← hs3]; exact HS4.out, IRow.nil _ _, (HB4.out.block _ hlt3).trans HV3.out, HB3.out.next HB4.out, HB4.out.size⟩
  case round =>
    obtain ⟨q, pv, rfl, hq, hSq, hIq, hVq, hBq, hzq⟩ := hrel
    obtain ⟨P, hP⟩ : ∃ P, P = (l.take q).map (·.b) := ⟨_, rfl⟩
    obtain ⟨S, hS⟩ : ∃ S, S = ByteArray.empty :: (l.take q).map (·.d) := ⟨_, rfl⟩
    have hln : P.length ≤ 48 := by rw [hP]; simp; omega
    have hln2 : S.length ≤ 49 := by rw [hS]; simp; omega
    rw [← hP] at hIq
    rw [← hS] at hSq
    have HP := hid hP
    have HS := hid hS
    clear hP hS
    have HSq := hid hSq
    have HIq := hid hIq
    have HVq := hid hVq
    have HBq := hid hBq
    clear hSq hIq hVq hBq
    obtain ⟨pao, pcap, hpv, hpl, hpm⟩ := HIq.out.len
    obtain ⟨sao, scap, hsv, hsl, hsm⟩ := HSq.out.len
    by_cases hqk : q < l.length
    · obtain ⟨gb, off, e, hgl, c0, c1⟩ := HCE.out q hqk
      subst e
      have HT := hid (List.take_succ_eq_append_getElem hqk)
      obtain ⟨c, hc⟩ : ∃ c, c = l[q] := ⟨_, rfl⟩
      rw [← hc] at c0 c1 HT
      clear hc
      have HBw : Hid (Below w.heap.size w wr) := HB2.out.next HBq.out
      replace c0 := (HBw.out.cell (p := ⟨gb, off + q * 2, none⟩) hgl).trans c0
      replace c1 := (HBw.out.cell (p := ⟨gb, off + q * 2 + 1, none⟩) hgl).trans c1
      have hgr : gb < wr.heap.size := Nat.lt_of_lt_of_le hgl HBw.out.size
      obtain ⟨q0, q1, q2⟩ := three_cells HVq.out
      have hfr := frees HVq.out
      have hgv := lt_of_block HVq.out
      have HCb := hid (box_at wr (.cells #[.int .i64 c.b, .string c.d] 68))
      have HB5 := hid (below_alloc wr (.cells #[.int .i64 c.b, .string c.d] 68))
      have HI5 := hid (HIq.out.below HB5.out)
      have HS5 := hid (HSq.out.below HB5.out)
      have HAP := hid (apartSI HS5.out HI5.out)
      have HPL := hid HIq.out.lt
      subst hpv
      subst hsv
      go_wp2_with (first
        | (at_builtin; refine pushI (w0 := wr.alloc (.cells #[.int .i64 c.b, .string c.d] 68)) rfl (.tmp 32) (.tmp 35) rfl w3.heap.size (wr.heap.size + 1) _ P c.b rfl rfl (by simp) HI5.out (by omega) (by have := HB5.out.size; omega) ?_
           intro v6 w6 hI6 hb6 hk6
           obtain ⟨pao6, pcap6, hv6, _, _⟩ := hI6.len
           subst hv6
           have HI6 := hid hI6
           have HB6 := hid hb6
           have HK6 := hid hk6
           have HS6 := hid (HS5.out.same (fun x hx => hk6 x (HS5.out.lt x hx) (HAP.out x hx)))
           have HC6 := hid ((hk6 _ (lt_of_block HCb.out) (fun e => by have := HPL.out _ e.symm; omega)).trans HCb.out)
           have HV6 := hid ((hb6.block _ hlt3).trans ((HB5.out.block _ hgv).trans HVq.out))
           clear hI6 hb6 hk6 q0 q1 q2 hfr
           obtain ⟨q0, q1, q2⟩ := three_cells HV6.out
           have hfr := frees HV6.out
           have hg6 := lt_of_block HV6.out
           have hc6 := lt_of_block HC6.out
           obtain ⟨z0, z1⟩ := two_cells HC6.out
           have hne : wr.heap.size ≠ w2.heap.size := by omega
           have HV7 := hid (three_set1 (v := .slice pao6 (P ++ [c.b]).length pcap6) HV6.out)
           have HI7 := hid (HI6.out.same (w' := w6.setCell ⟨w2.heap.size, 1, none⟩ (.slice pao6 (P ++ [c.b]).length pcap6)) (fun x hx => set_other _ (fun e => by have := (HI6.out.own x hx).1; omega)))
           have HS7 := hid (HS6.out.same (w' := w6.setCell ⟨w2.heap.size, 1, none⟩ (.slice pao6 (P ++ [c.b]).length pcap6)) (fun x hx => set_other _ (fun e => by have := (HS6.out.own x hx).1; omega)))
           have hz7 : (w6.setCell ⟨w2.heap.size, 1, none⟩ (.slice pao6 (P ++ [c.b]).length pcap6)).heap.size = w6.heap.size := by simp [World.setCell]
           have HPe : Hid ((P ++ [c.b]).length = P.length + 1) := by show _ = _; simp
           rw [HPe.out] at HV7 HI7 HS7 hz7 ⊢
           have hb6s := HB6.out.size)
        | (at_builtin; refine pushS (w0 := w6.setCell ⟨w2.heap.size, 1, none⟩ (.slice pao6 (P.length + 1) pcap6)) rfl (.tmp 38) (.tmp 41) rfl w3.heap.size w6.heap.size _ S c.d rfl rfl (by rw [hz7]) HS7.out (by omega) (by rw [hz7]; have := HB5.out.size; omega) ?_; intro v8 w8 hS8 hb8 hk8))
      go_roundw
      case rel =>
        refine ⟨q + 1, .slice pao6 (P.length + 1) pcap6, by go_num, by omega, ?_, ?_, ?_, ?_, ?_⟩
        · rw [HT.out, List.map_append, ← List.cons_append, ← HS.out]; exact hS8
        · rw [HT.out, List.map_append, ← HP.out]
          exact HI7.out.same (fun x hx => hk8 x (HI7.out.lt x hx) (apartIS HS7.out HI7.out x hx))
        · exact (hb8.block _ hlt3).trans HV7.out
        · have k1 : Below w2.heap.size w2 w6 := (HBq.out.next HB5.out).trans (HB6.out.mono (by omega))
          exact (below_set _ k1 (Nat.le_refl _)).trans (hb8.mono (by omega))
        · have := hb8.size; have := HB5.out.size; omega
      case measure => simp [intOf]; omega
    · have hqe : q = l.length := by omega
      subst hqe
      rw [List.take_length] at HP HS
      have hSl : S.length = l.length + 1 := by rw [HS.out]; simp
      obtain ⟨gs, scap', cur, he, hbs, hgs, r1, r2, r3, r4⟩ : ∃ g cap cur, Value.slice sao S.length scap = .slice (some ⟨g, 0, none⟩) S.length cap ∧ w3.heap.size ≤ g ∧ wr.heap[g]? = some (.cells cur 9 (0, 0)) ∧ S.length ≤ cap ∧ cap ≤ maxLen ∧ cur.size = cap * 1 ∧ cur.toList.take (S.length * 1) = S.map Value.string := by
        rcases (hsv ▸ HSq.out).2 with ⟨_, h0⟩ | ⟨g, cap, cur, k⟩
        · omega
        · exact ⟨g, cap, cur, k⟩
      rw [hsv, he]
      rw [hSl]
      clear he hsv
      obtain ⟨q0, q1, q2⟩ := three_cells HVq.out
      have hfr := frees HVq.out
      have hgv := lt_of_block HVq.out
      subst hpv
      have hgsl := lt_of_block hgs
      unfold maxLen at r2
      obtain ⟨D, hD⟩ : ∃ D, D = l.map (·.d) := ⟨_, rfl⟩
      rw [← hD] at HS
      have hDl : D.length = l.length := by rw [hD]; simp
      have hPl : P.length = l.length := by rw [HP.out]; simp
      have HD := hid hD
      clear hD
      have hcell0 : ∀ i (hi : i < D.length), cur[1 + i]? = some (.string D[i]) := by
        intro i hi
        have e1 : cur.toList[1 + i]? = (S.map Value.string)[1 + i]? := by rw [← r4, List.getElem?_take_of_lt (by omega)]
        rw [Array.getElem?_toList, List.getElem?_map, HS.out, Nat.add_comm 1 i, List.getElem?_cons_succ, List.getElem?_eq_getElem hi] at e1
        rw [Nat.add_comm 1 i]
        exact e1
      have HC0 := hid hcell0
      have hcell : ∀ i (hi : i < D.length), wr.cell? ⟨gs, 1 + i, none⟩ = some (.string D[i]) := by
        intro i hi
        simp [World.cell?, hgs, hcell0 i hi]
      clear hcell0
      have HCL := hid hcell
      clear hcell
      have HCU : Hid (cur[0]? = some (.string ByteArray.empty)) := by
        show _ = _
        have e1 : cur.toList[0]? = (S.map Value.string)[0]? := by rw [← r4, List.getElem?_take_of_lt (by omega)]
        rw [Array.getElem?_toList, List.getElem?_map, HS.out] at e1
        simpa using e1
      have HA : Hid (SLie wr (.slice (some ⟨gs, 1, none⟩) l.length (scap' - 1)) D) := by
        refine ⟨_, _, by rw [hDl], by omega, by unfold maxLen; omega, fun i hi => ⟨gs, 1, rfl, hgsl, HCL.out i hi⟩⟩
      have HBB : Hid (scap' = 1 → SLie wr (.slice (some ⟨gs, 0, none⟩) l.length 0) D) := by
        intro h1
        refine ⟨_, _, by rw [hDl], by omega, by decide, fun i hi => by omega⟩
      have hall : (allD D).length ≤ 140737488355328 := by
        rw [HD.out, allD_len HR.out]; omega
      obtain ⟨sm, hsm⟩ : ∃ sm, sm = crc (allD D) := ⟨_, rfl⟩
      have HSUM := hid (fun V w h => dsum_any V D w h hall (by omega))
      rw [← hsm] at HSUM
      have hsml : sm < 4294967296 := by rw [hsm]; exact crc_lt _
      have HSM := hid hsm
      clear hsm hall
      have HPL := hid hPl
      have HDL := hid hDl
      have hPl2 : P.length < 256 := by omega
      clear hPl hDl
      have HT := hid (fun V w h => text_any seq V P sm (by omega) (by rw [HP.out]; exact right_places HR.out) hPl2 hsml w h)
      obtain ⟨t, ht⟩ : ∃ t, t = st (headL seq P sm) := ⟨_, rfl⟩
      rw [← ht] at HT
      have HK := hid (fun w => block_any t (by rw [ht, st_size, headL_len, HPL.out]; omega) w)
      obtain ⟨r, hr⟩ : ∃ r, r = st (sealL (bodyL t.data.toList)) := ⟨_, rfl⟩
      rw [← hr] at HK
      have HRR : Hid (r = st (sealL (bodyL (headL seq P sm)))) := by show _ = _; rw [hr, ht, st_list]
      clear hr ht
      go_wp2_with (first
        | (go_at_call 55; refine (HSUM.out _ _ (by first | exact HA.out | exact HBB.out (by assumption))).mono ?_; rintro e w5 ⟨rfl, hb5⟩
           have HV5 := hid ((hb5.block _ hgv).trans HVq.out)
           have HB5 := hid hb5
           have HG5 := hid ((hb5.block _ hgsl).trans hgs)
           have hz5 := hb5.size
           have HI5 := hid (HIq.out.below hb5)
           clear q0 q1 q2 hfr hb5
           obtain ⟨q0, q1, q2⟩ := three_cells HV5.out
           have hfr := frees HV5.out
           have hg5 := lt_of_block HV5.out
           have HV6 := hid (three_set2 (v := .int .i64 sm) HV5.out)
           have HG6 := hid ((set_other (w := w5) (g := w2.heap.size) (o := 2) (.int .i64 (sm : Int)) (show gs ≠ w2.heap.size by omega)).trans HG5.out)
           have HI6 := hid ((HI5.out.same (w' := w5.setCell ⟨w2.heap.size, 2, none⟩ (.int .i64 sm)) (fun x hx => set_other _ (fun e => by have := (HI5.out.own x hx).1; omega))).lie)
           have hz6 : (w5.setCell ⟨w2.heap.size, 2, none⟩ (.int .i64 sm)).heap.size = w5.heap.size := by simp [World.setCell])
        | (go_at_call 56; refine (HT.out _ _ HI6.out).mono ?_; rintro e w7 ⟨rfl, hb7⟩
           have HG7 := hid ((hb7.block _ (lt_of_block HG6.out)).trans HG6.out)
           have HB7 := hid hb7
           have hz7 := hb7.size
           rw [hz6] at hz7
           clear hb7)
        | (go_at_call 42; refine (HK.out _).mono ?_; rintro e w8 ⟨rfl, hb8⟩
           have HG8 := hid ((hb8.block _ (lt_of_block HG7.out)).trans HG7.out)
           have HB8 := hid hb8
           have hz8 := hb8.size
           have hg8 := lt_of_block HG8.out
           have hfr8 := frees HG8.out
           have hx8 : w8.cell? ⟨gs, 0, none⟩ = some (.string ByteArray.empty) := by simp [World.cell?, HG8.out, HCU.out]
           clear hb8))
      all_goals go_ret2
      all_goals refine ⟨_, rfl, ?_, ?_⟩
      all_goals first
        | (show Below _ _ _
           have k1 : Below w2.heap.size w2 w5 := HBq.out.next HB5.out
           have k2 := below_set (o := 2) (.int .i64 (sm : Int)) k1 (Nat.le_refl _)
           have k3 : Below w2.heap.size w2 w8 := (k2.next HB7.out).next HB8.out
           exact HB2.out.next (below_set _ k3 (by omega)))
        | skip
      all_goals
        have hEE : encL seq l = r :: D := by rw [HRR.out, HSM.out, HD.out, HP.out]; rfl
        rw [hEE]
        exact lie_head HG8.out HDL.out (by omega) HC0.out (by omega) (by unfold maxLen; omega)
end Go.Proofs.Ytmcahiebcflfoaa
