import Derived.Test.YtbjdgehgbfcimaaDoorPc
namespace Go.Proofs.YtbjdgehgbfcimaaDoor
open Go.RowKit

/-- Below's answers -/
def belE (p o : List UInt8) : Int := if splE p = 0 then splE o else splE p
def belB (p o : List UInt8) : Bool := if belE p o = 0 then decide ((splL o).length < (splL p).length) && begS (splL p) (splL o) else false
set_option maxRecDepth 100000 in
set_option maxHeartbeats 2000000 in
theorem below_any (s t : ByteArray) (w : World) (hs : s.size ≤ 1048576) (ht : t.size ≤ 1048576) : Calls Tryd.prog 21 #[.string s, .string t] w fun e w' => e = .returned (.tuple #[.bool (belB s.data.toList t.data.toList), .int .i64 (belE s.data.toList t.data.toList)]) ∧ Below w.heap.size w w' := by
  have HS := hid (split_any s w hs)
  have HT := hid (fun w => split_any t w ht)
  obtain ⟨p, hp⟩ : ∃ p, p = s.data.toList := ⟨_, rfl⟩
  obtain ⟨o, ho⟩ : ∃ o, o = t.data.toList := ⟨_, rfl⟩
  rw [← hp] at HS ⊢
  rw [← ho] at HT ⊢
  clear hp ho hs ht
  by_cases h0 : splE p = 0
  · have e1 : belE p o = splE o := by simp [belE, h0]
    rw [e1]
    rw [h0] at HS
    by_cases h1 : splE o = 0
    · rw [h1] at HT ⊢
      have e2 : belB p o = (decide ((splL o).length < (splL p).length) && begS (splL p) (splL o)) := by unfold belB; rw [if_pos (by rw [e1, h1])]
      rw [e2]
      have HE := hid (fun (h : (splL o).length < (splL p).length) => same_take (splL p) (splL o) (by omega))
      have H8 := (good_join (splL_ok p)).2
      have H8' := (good_join (splL_ok o)).2
      obtain ⟨L, hL⟩ : ∃ L, L = splL p := ⟨_, rfl⟩
      obtain ⟨M, hM⟩ : ∃ M, M = splL o := ⟨_, rfl⟩
      rw [← hL] at HS HE H8 ⊢
      rw [← hM] at HT HE H8' ⊢
      clear hL hM e1 e2 h0 h1
      by_cases hlt : M.length < L.length
      · have E := hid (HE.out hlt)
        have hd : decide (M.length < L.length) = true := by simpa using hlt
        rw [hd, ← E.out, Bool.true_and]
        clear hd E HE
        obtain ⟨A, hA⟩ : ∃ A, A = sameS (L.take M.length) M := ⟨_, rfl⟩
        rw [← hA]
        have HA := hid hA
        clear hA
        go_enter Tryd.func21, Tryd.ntmps21
        go_upto_region 5 with (first
          | (go_at_call 9; have hk := HV1; clear hk; refine (HT.out _).mono ?_; rintro e w2 ⟨v2, rfl, hv2, hb2⟩; have HV2 := hid hv2; have HB2 := hid hb2; clear hb2 hv2)
          | (go_at_call 9; refine (HS.out).mono ?_; rintro e w1 ⟨v1, rfl, hv1, hb1⟩; have HV1 := hid hv1; have HB1 := hid hb1; clear hb1 hv1))
        replace HV1 := hid (HV1.out.below HB2.out)
        obtain ⟨ao, cap, e1, hc1, hc2, hc3⟩ := HV1.out
        obtain ⟨ao2, cap2, e2, hd1, hd2, hd3⟩ := HV2.out
        subst e1 e2
        have HC := hid (HV1.out.cut M.length (by omega))
        clear hc3 hd3
        unfold maxLen at hc2 hd2
        obtain ⟨gb, off, e, _⟩ : ∃ gb off, ao = some ⟨gb, off, none⟩ ∧ True := by
          obtain ⟨ao', cap', e, _, _, h3⟩ := HV1.out
          cases e
          obtain ⟨gb, off, e, _⟩ := h3 0 (by omega)
          exact ⟨gb, off, e, trivial⟩
        subst e
        have i0 : (0 : Int) ≤ (M.length : Int) := by omega
        have i1 : (M.length : Int) ≤ (cap : Int) := by omega
        have i5 : M.length ≤ cap := by omega
        go_wp2_with (first
          | (go_at_call 30; refine (equal_any _ _ _ _ _ HC.out HV2.out).mono ?_; rintro e w3 ⟨rfl, hb3⟩; have HB3 := hid hb3; clear hb3))
        go_ret2
        exact ⟨by rw [HA.out]; rfl, below_next (below_next HB1.out HB2.out) HB3.out⟩
      · have hd : decide (M.length < L.length) = false := by simpa using hlt
        rw [hd, Bool.false_and]
        clear hd HE
        go_enter Tryd.func21, Tryd.ntmps21
        go_upto_region 5 with (first
          | (go_at_call 9; have hk := HV1; clear hk; refine (HT.out _).mono ?_; rintro e w2 ⟨v2, rfl, hv2, hb2⟩; have HV2 := hid hv2; have HB2 := hid hb2; clear hb2 hv2)
          | (go_at_call 9; refine (HS.out).mono ?_; rintro e w1 ⟨v1, rfl, hv1, hb1⟩; have HV1 := hid hv1; have HB1 := hid hb1; clear hb1 hv1))
        obtain ⟨ao, cap, e1, hc1, hc2, hc3⟩ := HV1.out
        obtain ⟨ao2, cap2, e2, hd1, hd2, hd3⟩ := HV2.out
        subst e1 e2
        clear hc3 hd3
        go_wp2
        go_ret2
        exact ⟨rfl, below_next HB1.out HB2.out⟩
    · have e2 : belB p o = false := by unfold belB; rw [if_neg (by rw [e1]; exact h1)]
      rw [e2]
      obtain ⟨E, hE⟩ : ∃ E, E = splE o := ⟨_, rfl⟩
      rw [← hE] at HT h1 ⊢
      have hne : (E != 0) = true := by simpa using h1
      clear hE e1 e2 h0
      go_enter Tryd.func21, Tryd.ntmps21
      go_wp2_with (first
        | (go_at_call 9; have hk := HB1; clear hk; refine (HT.out _).mono ?_; rintro e w2 ⟨v2, rfl, hv2, hb2⟩; have HB2 := hid hb2; clear hb2 hv2)
        | (go_at_call 9; refine (HS.out).mono ?_; rintro e w1 ⟨v1, rfl, hv1, hb1⟩; have HB1 := hid hb1; clear hb1 hv1))
      go_ret2
      exact ⟨rfl, below_next HB1.out HB2.out⟩
  · have e1 : belE p o = splE p := by simp [belE, h0]
    have e2 : belB p o = false := by unfold belB; rw [if_neg (by rw [e1]; exact h0)]
    rw [e1, e2]
    obtain ⟨E, hE⟩ : ∃ E, E = splE p := ⟨_, rfl⟩
    rw [← hE] at HS h0 ⊢
    have hne : (E != 0) = true := by simpa using h0
    clear hE e1 e2 HT
    go_enter Tryd.func21, Tryd.ntmps21
    go_wp2_with (first
      | (go_at_call 9; refine (HS.out).mono ?_; rintro e w1 ⟨v1, rfl, hv1, hb1⟩; have HB1 := hid hb1; clear hb1 hv1))
    go_ret2
    exact ⟨rfl, HB1.out⟩
/-- the order -/
def cmpS : List ByteArray → List ByteArray → Int
  | [], [] => 0
  | [], _ :: _ => -1
  | _ :: _, [] => 1
  | a :: x, b :: y => if Lib.compareBytes a.data.toList b.data.toList = 0 then cmpS x y else Lib.compareBytes a.data.toList b.data.toList
def lessS : List ByteArray → List ByteArray → Bool
  | [], [] => false
  | [], _ :: _ => true
  | _ :: _, [] => false
  | a :: x, b :: y => if (a.toList == b.toList) = true then lessS x y else Op.bytesLess a.toList b.toList
theorem cmp_less : ∀ a b : List UInt8, (Lib.compareBytes a b = 0 ↔ a = b) ∧ (decide (Lib.compareBytes a b < 0) = Op.bytesLess a b)
  | [], [] => by simp [Lib.compareBytes, Op.bytesLess]
  | [], _ :: _ => by simp [Lib.compareBytes, Op.bytesLess]
  | _ :: _, [] => by simp [Lib.compareBytes, Op.bytesLess]
  | a :: x, b :: y => by
    have ih := cmp_less x y
    rw [Lib.compareBytes, Op.bytesLess]
    by_cases h1 : a < b
    · have hne : a ≠ b := by intro e; subst e; rw [UInt8.lt_iff_toNat_lt] at h1; omega
      rw [if_pos h1]
      simp [hne, h1]
    · rw [if_neg h1]
      by_cases h2 : b < a
      · have hne : a ≠ b := by intro e; subst e; rw [UInt8.lt_iff_toNat_lt] at h2; omega
        rw [if_pos h2]
        simp [hne, h1]
      · rw [if_neg h2]
        have e : a = b := UInt8.toNat_inj.1 (by rw [UInt8.lt_iff_toNat_lt] at h1 h2; omega)
        subst e
        simp [h1, ih.1, ih.2]
theorem cmpS_less : ∀ a b : List ByteArray, decide (cmpS a b < 0) = lessS a b
  | [], [] => by simp [cmpS, lessS]
  | [], _ :: _ => by simp [cmpS, lessS]
  | _ :: _, [] => by simp [cmpS, lessS]
  | a :: x, b :: y => by
    rw [cmpS, lessS]
    have h := cmp_less a.data.toList b.data.toList
    by_cases h0 : Lib.compareBytes a.data.toList b.data.toList = 0
    · have e := ba_ext (h.1.1 h0)
      subst e
      rw [if_pos h0, if_pos (by simp), cmpS_less x y]
    · have hne : ¬ a = b := fun e => h0 (h.1.2 (by rw [e]))
      rw [if_neg h0, if_neg (by rw [str_ne hne]; simp), h.2, Lib.toList_data, Lib.toList_data]
theorem less1_any (a b : ByteArray) (w : World) : Calls Tryd.prog 27 #[.string a, .string b] w fun e w' => e = .returned (.int .i64 (Lib.compareBytes a.data.toList b.data.toList)) ∧ w' = w := by
  have HC := hid (compare_any a b)
  obtain ⟨E, hE⟩ : ∃ E, E = Lib.compareBytes a.data.toList b.data.toList := ⟨_, rfl⟩
  rw [← hE] at HC ⊢
  clear hE
  go_enter Tryd.func27, Tryd.ntmps27
  go_wp2_with (first
    | (go_at_call 28; refine (HC.out _).mono ?_; rintro e w1 ⟨rfl, hw⟩; have hw := hw.symm; subst hw))
  go_ret
  exact ⟨rfl, rfl⟩
set_option maxRecDepth 100000 in
set_option maxHeartbeats 2000000 in
theorem compareFunc_any (v v' : Value) (l l' : List ByteArray) (w : World) (h : SLie w v l) (h' : SLie w v' l') : Calls Tryd.prog 29 #[v, v', .func (.func 27) #[] #[]] w fun e w' => e = .returned (.int .i64 (cmpS l l')) ∧ w' = w := by
  obtain ⟨ao, cap, rfl, hlc, hcm, hcell⟩ := h
  obtain ⟨ao', cap', rfl, hlc', hcm', hcell'⟩ := h'
  have HC := hid hcell
  have HC' := hid hcell'
  clear hcell hcell'
  unfold maxLen at hcm hcm'
  obtain ⟨A, hA⟩ : ∃ A, A = cmpS l l' := ⟨_, rfl⟩
  rw [← hA]
  have HA := hid hA
  clear hA
  go_enter Tryd.func29, Tryd.ntmps29
  go_wp2
  go_loopw [13] (fun i wr => ∃ (q : Nat), i = .int .i64 q ∧ q ≤ l.length ∧ q ≤ l'.length ∧ cmpS l l' = cmpS (l.drop q) (l'.drop q) ∧ wr = w) (fun i _ => l.length - (intOf i).toNat)
  case atStart => exact ⟨0, rfl, Nat.zero_le _, Nat.zero_le _, rfl, rfl⟩
  case round =>
    obtain ⟨q, rfl, hq, hq', hr, hw⟩ := hrel
    subst hw
    have HRR := hid hr
    clear hr
    by_cases hqk : q < l.length
    · obtain ⟨gb, off, e, hgl, c0⟩ := HC.out q hqk
      subst e
      have HD := hid (drop_at l q hqk)
      obtain ⟨c, hc⟩ : ∃ c, c = l[q] := ⟨_, rfl⟩
      rw [← hc] at c0 HD
      clear hc
      by_cases hqa : q < l'.length
      · obtain ⟨gb', off', e', hgl', d0⟩ := HC'.out q hqa
        subst e'
        have HD' := hid (drop_at l' q hqa)
        obtain ⟨d, hd⟩ : ∃ d, d = l'[q] := ⟨_, rfl⟩
        rw [← hd] at d0 HD'
        clear hd
        have HN : Hid (cmpS l l' = if Lib.compareBytes c.data.toList d.data.toList = 0 then cmpS (l.drop (q + 1)) (l'.drop (q + 1)) else Lib.compareBytes c.data.toList d.data.toList) := by
          show _ = _
          rw [HRR.out, HD.out, HD'.out]; rfl
        have HL := hid (less1_any c d)
        obtain ⟨E, hE⟩ : ∃ E, E = Lib.compareBytes c.data.toList d.data.toList := ⟨_, rfl⟩
        rw [← hE] at HN HL
        clear hE
        by_cases h0 : E = 0
        · subst h0
          go_wp2_with (first | (go_at_call 27; refine (HL.out _).mono ?_; rintro e w1 ⟨rfl, hw⟩; have hw := hw.symm; subst hw))
          go_roundw
          case rel => exact ⟨q + 1, by go_num, by omega, by omega, by rw [HN.out]; simp, trivial⟩
          case measure => simp [intOf]; omega
        · have hne : (E != 0) = true := by simpa using h0
          go_wp2_with (first | (go_at_call 27; refine (HL.out _).mono ?_; rintro e w1 ⟨rfl, hw⟩; have hw := hw.symm; subst hw))
          go_ret
          exact ⟨ret_int (by rw [HA.out, HN.out, if_neg h0]), rfl⟩
      · have hqb : decide ((l'.length : Int) ≤ (q : Int)) = true := by simp; omega
        have HN : Hid (cmpS l l' = 1) := by
          show _ = _
          rw [HRR.out, HD.out, List.drop_of_length_le (l := l') (by omega)]; rfl
        go_wp2
        go_ret
        exact ⟨ret_int (by rw [HA.out, HN.out]), rfl⟩
    · have hqe : q = l.length := by omega
      by_cases hqa : q < l'.length
      · have HN : Hid (cmpS l l' = -1) := by
          show _ = _
          rw [HRR.out, drop_at l' q hqa, List.drop_of_length_le (l := l) (by omega)]; rfl
        subst hqe
        go_wp2
        go_ret
        exact ⟨ret_int (by rw [HA.out, HN.out]), rfl⟩
      · have HN : Hid (cmpS l l' = 0) := by
          show _ = _
          rw [HRR.out, List.drop_of_length_le (l := l) (by omega), List.drop_of_length_le (l := l') (by omega)]; rfl
        subst hqe
        go_wp2
        go_ret
        exact ⟨ret_int (by rw [HA.out, HN.out]), rfl⟩
/-- Less -/
theorem less_any (v v' : Value) (l l' : List ByteArray) (w : World) (h : SLie w v l) (h' : SLie w v' l') : Calls Tryd.prog 19 #[v, v'] w fun e w' => e = .returned (.bool (lessS l l')) ∧ w' = w := by
  have HC := hid (compareFunc_any v v' l l' w h h')
  rw [← cmpS_less]
  obtain ⟨E, hE⟩ : ∃ E, E = cmpS l l' := ⟨_, rfl⟩
  rw [← hE] at HC ⊢
  clear hE h h'
  go_enter Tryd.func19, Tryd.ntmps19
  go_wp2_with (first
    | (go_at_call 29; refine (HC.out).mono ?_; rintro e w1 ⟨rfl, hw⟩; have hw := hw.symm; subst hw))
  go_ret
  exact ⟨rfl, rfl⟩
set_option maxRecDepth 100000 in
set_option maxHeartbeats 2000000 in
theorem rless_any (v v' : Value) (l l' : List ByteArray) (w : World) (h : SLie w v l) (h' : SLie w v' l') : Calls Tryd.prog 20 #[v, v'] w fun e w' => e = .returned (.bool (lessS l l')) ∧ Below w.heap.size w w' := by
  obtain ⟨ao, cap, rfl, hlc, hcm, hcell⟩ := h
  obtain ⟨ao', cap', rfl, hlc', hcm', hcell'⟩ := h'
  have HC := hid hcell
  have HC' := hid hcell'
  clear hcell hcell'
  unfold maxLen at hcm hcm'
  obtain ⟨A, hA⟩ : ∃ A, A = lessS l l' := ⟨_, rfl⟩
  rw [← hA]
  have HA := hid hA
  clear hA
  go_enter Tryd.func20, Tryd.ntmps20
  go_wp2
  go_loopw [8] (fun i wr => ∃ (q : Nat), i = .int .i64 q ∧ q ≤ l.length ∧ q ≤ l'.length ∧ lessS l l' = lessS (l.drop q) (l'.drop q) ∧ Below w.heap.size w wr) (fun i _ => l.length - (intOf i).toNat)
  case atStart => exact ⟨0, rfl, Nat.zero_le _, Nat.zero_le _, rfl, Below.refl _ _⟩
  case round =>
    obtain ⟨q, rfl, hq, hq', hr, hB⟩ := hrel
    have HRR := hid hr
    have HB := hid hB
    clear hr hB
    by_cases hqk : q < l.length
    · obtain ⟨gb, off, e, hgl, c0⟩ := HC.out q hqk
      subst e
      have HD := hid (drop_at l q hqk)
      obtain ⟨c, hc⟩ : ∃ c, c = l[q] := ⟨_, rfl⟩
      rw [← hc] at c0 HD
      clear hc
      replace c0 := (HB.out.cell (p := ⟨gb, off + q, none⟩) hgl).trans c0
      have hgr : gb < wr.heap.size := Nat.lt_of_lt_of_le hgl HB.out.size
      by_cases hqa : q < l'.length
      · obtain ⟨gb', off', e', hgl', d0⟩ := HC'.out q hqa
        subst e'
        have HD' := hid (drop_at l' q hqa)
        obtain ⟨d, hd⟩ : ∃ d, d = l'[q] := ⟨_, rfl⟩
        rw [← hd] at d0 HD'
        clear hd
        replace d0 := (HB.out.cell (p := ⟨gb', off' + q, none⟩) hgl').trans d0
        have hgr' : gb' < wr.heap.size := Nat.lt_of_lt_of_le hgl' HB.out.size
        have HN : Hid (lessS l l' = if (c.toList == d.toList) = true then lessS (l.drop (q + 1)) (l'.drop (q + 1)) else Op.bytesLess c.toList d.toList) := by
          show _ = _
          rw [HRR.out, HD.out, HD'.out]; rfl
        cases a2 : (c.toList == d.toList) with
        | true =>
          rw [a2, if_pos rfl] at HN
          go_wp2
          go_quiet ((fail))
          go_wp2
          go_roundw
          case rel => exact ⟨q + 1, by go_num, by omega, by omega, by rw [HN.out], below_drewN HB.out _⟩
          case measure => simp [intOf]; omega
        | false =>
          rw [a2, if_neg (by simp)] at HN
          go_wp2
          go_quiet ((fail))
          go_wp2
          go_quiet ((fail))
          go_wp2
          go_ret
          exact ⟨by rw [HA.out, HN.out]; rfl, below_drewN (below_drewN HB.out _) _⟩
      · have hqb : decide ((l'.length : Int) ≤ (q : Int)) = true := by simp; omega
        have HN : Hid (lessS l l' = false) := by
          show _ = _
          rw [HRR.out, HD.out, List.drop_of_length_le (l := l') (by omega)]; rfl
        go_wp2
        go_ret
        exact ⟨by rw [HA.out, HN.out]; rfl, HB.out⟩
    · have hqe : q = l.length := by omega
      by_cases hqa : q < l'.length
      · have HN : Hid (lessS l l' = true) := by
          show _ = _
          rw [HRR.out, drop_at l' q hqa, List.drop_of_length_le (l := l) (by omega)]; rfl
        subst hqe
        go_wp2
        go_ret
        exact ⟨by rw [HA.out, HN.out]; simp, HB.out⟩
      · have HN : Hid (lessS l l' = false) := by
          show _ = _
          rw [HRR.out, List.drop_of_length_le (l := l) (by omega), List.drop_of_length_le (l := l') (by omega)]; rfl
        subst hqe
        go_wp2
        go_ret
        exact ⟨by rw [HA.out, HN.out]; simp, HB.out⟩
end Go.Proofs.YtbjdgehgbfcimaaDoor
