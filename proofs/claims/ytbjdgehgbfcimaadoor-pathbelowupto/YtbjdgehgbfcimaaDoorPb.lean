import Derived.Test.YtbjdgehgbfcimaaDoorPa
namespace Go.Proofs.YtbjdgehgbfcimaaDoor
open Go.RowKit

/-- a slice that reads as strings -/
def SLie (w : World) (v : Value) (l : List ByteArray) : Prop :=
  ∃ ao cap, v = .slice ao l.length cap ∧ l.length ≤ cap ∧ cap ≤ maxLen ∧ ∀ i (hi : i < l.length), ∃ gb off, ao = some ⟨gb, off, none⟩ ∧ gb < w.heap.size ∧ w.cell? ⟨gb, off + i, none⟩ = some (.string l[i])
theorem SLie.below {w w' : World} {v : Value} {l : List ByteArray} (h : SLie w v l) (k : Below w.heap.size w w') : SLie w' v l := by
  obtain ⟨ao, cap, e, h1, h2, h3⟩ := h
  refine ⟨ao, cap, e, h1, h2, fun i hi => ?_⟩
  obtain ⟨gb, off, e1, hg, c0⟩ := h3 i hi
  exact ⟨gb, off, e1, Nat.lt_of_lt_of_le hg k.size, (k.cell (p := ⟨gb, off + i, none⟩) hg).trans c0⟩
theorem SLie.nil (w : World) : SLie w (.slice none 0 0) [] := ⟨none, 0, rfl, Nat.le_refl _, by decide, fun i hi => by simp at hi⟩
theorem drop_at {α : Type} (l : List α) (q : Nat) (h : q < l.length) : l.drop q = l[q] :: l.drop (q + 1) := List.drop_eq_getElem_cons h

def sameS : List ByteArray → List ByteArray → Bool
  | [], [] => true
  | a :: x, b :: y => (a.toList == b.toList) && sameS x y
  | _, _ => false
theorem toL_inj {a b : ByteArray} (h : a.toList = b.toList) : a = b := by
  rw [Lib.toList_data, Lib.toList_data] at h; exact ba_ext h
theorem sameS_iff : ∀ x y : List ByteArray, sameS x y = true ↔ x = y
  | [], [] => by simp [sameS]
  | [], _ :: _ => by simp [sameS]
  | _ :: _, [] => by simp [sameS]
  | a :: x, b :: y => by
    rw [sameS, Bool.and_eq_true, sameS_iff x y]
    simp only [beq_iff_eq, List.cons.injEq]
    exact ⟨fun h => ⟨toL_inj h.1, h.2⟩, fun h => ⟨by rw [h.1], h.2⟩⟩
theorem sameS_len {x y : List ByteArray} (h : ¬ x.length = y.length) : sameS x y = false := by
  cases e : sameS x y with
  | false => rfl
  | true => exact absurd (by rw [(sameS_iff x y).1 e]) h
theorem sameS_self (l : List ByteArray) : sameS l l = true := (sameS_iff l l).2 rfl
/-- do names begin with others? -/
def begS : List ByteArray → List ByteArray → Bool
  | _, [] => true
  | [], _ :: _ => false
  | a :: x, b :: y => (a.toList == b.toList) && begS x y
theorem begS_iff : ∀ x y : List ByteArray, begS x y = true ↔ ∃ z, x = y ++ z
  | x, [] => by simp [begS]
  | [], _ :: _ => by simp [begS]
  | a :: x, b :: y => by
    rw [begS, Bool.and_eq_true, begS_iff x y]
    simp only [beq_iff_eq, List.cons_append, List.cons.injEq]
    constructor
    · rintro ⟨h, z, rfl⟩; exact ⟨z, toL_inj h, rfl⟩
    · rintro ⟨z, rfl, rfl⟩; exact ⟨rfl, z, rfl⟩
theorem same_take (x y : List ByteArray) (h : y.length ≤ x.length) : sameS (x.take y.length) y = begS x y := by
  rw [Bool.eq_iff_iff, sameS_iff, begS_iff]
  constructor
  · intro e; exact ⟨x.drop y.length, by conv => lhs; rw [← List.take_append_drop y.length x, e]⟩
  · rintro ⟨z, rfl⟩; simp
set_option maxRecDepth 100000 in
set_option maxHeartbeats 2000000 in
theorem texts_any (v v' : Value) (l l' : List ByteArray) (w : World) (h : SLie w v l) (h' : SLie w v' l') : Calls Tryd.prog 13 #[v, v'] w fun e w' => e = .returned (.bool (sameS l l')) ∧ Below w.heap.size w w' := by
  obtain ⟨ao, cap, rfl, hlc, hcm, hcell⟩ := h
  obtain ⟨ao', cap', rfl, hlc', hcm', hcell'⟩ := h'
  have HC := hid hcell
  have HC' := hid hcell'
  clear hcell hcell'
  unfold maxLen at hcm hcm'
  by_cases hl : l.length = l'.length
  · obtain ⟨A, hA⟩ : ∃ A : Bool, A = sameS l l' := ⟨_, rfl⟩
    rw [← hA]
    have HA := hid hA
    clear hA
    obtain ⟨n, hn⟩ : ∃ n, n = l.length := ⟨_, rfl⟩
    have HN1 := hid hn
    have HN2 := hid (hn.trans hl)
    have hnb : n ≤ 9223372036854775807 := by omega
    rw [← hl, ← hn]
    clear hl hn
    go_enter Tryd.func13, Tryd.ntmps13
    go_wp2
    go_loopw [13] (fun i wr => ∃ (q : Nat), i = .int .i64 q ∧ q ≤ n ∧ sameS l l' = sameS (l.drop q) (l'.drop q) ∧ Below w.heap.size w wr) (fun i _ => n - (intOf i).toNat)
    case atStart => exact ⟨0, rfl, Nat.zero_le _, rfl, Below.refl _ _⟩
    case round =>
      obtain ⟨q, rfl, hq, hr, hB⟩ := hrel
      have HB := hid hB
      have HRR := hid hr
      clear hr hB
      by_cases hqk : q < n
      · obtain ⟨gb, off, e, hgl, c0⟩ := HC.out q (by rw [← HN1.out]; exact hqk)
        subst e
        obtain ⟨gb', off', e', hgl', d0⟩ := HC'.out q (by rw [← HN2.out]; exact hqk)
        subst e'
        have HD := hid (drop_at l q (by rw [← HN1.out]; exact hqk))
        have HD' := hid (drop_at l' q (by rw [← HN2.out]; exact hqk))
        obtain ⟨c, hc⟩ : ∃ c, c = l[q]'(by rw [← HN1.out]; exact hqk) := ⟨_, rfl⟩
        obtain ⟨d, hd⟩ : ∃ d, d = l'[q]'(by rw [← HN2.out]; exact hqk) := ⟨_, rfl⟩
        rw [← hc] at c0 HD
        rw [← hd] at d0 HD'
        clear hc hd
        replace c0 := (HB.out.cell (p := ⟨gb, off + q, none⟩) hgl).trans c0
        replace d0 := (HB.out.cell (p := ⟨gb', off' + q, none⟩) hgl').trans d0
        have hgr : gb < wr.heap.size := Nat.lt_of_lt_of_le hgl HB.out.size
        have hgr' : gb' < wr.heap.size := Nat.lt_of_lt_of_le hgl' HB.out.size
        have HN : Hid (sameS l l' = ((c.toList == d.toList) && sameS (l.drop (q + 1)) (l'.drop (q + 1)))) := by
          show _ = _
          rw [HRR.out, HD.out, HD'.out]; rfl
        cases a2 : (c.toList == d.toList) with
        | false =>
          rw [a2] at HN
          go_wp2
          go_quiet ((fail))
          go_wp2
          go_ret
          exact ⟨by rw [HA.out, HN.out]; rfl, below_drewN HB.out _⟩
        | true =>
          rw [a2] at HN
          go_wp2
          go_quiet ((fail))
          go_wp2
          go_roundw
          case rel => exact ⟨q + 1, by go_num, by omega, by rw [HN.out]; rfl, below_drewN HB.out _⟩
          case measure => simp [intOf]; omega
      · have hqe : q = n := by omega
        subst hqe
        go_wp2
        go_ret
        refine ⟨?_, HB.out⟩
        rw [HA.out, HRR.out, List.drop_of_length_le (by rw [← HN1.out]; exact Nat.le_refl _), List.drop_of_length_le (by rw [← HN2.out]; exact Nat.le_refl _)]; rfl
  · have HR := hid (sameS_len hl)
    rw [HR.out]
    have hlb : (((l.length : Nat) : Int) != ((l'.length : Nat) : Int)) = true := by simp; omega
    go_enter Tryd.func13, Tryd.ntmps13
    go_wp2
    go_ret
    exact ⟨rfl, Below.refl _ _⟩
set_option maxRecDepth 100000 in
set_option maxHeartbeats 2000000 in
theorem equal_any (v v' : Value) (l l' : List ByteArray) (w : World) (h : SLie w v l) (h' : SLie w v' l') : Calls Tryd.prog 30 #[v, v'] w fun e w' => e = .returned (.bool (sameS l l')) ∧ Below w.heap.size w w' := by
  obtain ⟨ao, cap, rfl, hlc, hcm, hcell⟩ := h
  obtain ⟨ao', cap', rfl, hlc', hcm', hcell'⟩ := h'
  have HC := hid hcell
  have HC' := hid hcell'
  clear hcell hcell'
  unfold maxLen at hcm hcm'
  by_cases hl : l.length = l'.length
  · obtain ⟨A, hA⟩ : ∃ A : Bool, A = sameS l l' := ⟨_, rfl⟩
    rw [← hA]
    have HA := hid hA
    clear hA
    obtain ⟨n, hn⟩ : ∃ n, n = l.length := ⟨_, rfl⟩
    have HN1 := hid hn
    have HN2 := hid (hn.trans hl)
    have hnb : n ≤ 9223372036854775807 := by omega
    rw [← hl, ← hn]
    clear hl hn
    go_enter Tryd.func30, Tryd.ntmps30
    go_wp2
    go_loopw [13] (fun i wr => ∃ (q : Nat), i = .int .i64 q ∧ q ≤ n ∧ sameS l l' = sameS (l.drop q) (l'.drop q) ∧ Below w.heap.size w wr) (fun i _ => n - (intOf i).toNat)
    case atStart => exact ⟨0, rfl, Nat.zero_le _, rfl, Below.refl _ _⟩
    case round =>
      obtain ⟨q, rfl, hq, hr, hB⟩ := hrel
      have HB := hid hB
      have HRR := hid hr
      clear hr hB
      by_cases hqk : q < n
      · obtain ⟨gb, off, e, hgl, c0⟩ := HC.out q (by rw [← HN1.out]; exact hqk)
        subst e
        obtain ⟨gb', off', e', hgl', d0⟩ := HC'.out q (by rw [← HN2.out]; exact hqk)
        subst e'
        have HD := hid (drop_at l q (by rw [← HN1.out]; exact hqk))
        have HD' := hid (drop_at l' q (by rw [← HN2.out]; exact hqk))
        obtain ⟨c, hc⟩ : ∃ c, c = l[q]'(by rw [← HN1.out]; exact hqk) := ⟨_, rfl⟩
        obtain ⟨d, hd⟩ : ∃ d, d = l'[q]'(by rw [← HN2.out]; exact hqk) := ⟨_, rfl⟩
        rw [← hc] at c0 HD
        rw [← hd] at d0 HD'
        clear hc hd
        replace c0 := (HB.out.cell (p := ⟨gb, off + q, none⟩) hgl).trans c0
        replace d0 := (HB.out.cell (p := ⟨gb', off' + q, none⟩) hgl').trans d0
        have hgr : gb < wr.heap.size := Nat.lt_of_lt_of_le hgl HB.out.size
        have hgr' : gb' < wr.heap.size := Nat.lt_of_lt_of_le hgl' HB.out.size
        have HN : Hid (sameS l l' = ((c.toList == d.toList) && sameS (l.drop (q + 1)) (l'.drop (q + 1)))) := by
          show _ = _
          rw [HRR.out, HD.out, HD'.out]; rfl
        cases a2 : (c.toList == d.toList) with
        | false =>
          rw [a2] at HN
          go_wp2
          go_quiet ((fail))
          go_wp2
          go_ret
          exact ⟨by rw [HA.out, HN.out]; rfl, below_drewN HB.out _⟩
        | true =>
          rw [a2] at HN
          go_wp2
          go_quiet ((fail))
          go_wp2
          go_roundw
          case rel => exact ⟨q + 1, by go_num, by omega, by rw [HN.out]; rfl, below_drewN HB.out _⟩
          case measure => simp [intOf]; omega
      · have hqe : q = n := by omega
        subst hqe
        go_wp2
        go_ret
        refine ⟨?_, HB.out⟩
        rw [HA.out, HRR.out, List.drop_of_length_le (by rw [← HN1.out]; exact Nat.le_refl _), List.drop_of_length_le (by rw [← HN2.out]; exact Nat.le_refl _)]; rfl
  · have HR := hid (sameS_len hl)
    rw [HR.out]
    have hlb : (((l.length : Nat) : Int) != ((l'.length : Nat) : Int)) = true := by simp; omega
    go_enter Tryd.func30, Tryd.ntmps30
    go_wp2
    go_ret
    exact ⟨rfl, Below.refl _ _⟩
set_option maxRecDepth 100000 in
set_option maxHeartbeats 2000000 in
theorem check_any (v : Value) (l : List ByteArray) (w : World) (h : SLie w v l) : Calls Tryd.prog 25 #[v] w fun e w' => e = .returned (.int .i64 (chkE l)) ∧ Below w.heap.size w w' := by
  obtain ⟨ao, cap, rfl, hlc, hcm, hcell⟩ := h
  have HC := hid hcell
  clear hcell
  unfold maxLen at hcm
  go_enter Tryd.func25, Tryd.ntmps25
  go_wp2
  go_loopw [8] (fun i wr => ∃ (q : Nat), i = .int .i64 q ∧ q ≤ l.length ∧ chkN l = chkN (l.drop q) ∧ Below w.heap.size w wr) (fun i _ => l.length - (intOf i).toNat)
  case atStart => exact ⟨0, rfl, Nat.zero_le _, rfl, Below.refl _ _⟩
  case round =>
    obtain ⟨q, rfl, hq, hr, hB⟩ := hrel
    have HB := hid hB
    have HRR := hid hr
    clear hr hB
    by_cases hqk : q < l.length
    · obtain ⟨gb, off, e, hgl, c0⟩ := HC.out q hqk
      subst e
      have HD := hid (drop_at l q hqk)
      obtain ⟨c, hc⟩ : ∃ c, c = l[q] := ⟨_, rfl⟩
      rw [← hc] at c0 HD
      clear hc
      replace c0 := (HB.out.cell (p := ⟨gb, off + q, none⟩) hgl).trans c0
      have hgr : gb < wr.heap.size := Nat.lt_of_lt_of_le hgl HB.out.size
      have HN : Hid (chkN l = if nmB c = 0 then chkN (l.drop (q + 1)) else nmB c) := by
        show _ = _
        rw [HRR.out, HD.out]; rfl
      have HA := hid (name_any c)
      obtain ⟨E, hE⟩ : ∃ E, E = nmB c := ⟨_, rfl⟩
      rw [← hE] at HN HA
      clear hE
      by_cases h0 : E = 0
      · subst h0
        go_wp2_with (first | (go_at_call 14; refine (HA.out _).mono ?_; rintro e w1 ⟨rfl, hb1⟩; have HB1 := hid hb1; clear hb1))
        go_roundw
        case rel => exact ⟨q + 1, by go_num, by omega, by rw [HN.out]; simp, below_next HB.out HB1.out⟩
        case measure => simp [intOf]; omega
      · have hne : (E != 0) = true := by simpa using h0
        go_wp2_with (first | (go_at_call 14; refine (HA.out _).mono ?_; rintro e w1 ⟨rfl, hb1⟩; have HB1 := hid hb1; clear hb1))
        go_ret
        exact ⟨ret_int (by rw [chkE_err] <;> rw [HN.out, if_neg h0]; exact h0), below_next HB.out HB1.out⟩
    · have E : Hid (chkN l = 0) := by
        show _ = _
        rw [HRR.out, List.drop_of_length_le (by omega)]; rfl
      by_cases h8 : 8 < l.length
      · go_wp2
        go_ret
        exact ⟨ret_int (by unfold chkE; rw [if_pos E.out, if_pos h8]), HB.out⟩
      · go_wp2
        go_ret
        exact ⟨ret_int (by unfold chkE; rw [if_pos E.out, if_neg h8]), HB.out⟩
set_option maxRecDepth 100000 in
set_option maxHeartbeats 2000000 in
theorem begins_any (v v' : Value) (l l' : List ByteArray) (w : World) (h : SLie w v l) (h' : SLie w v' l') : Calls Tryd.prog 31 #[v, v'] w fun e w' => e = .returned (.bool (begS l l')) ∧ Below w.heap.size w w' := by
  obtain ⟨ao, cap, rfl, hlc, hcm, hcell⟩ := h
  obtain ⟨ao', cap', rfl, hlc', hcm', hcell'⟩ := h'
  have HC := hid hcell
  have HC' := hid hcell'
  clear hcell hcell'
  unfold maxLen at hcm hcm'
  obtain ⟨A, hA⟩ : ∃ A : Bool, A = begS l l' := ⟨_, rfl⟩
  rw [← hA]
  have HA := hid hA
  clear hA
  go_enter Tryd.func31, Tryd.ntmps31
  go_wp2
  go_loopw [8] (fun i wr => ∃ (q : Nat), i = .int .i64 q ∧ q ≤ l'.length ∧ q ≤ l.length ∧ begS l l' = begS (l.drop q) (l'.drop q) ∧ Below w.heap.size w wr) (fun i _ => l'.length - (intOf i).toNat)
  case atStart => exact ⟨0, rfl, Nat.zero_le _, Nat.zero_le _, rfl, Below.refl _ _⟩
  case round =>
    obtain ⟨q, rfl, hq, hql, hr, hB⟩ := hrel
    have HB := hid hB
    have HRR := hid hr
    clear hr hB
    by_cases hqk : q < l'.length
    · obtain ⟨gb', off', e', hgl', d0⟩ := HC'.out q hqk
      subst e'
      have HD' := hid (drop_at l' q hqk)
      obtain ⟨d, hd⟩ : ∃ d, d = l'[q] := ⟨_, rfl⟩
      rw [← hd] at d0 HD'
      clear hd
      replace d0 := (HB.out.cell (p := ⟨gb', off' + q, none⟩) hgl').trans d0
      have hgr' : gb' < wr.heap.size := Nat.lt_of_lt_of_le hgl' HB.out.size
      by_cases hqa : q < l.length
      · obtain ⟨gb, off, e, hgl, c0⟩ := HC.out q hqa
        subst e
        have HD := hid (drop_at l q hqa)
        obtain ⟨c, hc⟩ : ∃ c, c = l[q] := ⟨_, rfl⟩
        rw [← hc] at c0 HD
        clear hc
        replace c0 := (HB.out.cell (p := ⟨gb, off + q, none⟩) hgl).trans c0
        have hgr : gb < wr.heap.size := Nat.lt_of_lt_of_le hgl HB.out.size
        have HN : Hid (begS l l' = ((c.toList == d.toList) && begS (l.drop (q + 1)) (l'.drop (q + 1)))) := by
          show _ = _
          rw [HRR.out, HD.out, HD'.out]; rfl
        have hqb : decide ((l.length : Int) ≤ (q : Int)) = false := by simp; omega
        cases a2 : (c.toList == d.toList) with
        | false =>
          rw [a2] at HN
          go_wp2
          go_quiet ((fail))
          go_wp2
          go_ret
          exact ⟨by rw [HA.out, HN.out]; rfl, below_drewN HB.out _⟩
        | true =>
          rw [a2] at HN
          go_wp2
          go_quiet ((fail))
          go_wp2
          go_roundw
          case rel => exact ⟨q + 1, by go_num, by omega, by omega, by rw [HN.out]; rfl, below_drewN HB.out _⟩
          case measure => simp [intOf]; omega
      · have hqe : q = l.length := by omega
        have HN : Hid (begS l l' = false) := by
          show _ = _
          rw [HRR.out, HD'.out, List.drop_of_length_le (by omega)]; rfl
        have hqb : decide ((l.length : Int) ≤ (q : Int)) = true := by simp; omega
        clear hqe
        go_wp2
        go_quiet ((fail))
        go_wp2
        go_ret
        exact ⟨by rw [HA.out, HN.out]; rfl, below_drewN HB.out _⟩
    · have hqe : q = l'.length := by omega
      subst hqe
      go_wp2
      go_ret
      refine ⟨?_, HB.out⟩
      rw [HA.out, HRR.out, List.drop_of_length_le (Nat.le_refl _)]
      cases (l.drop l'.length) <;> rfl
end Go.Proofs.YtbjdgehgbfcimaaDoor
