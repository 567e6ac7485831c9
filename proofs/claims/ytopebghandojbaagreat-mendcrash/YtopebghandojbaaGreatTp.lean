import Derived.Test.YtopebghandojbaaGreatTo
namespace Go.Proofs.YtopebghandojbaaGreat
open Go.RowKit
/-- a block that is a transaction's head: its number, places, sum -/
def isHead (b : ByteArray) (seq : Nat) (ps : List Int) (sm : Nat) : Prop := unV b = (st (headL seq ps sm), 0) ∧ 1 ≤ seq ∧ seq ≤ 1099511627776 ∧ placesB ps = true ∧ sm < 4294967296
theorem places_in : ∀ {last : Int} {ps : List Int}, -1 ≤ last → risesI last ps = true → ∀ p ∈ ps, 0 ≤ p ∧ p < 1024
  | _, [], _, _, p, hp => by cases hp
  | last, x :: ps, hl, h, p, hp => by
    unfold risesI at h
    simp only [Bool.and_eq_true, decide_eq_true_eq] at h
    rcases List.mem_cons.1 hp with rfl | hp
    · omega
    · exact places_in (by omega) h.2.2 p hp
theorem placesB_iff {ps : List Int} : placesB ps = true ↔ risesI (-1) ps = true ∧ ps.length ≤ 48 := by
  unfold placesB; simp
theorem headT (seq : Nat) (ps : List Int) (sm : Nat) : isT (st (headL seq ps sm)) ∧ ((st (headL seq ps sm)).extract 1 (st (headL seq ps sm)).size).data.toList = fEnc seq 8 ++ fEnc ps.length 1 ++ plE ps ++ fEnc sm 4 := by
  refine ⟨?_, ?_⟩
  · unfold isT; rw [st_list, headL]; rfl
  · rw [ext_list, st_list, List.take_of_length_le (by rw [st_size]; exact Nat.le_refl _), headL]; rfl
theorem head_yes (b : ByteArray) (hb : b.size ≤ 150000000000000) (seq : Nat) (ps : List Int) (sm : Nat) (h : isHead b seq ps sm) (w : World) :
    Calls Tryz.prog 130 #[.string b] w fun e w' => ∃ pv, e = .returned (.tuple #[.agg #[.int .i64 seq, pv, .int .i64 sm], .bool true]) ∧ ILie w' pv ps ∧ Below w.heap.size w w' := by
  obtain ⟨hu, h1, h2, h3, h4⟩ := h
  obtain ⟨k1, k2⟩ := headT seq ps sm
  have hp := placesB_iff.1 h3
  have hin := places_in (Int.le_refl _) hp.1
  have := head_any b _ _ hb hu k1 rfl w
  obtain ⟨a1, a2, a3, a4⟩ := head_of _ seq ps sm (by omega) (fun p hp => by have := hin p hp; omega) (by omega) h4 k2
  have hok : hOk ((st (headL seq ps sm)).extract 1 (st (headL seq ps sm)).size) = true := by
    unfold hOk
    rw [a1, a2, a3, h3]
    simp; omega
  rw [a2, a3, a4, hok] at this
  exact this
theorem st_take1 {t : ByteArray} (h : isT t) : t.data.toList = [84] ++ (t.extract 1 t.size).data.toList := by
  have hl := len_list t
  rw [ext_list, List.take_of_length_le (l := t.data.toList) (by omega)]
  unfold isT at h
  rw [← h, List.take_append_drop]
theorem head_not (b : ByteArray) (hb : b.size ≤ 150000000000000) (h : ¬ ∃ seq ps sm, isHead b seq ps sm) (w : World) :
    Calls Tryz.prog 130 #[.string b] w fun e w' => ∃ (n1 n4 : Int) (ao : Option Addr) (k c : Nat), e = .returned (.tuple #[.agg #[.int .i64 n1, .slice ao k c, .int .i64 n4], .bool false]) ∧ Below w.heap.size w w' := by
  by_cases hT : (unV b).2 = 0 ∧ isT (unV b).1
  · have hu : unV b = ((unV b).1, 0) := by rw [← hT.1]
    refine (head_any b _ _ hb hu hT.2 rfl w).mono fun e w' ⟨pv, he, hl, hb⟩ => ?_
    obtain ⟨n, hn⟩ : ∃ n, n = (unV b).1.extract 1 (unV b).1.size := ⟨_, rfl⟩
    rw [← hn] at he hl
    have hno : hOk n = false := by
      cases hk : hOk n with
      | false => rfl
      | true =>
        exfalso
        apply h
        unfold hOk at hk
        simp only [Bool.and_eq_true, decide_eq_true_eq] at hk
        obtain ⟨k1, k2, k3⟩ := hk
        obtain ⟨m1, m2, m3, m4, m5⟩ := head_back n k1
        refine ⟨hN1 n, (hP n).1, hN4 n, ?_, by omega, by omega, k3, m2⟩
        rw [hu]
        congr 1
        rw [← st_toList (unV b).1, st_take1 hT.2, ← hn, m1]
        rfl
    obtain ⟨ao, cap, e1, _⟩ := hl
    rw [hno, e1] at he
    exact ⟨_, _, _, _, _, he, hb⟩
  · exact (head_no b hb hT w).mono fun e w' ⟨he, hb⟩ => ⟨0, 0, none, 0, 0, he, hb⟩
theorem decode_none (ao : Option Addr) (cap : Nat) (w : World) : Calls Tryz.prog 101 #[.slice ao 0 cap] w fun e w' => e = .returned (.tuple #[.int .i64 0, .slice none 0 0, .int .i64 0, .int .i64 20]) ∧ w' = w := by
  go_enter Tryz.func101, Tryz.ntmps101
  go_wp2
  refine bodyPost_ret (v := .tuple #[.int .i64 0, .slice none 0 0, .int .i64 0, .int .i64 20]) (by simp [results, Tryz.results101, go_sem]) rfl ⟨rfl, rfl⟩
set_option maxRecDepth 100000 in
set_option maxHeartbeats 1000000 in
theorem decode_form (v : Value) (b : ByteArray) (bl : List ByteArray) (w : World) (h : SLie w v (b :: bl)) (hb : b.size ≤ 150000000000000) (hh : ¬ ∃ seq ps sm, isHead b seq ps sm) :
    Calls Tryz.prog 101 #[v] w fun e w' => e = .returned (.tuple #[.int .i64 0, .slice none 0 0, .int .i64 0, .int .i64 4]) ∧ Below w.heap.size w w' := by
  obtain ⟨ao, cap, rfl, hlc, hcm, hcell⟩ := h
  obtain ⟨gb, off, rfl, hg, c0⟩ := hcell 0 (by simp)
  have HH := hid (fun w => head_not b hb hh w)
  rw [List.getElem_cons_zero, Nat.add_zero] at c0
  unfold maxLen at hcm
  rw [List.length_cons] at hlc ⊢
  clear hcell hh
  go_enter Tryz.func101, Tryz.ntmps101
  go_wp2_with (first
    | (go_at_call 130; refine (HH.out _).mono ?_; rintro e w1 ⟨n1, n4, pao, k, c, rfl, hb1⟩; have HB1 := hid hb1; clear hb1))
  refine bodyPost_ret (v := .tuple #[.int .i64 0, .slice none 0 0, .int .i64 0, .int .i64 4]) (by simp [results, Tryz.results101, go_sem]) rfl ⟨rfl, ?_⟩
  exact HB1.out.next (below_alloc _ _)
set_option maxRecDepth 100000 in
set_option maxHeartbeats 1000000 in
theorem decode_cut (v : Value) (b : ByteArray) (bl : List ByteArray) (w : World) (h : SLie w v (b :: bl)) (hb : b.size ≤ 150000000000000) (seq : Nat) (ps : List Int) (sm : Nat) (hh : isHead b seq ps sm) (hs : bl.length < ps.length) :
    Calls Tryz.prog 101 #[v] w fun e w' => e = .returned (.tuple #[.int .i64 0, .slice none 0 0, .int .i64 0, .int .i64 20]) ∧ Below w.heap.size w w' := by
  obtain ⟨ao, cap, rfl, hlc, hcm, hcell⟩ := h
  obtain ⟨gb, off, rfl, hg, c0⟩ := hcell 0 (by simp)
  have hpl : ps.length ≤ 48 := (placesB_iff.1 hh.2.2.2.1).2
  have HH := hid (fun w => head_yes b hb seq ps sm hh w)
  rw [List.getElem_cons_zero, Nat.add_zero] at c0
  unfold maxLen at hcm
  rw [List.length_cons] at hlc ⊢
  clear hcell hh
  go_enter Tryz.func101, Tryz.ntmps101
  go_wp2_with (go_at_call 130; fail)
  refine (HH.out _).mono ?_
  rintro e w1 ⟨pv, rfl, hl1, hb1⟩
  obtain ⟨pao, pcap, rfl, hp1, hp2, _⟩ := hl1
  have HB1 := hid hb1
  clear hb1
  unfold maxLen at hp2
  go_wp2
  refine bodyPost_ret (v := .tuple #[.int .i64 0, .slice none 0 0, .int .i64 0, .int .i64 20]) (by simp [results, Tryz.results101, go_sem]) rfl ⟨rfl, ?_⟩
  exact HB1.out.next (below_alloc _ _)
end Go.Proofs.YtopebghandojbaaGreat
