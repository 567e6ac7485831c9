import Derived.Test.YtmemelamgldpcaaVa
namespace Go.Proofs.Ytmemelamgldpcaa
open Go.RowKit

def trn (n v d : Int) : Int := if d - v % n ≤ 0 then d - v % n + n else d - v % n
def nok (n v d : Int) : Bool := nod n && (up v 1099511627776 && up d (n - 1))
def nexR (n v d : Int) : Int := if nok n v d then (if 1099511627776 - v < trn n v d then 0 else v + trn n v d) else 0
def nexE (n v d : Int) : Int := if nok n v d then (if 1099511627776 - v < trn n v d then 6 else 0) else 1
theorem nok_false {n v d : Int} (h : nok n v d = false) : nexR n v d = 0 ∧ nexE n v d = 1 := by unfold nexR nexE; rw [h]; exact ⟨rfl, rfl⟩
theorem nok_none {n v d : Int} (h : nok n v d = true) (h2 : 1099511627776 - v < trn n v d) : nexR n v d = 0 ∧ nexE n v d = 6 := by unfold nexR nexE; rw [h, if_pos rfl, if_pos rfl, if_pos h2, if_pos h2]; exact ⟨rfl, rfl⟩
theorem nok_some {n v d : Int} (h : nok n v d = true) (h2 : ¬ 1099511627776 - v < trn n v d) : nexR n v d = v + trn n v d ∧ nexE n v d = 0 := by unfold nexR nexE; rw [h, if_pos rfl, if_pos rfl, if_neg h2, if_neg h2]; exact ⟨rfl, rfl⟩
theorem nok_iff (n v d : Int) : nok n v d = true ↔ (n = 1 ∨ n = 3 ∨ n = 5 ∨ n = 7) ∧ (0 ≤ v ∧ v ≤ 1099511627776) ∧ 0 ≤ d ∧ d ≤ n - 1 := by
  unfold nok; rw [Bool.and_eq_true, Bool.and_eq_true, nod_iff, up_iff, up_iff]
set_option maxRecDepth 100000 in
theorem next_no {n v d : Int} (w : World) (hn : up n 7 = true) (h : nok n v d = false) : Calls Try.prog 11 #[.int .i64 n, .int .i64 v, .int .i64 d] w fun e w' => e = .returned (.tuple #[.int .i64 0, .int .i64 1]) ∧ w' = w := by
  have hb := (up_iff _ _).1 hn
  rcases hp : nod n && up v 1099511627776 with _ | _
  · have e0 : priE n v = 1 := by unfold priE; rw [hp]; rfl
    go_enter Try.func11, Try.ntmps11
    go_wp2_with (first | (go_at_call 10; refine (primary_any _ _ _).mono ?_; rintro e w' ⟨rfl, rfl⟩; rw [e0]))
    go_ret2
    exact ⟨rfl, rfl⟩
  · have e0 : priE n v = 0 := by unfold priE; rw [hp]; rfl
    have hd : up d (n - 1) = false := by unfold nok at h; rw [← Bool.and_assoc, hp] at h; simpa using h
    have hw : IntKind.i64.wrap (n - 1) = n - 1 := by rw [IntKind.wrap_i64] <;> omega
    go_enter Try.func11, Try.ntmps11
    go_wp2_with (first | (go_at_call 10; refine (primary_any _ _ _).mono ?_; rintro e w' ⟨rfl, rfl⟩; rw [e0]) | (go_at_call 24; refine (isUpTo_any _ _ _).mono ?_; rintro e w' ⟨rfl, rfl⟩; rw [hd]))
    go_ret2
    exact ⟨rfl, rfl⟩
set_option maxRecDepth 100000 in
theorem next_far {n v d : Int} (w : World) (hn : nod n = false) : Calls Try.prog 11 #[.int .i64 n, .int .i64 v, .int .i64 d] w fun e w' => e = .returned (.tuple #[.int .i64 0, .int .i64 1]) ∧ w' = w := by
  have e0 : priE n v = 1 := by unfold priE; rw [hn]; rfl
  go_enter Try.func11, Try.ntmps11
  go_wp2_with (first | (go_at_call 10; refine (primary_any _ _ _).mono ?_; rintro e w' ⟨rfl, rfl⟩; rw [e0]))
  go_ret2
  exact ⟨rfl, rfl⟩
set_option maxRecDepth 100000 in
theorem next_yes {n v d : Int} (w : World) (h : nok n v d = true) : Calls Try.prog 11 #[.int .i64 n, .int .i64 v, .int .i64 d] w fun e w' => e = .returned (.tuple #[.int .i64 (nexR n v d), .int .i64 (nexE n v d)]) ∧ w' = w := by
  obtain ⟨hb, hv, hd⟩ := (nok_iff n v d).1 h
  have e0 : priE n v = 0 := by unfold priE; rw [(nod_iff n).2 hb, (up_iff _ _).2 hv]; rfl
  obtain ⟨x, hx⟩ : ∃ x, x = v % n := ⟨_, rfl⟩
  have e1 : priR n v = x := by unfold priR; rw [(nod_iff n).2 hb, (up_iff _ _).2 hv, hx]; rfl
  have hxb : 0 ≤ x ∧ x < n := by rcases hb with rfl | rfl | rfl | rfl <;> omega
  have hup : up d (n - 1) = true := (up_iff _ _).2 hd
  have hn7 : n ≤ 7 := by omega
  have hw : IntKind.i64.wrap (n - 1) = n - 1 := by rw [IntKind.wrap_i64] <;> omega
  by_cases ht : d - x ≤ 0
  · have hT : trn n v d = d - x + n := by unfold trn; rw [← hx, if_pos ht]
    by_cases hm : 1099511627776 - v < d - x + n
    · rw [(nok_none h (by rw [hT]; exact hm)).1, (nok_none h (by rw [hT]; exact hm)).2]
      clear h hb hx hT
      go_enter Try.func11, Try.ntmps11
      go_wp2_with (first | (go_at_call 10; refine (primary_any _ _ _).mono ?_; rintro e w' ⟨rfl, rfl⟩; rw [e0, e1]) | (go_at_call 24; refine (isUpTo_any _ _ _).mono ?_; rintro e w' ⟨rfl, rfl⟩; rw [hup]))
      go_ret2
      exact ⟨rfl, rfl⟩
    · rw [(nok_some h (by rw [hT]; exact hm)).1, (nok_some h (by rw [hT]; exact hm)).2, hT]
      clear h hb hx hT
      go_enter Try.func11, Try.ntmps11
      go_wp2_with (first | (go_at_call 10; refine (primary_any _ _ _).mono ?_; rintro e w' ⟨rfl, rfl⟩; rw [e0, e1]) | (go_at_call 24; refine (isUpTo_any _ _ _).mono ?_; rintro e w' ⟨rfl, rfl⟩; rw [hup]))
      go_ret2
      exact ⟨rfl, rfl⟩
  · have hT : trn n v d = d - x := by unfold trn; rw [← hx, if_neg ht]
    by_cases hm : 1099511627776 - v < d - x
    · rw [(nok_none h (by rw [hT]; exact hm)).1, (nok_none h (by rw [hT]; exact hm)).2]
      clear h hb hx hT
      go_enter Try.func11, Try.ntmps11
      go_wp2_with (first | (go_at_call 10; refine (primary_any _ _ _).mono ?_; rintro e w' ⟨rfl, rfl⟩; rw [e0, e1]) | (go_at_call 24; refine (isUpTo_any _ _ _).mono ?_; rintro e w' ⟨rfl, rfl⟩; rw [hup]))
      go_ret2
      exact ⟨rfl, rfl⟩
    · rw [(nok_some h (by rw [hT]; exact hm)).1, (nok_some h (by rw [hT]; exact hm)).2, hT]
      clear h hb hx hT
      go_enter Try.func11, Try.ntmps11
      go_wp2_with (first | (go_at_call 10; refine (primary_any _ _ _).mono ?_; rintro e w' ⟨rfl, rfl⟩; rw [e0, e1]) | (go_at_call 24; refine (isUpTo_any _ _ _).mono ?_; rintro e w' ⟨rfl, rfl⟩; rw [hup]))
      go_ret2
      exact ⟨rfl, rfl⟩
theorem next_any (n v d : Int) (w : World) : Calls Try.prog 11 #[.int .i64 n, .int .i64 v, .int .i64 d] w fun e w' => e = .returned (.tuple #[.int .i64 (nexR n v d), .int .i64 (nexE n v d)]) ∧ w' = w := by
  rcases h : nok n v d with _ | _
  · rw [(nok_false h).1, (nok_false h).2]
    rcases hn : nod n with _ | _
    · exact next_far w hn
    · exact next_no w ((up_iff _ _).2 (by have := (nod_iff n).1 hn; omega)) h
  · exact next_yes w h
/-- where the reference's search ends -/
theorem trn_first {n v d : Int} (hb : n = 1 ∨ n = 3 ∨ n = 5 ∨ n = 7) (hd : 0 ≤ d ∧ d ≤ n - 1) : 1 ≤ trn n v d ∧ trn n v d ≤ n ∧ (v + trn n v d) % n = d ∧ ∀ k, 1 ≤ k → k < trn n v d → (v + k) % n ≠ d := by
  unfold trn
  rcases hb with rfl | rfl | rfl | rfl
  all_goals
    split
    · refine ⟨by omega, by omega, by omega, fun k h1 h2 => by omega⟩
    · refine ⟨by omega, by omega, by omega, fun k h1 h2 => by omega⟩
set_option maxRecDepth 100000 in
theorem rnext_no {n v d : Int} (w : World) (h : nok n v d = false) : Calls Try.prog 12 #[.int .i64 n, .int .i64 v, .int .i64 d] w fun e w' => e = .returned (.tuple #[.int .i64 0, .int .i64 1]) ∧ w' = w := by
  rcases hn : nod n with _ | _
  · go_enter Try.func12, Try.ntmps12
    go_wp2_with (first | (go_at_call 13; refine (rnodes_any _ _).mono ?_; rintro e w' ⟨rfl, rfl⟩; rw [hn]))
    go_ret2
    exact ⟨rfl, rfl⟩
  · have hc : v < 0 ∨ (¬ v < 0 ∧ 1099511627776 < v) ∨ (¬ v < 0 ∧ ¬ 1099511627776 < v ∧ d < 0) ∨ (¬ v < 0 ∧ ¬ 1099511627776 < v ∧ ¬ d < 0 ∧ n ≤ d) := by
      have h' : ¬ nok n v d = true := by simp [h]
      rw [nok_iff] at h'
      apply Classical.byContradiction
      intro hcc
      exact h' ⟨(nod_iff n).1 hn, by omega, by omega⟩
    rcases hc with h1 | ⟨h1, h2⟩ | ⟨h1, h2, h3⟩ | ⟨h1, h2, h3, h4⟩
    all_goals
      clear h
      go_enter Try.func12, Try.ntmps12
      go_wp2_with (first | (go_at_call 13; refine (rnodes_any _ _).mono ?_; rintro e w' ⟨rfl, rfl⟩; rw [hn]))
      go_ret2
      exact ⟨rfl, rfl⟩
set_option maxRecDepth 100000 in
theorem rnext_yes {n v d : Int} (w : World) (h : nok n v d = true) : Calls Try.prog 12 #[.int .i64 n, .int .i64 v, .int .i64 d] w fun e w' => e = .returned (.tuple #[.int .i64 (nexR n v d), .int .i64 (nexE n v d)]) ∧ w' = w := by
  obtain ⟨hb, hv, hd⟩ := (nok_iff n v d).1 h
  have hn := (nod_iff n).2 hb
  obtain ⟨t, ht⟩ : ∃ t, t = trn n v d := ⟨_, rfl⟩
  obtain ⟨t1, t2, t3, t4⟩ := trn_first (v := v) hb hd
  rw [← ht] at t1 t2 t3 t4
  have g1 : decide (v < 0) = false := decide_eq_false (by omega)
  have g2 : decide (1099511627776 < v) = false := decide_eq_false (by omega)
  have g3 : decide (d < 0) = false := decide_eq_false (by omega)
  have g4 : decide (n ≤ d) = false := decide_eq_false (by omega)
  have hF : ∀ k : Nat, 1 ≤ k → (k : Int) < t → ((v + k) % n == d) = false := fun k k1 k2 => by
    have := t4 k (by omega) k2
    simpa using this
  have hL : ∀ k : Nat, (k : Int) = t → ((v + k) % n == d) = true := fun k k1 => by
    rw [k1]; simpa using t3
  clear t3 t4
  replace hF := hid hF
  replace hL := hid hL
  by_cases hm : 1099511627776 - v < t
  · rw [(nok_none h (by rw [← ht]; exact hm)).1, (nok_none h (by rw [← ht]; exact hm)).2]
    clear h
    replace ht := hid ht
    rcases hb with rfl | rfl | rfl | rfl
    all_goals
      go_enter Try.func12, Try.ntmps12
      go_wp2_with (first | (go_at_call 13; refine (rnodes_any _ _).mono ?_; rintro e w' ⟨rfl, he⟩; rw [hn]; have he := he.symm; subst he))
      clear g1 g2 g3 g4
      go_loopw [8] (fun x wr => ∃ k : Nat, 1 ≤ k ∧ v + k ≤ 1099511627777 ∧ x = .int .i64 (v + k) ∧ wr = w) (fun x _ => (1099511627777 - intOf x).toNat)
      case atStart => exact ⟨1, by omega, by omega, rfl, rfl⟩
      case round =>
        obtain ⟨k, k1, k2, rfl, hwr⟩ := hrel
        replace hwr := hid hwr
        by_cases hlt : v + k ≤ 1099511627776
        · have hne := hF k k1 (by omega)
          first
          | (exfalso; clear hne; omega)
          | go_wp2
            go_roundw
            case rel => exact ⟨k + 1, by omega, by omega, by simp; omega, hwr⟩
            case measure => simp [intOf]; omega
        · go_wp2
          go_ret2
          exact ⟨rfl, hwr⟩
  · rw [(nok_some h (by rw [← ht]; exact hm)).1, (nok_some h (by rw [← ht]; exact hm)).2, ← ht]
    clear h
    replace ht := hid ht
    rcases hb with rfl | rfl | rfl | rfl
    all_goals
      go_enter Try.func12, Try.ntmps12
      go_wp2_with (first | (go_at_call 13; refine (rnodes_any _ _).mono ?_; rintro e w' ⟨rfl, he⟩; rw [hn]; have he := he.symm; subst he))
      clear g1 g2 g3 g4
      go_loopw [8] (fun x wr => ∃ k : Nat, 1 ≤ k ∧ (k : Int) ≤ t ∧ x = .int .i64 (v + k) ∧ wr = w) (fun x _ => (1099511627777 - intOf x).toNat)
      case atStart => exact ⟨1, by omega, by omega, rfl, rfl⟩
      case round =>
        obtain ⟨k, k1, k2, rfl, hwr⟩ := hrel
        replace hwr := hid hwr
        by_cases hlt : (k : Int) < t
        · have hne := hF k k1 hlt
          first
          | (exfalso; clear hne; omega)
          | go_wp2
            go_roundw
            case rel => exact ⟨k + 1, by omega, by omega, by simp; omega, hwr⟩
            case measure => simp [intOf]; omega
        · have hke : Hid ((k : Int) = t) := hid (by omega)
          have hne := hL k hke.out
          clear hlt
          go_wp2
          go_ret2
          exact ⟨by rw [← hke.out]; rfl, hwr⟩
theorem rnext_any (n v d : Int) (w : World) : Calls Try.prog 12 #[.int .i64 n, .int .i64 v, .int .i64 d] w fun e w' => e = .returned (.tuple #[.int .i64 (nexR n v d), .int .i64 (nexE n v d)]) ∧ w' = w := by
  rcases h : nok n v d with _ | _
  · rw [(nok_false h).1, (nok_false h).2]
    exact rnext_no w h
  · exact rnext_yes w h
end Go.Proofs.Ytmemelamgldpcaa
