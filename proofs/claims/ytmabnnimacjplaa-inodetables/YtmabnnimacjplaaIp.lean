import Derived.Test.YtmabnnimacjplaaIo
namespace Go.Proofs.Ytmabnnimacjplaa
open Go.RowKit Go.Maps

set_option maxRecDepth 100000 in
set_option maxHeartbeats 1000000 in
theorem costs_walk (v : Value) (l : List Int) (w : World) (hl : ILie w v l) (hlen : l.length < 140737488355328) : Calls Try.prog 6 #[v] w fun e w' => e = .returned (.bool true) ∧ Below w.heap.size w w' := by
  have HC := hid (cost_any v l w hl)
  have HR : Hid (∀ w', Below w.heap.size w w' → Calls Try.prog 27 #[v] w' fun e w'' => e = .returned (.tuple #[.int .i64 (cosV l), .int .i64 (cosE l)]) ∧ w'' = w') := fun w' hb => rcost_any v l w' (hl.below hb) hlen
  have HS := hid speaks_any
  obtain ⟨a, ha⟩ : ∃ a, a = cosV l := ⟨_, rfl⟩
  obtain ⟨b, hb⟩ : ∃ a, a = cosE l := ⟨_, rfl⟩
  rw [← ha, ← hb] at HC HR
  clear ha hb hl
  go_enter Try.func6, Try.ntmps6
  go_wp2_with (first
    | (go_at_call 26; refine (HC.out).mono ?_; rintro x w1 ⟨rfl, hb1⟩)
    | (go_at_call 27; refine (HR.out _ hb1).mono ?_; rintro x w2 ⟨rfl, hw2⟩; rw [← hw2] at hb1; clear hw2)
    | (go_at_call 15; refine (HS.out _).mono ?_; rintro x w3 ⟨rfl, hb3⟩))
  go_ret
  exact ⟨rfl, hb1.next hb3⟩
theorem ILie.take {w : World} {ao : Option Addr} {cap k : Nat} {l : List Int} (h : ILie w (.slice ao l.length cap) l) (hk : k ≤ l.length) : ILie w (.slice ao k cap) (l.take k) := by
  obtain ⟨ao', cap', e, h1, h2, h3⟩ := h
  injection e with e1 e2 e3
  subst e1 e3
  have hlen : (l.take k).length = k := by rw [List.length_take]; omega
  refine ⟨ao, cap, by rw [hlen], by omega, h2, fun i hi => ?_⟩
  obtain ⟨gb, off, e1, hg, c0⟩ := h3 i (by omega)
  exact ⟨gb, off, e1, hg, by rw [c0, List.getElem_take]⟩
theorem getD_take (l : List Int) {k i : Nat} (h : i < k) : (l.take k).getD i 0 = l.getD i 0 := by
  rw [List.getD_eq_getElem?_getD, List.getD_eq_getElem?_getD, List.getElem?_take_of_lt h]
theorem stA_take (l : List Int) (k : Nat) : ∀ j, j ≤ k → stA (l.take k) j = stA l j
  | 0, _ => rfl
  | j + 1, h => by
    show stp _ _ = stp _ _
    rw [stA_take l k j (by omega), getD_take l (by omega)]
theorem okAt_take (l : List Int) {k i : Nat} (h : i < k) : okAt (l.take k) i = okAt l i := by
  unfold okAt
  rw [getD_take l h, getD_take l (by omega)]
theorem good_take {l : List Int} (h : goodB l = true) (k : Nat) (hk : k ≤ l.length) : goodB (l.take k) = true := by
  rw [goodB_iff] at h ⊢
  intro i hi
  rw [List.length_take] at hi
  rw [okAt_take l (by omega)]
  exact h i (by omega)
theorem stp_c (q : CS) (x : Int) : q.c ≤ (stp q x).c ∧ (stp q x).c ≤ q.c + 2 := by
  unfold stp
  split
  · simp only; split <;> omega
  · split
    · simp only; split <;> split <;> omega
    · omega
/-- with an index more -/
theorem cos_more {l : List Int} {k : Nat} (hk : l.length = k + 1) (h : cosE l = 0) : cosE (l.take k) = 0 ∧ cosV (l.take k) < cosV l ∧ ((k : Int) + 1) ≤ cosV l ∧ cosV l - cosV (l.take k) ≤ 3 ∧ 0 ≤ cosV (l.take k) ∧ cosV l ≤ 100000 := by
  have hg : goodB l = true := by
    unfold cosE at h
    split at h
    · assumption
    · cases h
  have hg2 := good_take hg k (by omega)
  have hl2 : (l.take k).length = k := by rw [List.length_take]; omega
  have hs := stp_c (stA l k) (l.getD k 0)
  have hgl := good_len hg
  have hc := stA_c l k
  unfold cosE cosV
  rw [if_pos hg2, if_pos hg2, if_pos hg, hl2, stA_take l k k (Nat.le_refl _), hk]
  have e : stA l (k + 1) = stp (stA l k) (l.getD k 0) := rfl
  rw [e]
  generalize stp (stA l k) (l.getD k 0) = q at hs ⊢
  generalize stA l k = p at hs hc ⊢
  refine ⟨rfl, ?_, ?_, ?_, ?_, ?_⟩ <;> omega
theorem cos_zero {l : List Int} (h : cosE l ≠ 0 ∨ l.length = 0) : cosV l = 0 := by
  rcases h with h | h
  · unfold cosE at h
    unfold cosV
    split at h
    · exact absurd rfl h
    · rename_i h1
      rw [if_neg h1]
  · have : l = [] := List.eq_nil_of_length_eq_zero h
    subst this
    decide
theorem place_inj {a b : Int} (h1 : plE a = 0) (h2 : plE b = 0) (e0 : pl0 a = pl0 b) (e1 : pl1 a = pl1 b) (e2 : pl2 a = pl2 b) : a = b := by
  have ha : isIx a = true := by
    unfold plE at h1
    split at h1
    · assumption
    · cases h1
  have hb : isIx b = true := by
    unfold plE at h2
    split at h2
    · assumption
    · cases h2
  unfold pl0 pl1 pl2 at *
  rw [if_pos ha, if_pos hb] at e0 e1 e2
  obtain ⟨n, rfl, _⟩ := ix_nat ha
  obtain ⟨m, rfl, _⟩ := ix_nat hb
  rcases lvl_cases n with ⟨_, a0, a1, a2⟩ | ⟨_, _, a0, a1, a2⟩ | ⟨_, a0, a1, a2⟩ <;> rcases lvl_cases m with ⟨_, b0, b1, b2⟩ | ⟨_, _, b0, b1, b2⟩ | ⟨_, b0, b1, b2⟩ <;> omega
set_option maxRecDepth 100000 in
set_option maxHeartbeats 2000000 in
theorem apart_walk (a b : Int) (v : Value) (l : List Int) (w : World) (hl : ILie w v l) (hlen : l.length < 140737488355328) : Calls Try.prog 8 #[.int .i64 a, .int .i64 b, v] w fun e w' => e = .returned (.bool true) ∧ Below w.heap.size w w' := by
  have HP := hid place_any
  have HS := hid speaks_any
  have hlc := hl
  obtain ⟨ao, cap, rfl, k1, k2, _⟩ := hlc
  have HC : Hid (∀ w', Below w.heap.size w w' → Calls Try.prog 26 #[.slice ao l.length cap] w' fun e w'' => e = .returned (.tuple #[.int .i64 (cosV l), .int .i64 (cosE l)]) ∧ Below w'.heap.size w' w'') := fun w' hb => cost_any _ l w' (hl.below hb)
  have HCT : Hid (∀ k, k ≤ l.length → ∀ w', Below w.heap.size w w' → Calls Try.prog 26 #[.slice ao k cap] w' fun e w'' => e = .returned (.tuple #[.int .i64 (cosV (l.take k)), .int .i64 (cosE (l.take k))]) ∧ Below w'.heap.size w' w'') := fun k hk w' hb => cost_any _ (l.take k) w' ((hl.take hk).below hb)
  have HZ : Hid (cosE l ≠ 0 ∨ l.length = 0 → cosV l = 0) := cos_zero
  have HM : Hid (∀ k, l.length = k + 1 → cosE l = 0 → cosE (l.take k) = 0 ∧ cosV (l.take k) < cosV l ∧ ((k : Int) + 1) ≤ cosV l ∧ cosV l - cosV (l.take k) ≤ 3 ∧ 0 ≤ cosV (l.take k) ∧ cosV l ≤ 100000) := fun k hk h => cos_more hk h
  have HI := hid (fun h1 h2 e0 e1 e2 => place_inj (a := a) (b := b) h1 h2 e0 e1 e2)
  obtain ⟨x0, hx0⟩ : ∃ x, x = pl0 a := ⟨_, rfl⟩
  obtain ⟨x1, hx1⟩ : ∃ x, x = pl1 a := ⟨_, rfl⟩
  obtain ⟨x2, hx2⟩ : ∃ x, x = pl2 a := ⟨_, rfl⟩
  obtain ⟨x3, hx3⟩ : ∃ x, x = plE a := ⟨_, rfl⟩
  obtain ⟨y0, hy0⟩ : ∃ x, x = pl0 b := ⟨_, rfl⟩
  obtain ⟨y1, hy1⟩ : ∃ x, x = pl1 b := ⟨_, rfl⟩
  obtain ⟨y2, hy2⟩ : ∃ x, x = pl2 b := ⟨_, rfl⟩
  obtain ⟨y3, hy3⟩ : ∃ x, x = plE b := ⟨_, rfl⟩
  have HPA := hid (HP.out a)
  have HPB := hid (HP.out b)
  rw [← hx0, ← hx1, ← hx2, ← hx3] at HPA HI
  rw [← hy0, ← hy1, ← hy2, ← hy3] at HPB HI
  clear hx0 hx1 hx2 hx3 hy0 hy1 hy2 hy3 HP k2
  obtain ⟨V, hV⟩ : ∃ x, x = cosV l := ⟨_, rfl⟩
  obtain ⟨E, hE⟩ : ∃ x, x = cosE l := ⟨_, rfl⟩
  rw [← hV, ← hE] at HC HZ HM
  clear hV hE hl
  have hB := Below.refl w.heap.size w
  have hdif : ¬ (x3 = 0 ∧ y3 = 0 ∧ a ≠ b ∧ x0 = y0 ∧ x1 = y1 ∧ x2 = y2) := fun ⟨h1, h2, h3, h4, h5, h6⟩ => h3 (HI.out h1 h2 h4 h5 h6)
  have HDF := hid hdif
  clear HI hdif
  by_cases hz : E ≠ 0 ∨ l.length = 0
  · have hV0 := HZ.out hz
    subst hV0
    have hzz : (E = 0) = False ∨ l.length = 0 := by
      rcases hz with h | h
      · exact .inl (eq_false h)
      · exact .inr h
    clear HM HZ HCT
    go_enter Try.func8, Try.ntmps8
    go_wp2_with (first
      | (go_at_call 20; have hk := HPA; clear hk; refine (HPA.out _).mono ?_; rintro x w1 ⟨rfl, hb1⟩; replace hB := hB.next hb1; clear hb1 HPA)
      | (go_at_call 20; refine (HPB.out _).mono ?_; rintro x w2 ⟨rfl, hb2⟩; replace hB := hB.next hb2; clear hb2 HPB)
      | (go_at_call 26; refine (HC.out _ hB).mono ?_; rintro x w3 ⟨rfl, hb3⟩; replace hB := hB.next hb3; clear hb3)
      | (go_at_call 15; refine (HS.out _).mono ?_; rintro x w4 ⟨rfl, hb4⟩; replace hB := hB.next hb4; clear hb4))
    all_goals
      go_ret
      first
        | exact ⟨rfl, hB⟩
        | (exfalso; have hh := HDF.out; clear HDF HC HS hB; simp_all; done)
  · obtain ⟨k, hk⟩ : ∃ k, l.length = k + 1 := ⟨l.length - 1, by omega⟩
    have hE0 : E = 0 := by omega
    subst hE0
    obtain ⟨m1, m2, m3, m4, m5, m6⟩ := HM.out k hk rfl
    have HT := hid (HCT.out k (by omega))
    obtain ⟨V2, hV2⟩ : ∃ x, x = cosV (l.take k) := ⟨_, rfl⟩
    rw [m1] at HT
    rw [← hV2] at HT m2 m4 m5
    have hl1 : ((l.length : Int) - 1).toNat = k := by omega
    rw [hk] at HC hlen k1 ⊢
    clear HM HZ HCT hz hV2 hk m1 hl1
    go_enter Try.func8, Try.ntmps8
    go_wp2_with (first
      | (go_at_call 20; have hk := HPA; clear hk; refine (HPA.out _).mono ?_; rintro x w1 ⟨rfl, hb1⟩; replace hB := hB.next hb1; clear hb1 HPA)
      | (go_at_call 20; refine (HPB.out _).mono ?_; rintro x w2 ⟨rfl, hb2⟩; replace hB := hB.next hb2; clear hb2 HPB)
      | (go_at_call 26; have hk := HC; clear hk; refine (HC.out _ hB).mono ?_; rintro x w3 ⟨rfl, hb3⟩; replace hB := hB.next hb3; clear hb3 HC)
      | (go_at_call 26; refine (HT.out _ hB).mono ?_; rintro x w4 ⟨rfl, hb4⟩; replace hB := hB.next hb4; clear hb4)
      | (go_at_call 15; refine (HS.out _).mono ?_; rintro x w5 ⟨rfl, hb5⟩; replace hB := hB.next hb5; clear hb5))
    all_goals
      go_ret
      first
        | exact ⟨rfl, hB⟩
        | (exfalso; have hh := HDF.out; clear HDF HC HS hB; simp_all; done)
end Go.Proofs.Ytmabnnimacjplaa
