import Derived.Test.YtiggfoijinnfmaaBe
namespace Go.Proofs.Ytiggfoijinnfmaa
open Go.RowKit

/-- what Run answers -/
def RunP (b : ByteArray) (x y m v e : Int) : Prop :=
  if rngE b x y = 0 then (if m < 1 then v = 0 ∧ e = 1 else ∃ r, RunIs b.data.toList x.toNat y.toNat m.toNat r ∧ v = optI r ∧ e = optE r) else v = 0 ∧ e = rngE b x y
theorem RunP.one {b : ByteArray} {x y m v e v' e' : Int} (h : RunP b x y m v e) (h' : RunP b x y m v' e') : v = v' ∧ e = e' := by
  unfold RunP at h h'
  split at h
  · rename_i h1
    rw [if_pos h1] at h'
    split at h
    · rename_i h2
      rw [if_pos h2] at h'
      exact ⟨h.1.trans h'.1.symm, h.2.trans h'.2.symm⟩
    · rename_i h2
      rw [if_neg h2] at h'
      obtain ⟨r, hr, rfl, rfl⟩ := h
      obtain ⟨r', hr', rfl, rfl⟩ := h'
      rw [hr.one hr']
      exact ⟨rfl, rfl⟩
  · rename_i h1
    rw [if_neg h1] at h'
    exact ⟨h.1.trans h'.1.symm, h.2.trans h'.2.symm⟩
set_option maxRecDepth 100000 in
theorem run_no (b : ByteArray) (x y m : Int) (h : rngE b x y ≠ 0) (w : World) : Calls Try.prog 15 #[.string b, .int .i64 x, .int .i64 y, .int .i64 m] w fun e w' => e = .returned (.tuple #[.int .i64 0, .int .i64 (rngE b x y)]) ∧ ∃ k, w' = w.drewN k := by
  have HE := hid (rng_any b x y)
  obtain ⟨n, hn⟩ : ∃ n, n = rngE b x y := ⟨_, rfl⟩
  rw [← hn] at HE h ⊢
  clear hn
  go_enter Try.func15, Try.ntmps15
  go_wp2_with (first | (go_at_call 23; refine (HE.out _).mono ?_; rintro e w1 ⟨rfl, rfl⟩))
  go_ret2
  exact ⟨rfl, 0, rfl⟩
set_option maxRecDepth 100000 in
theorem run_few (b : ByteArray) (x y m : Int) (h : rngE b x y = 0) (hm : m < 1) (w : World) : Calls Try.prog 15 #[.string b, .int .i64 x, .int .i64 y, .int .i64 m] w fun e w' => e = .returned (.tuple #[.int .i64 0, .int .i64 1]) ∧ ∃ k, w' = w.drewN k := by
  have HE := hid (rng_any b x y)
  rw [h] at HE
  clear h
  go_enter Try.func15, Try.ntmps15
  go_wp2_with (first | (go_at_call 23; refine (HE.out _).mono ?_; rintro e w1 ⟨rfl, rfl⟩))
  go_ret2
  exact ⟨rfl, 0, rfl⟩
theorem run_any (b : ByteArray) (x y m : Int) (hm : m ≤ 9223372036854775807) (w : World) : Calls Try.prog 15 #[.string b, .int .i64 x, .int .i64 y, .int .i64 m] w fun e w' => ∃ v f, RunP b x y m v f ∧ e = .returned (.tuple #[.int .i64 v, .int .i64 f]) ∧ ∃ k, w' = w.drewN k := by
  unfold RunP
  by_cases h : rngE b x y = 0
  · by_cases h1 : m < 1
    · refine (run_few b x y m h h1 w).mono fun e w' ⟨he, hk⟩ => ⟨0, 1, ?_, he, hk⟩
      rw [if_pos h, if_pos h1]
      exact ⟨rfl, rfl⟩
    · obtain ⟨hb, a, n, rfl, rfl, hmn⟩ := rng_ok h
      obtain ⟨k, rfl⟩ : ∃ k : Nat, m = k := ⟨m.toNat, by omega⟩
      refine (run_ok b a n k hb hmn (by omega) (by omega) w).mono fun e w' ⟨r, hr, he, hk⟩ => ⟨_, _, ?_, he, hk⟩
      rw [if_pos h, if_neg h1]
      refine ⟨r, ?_, rfl, rfl⟩
      rw [show ((a : Int) + n).toNat = a + n by omega]
      exact hr
  · refine (run_no b x y m h w).mono fun e w' ⟨he, hk⟩ => ⟨0, _, ?_, he, hk⟩
    rw [if_neg h]
    exact ⟨rfl, rfl⟩
set_option maxRecDepth 100000 in
theorem least_any (b : ByteArray) (x y : Int) (w : World) : Calls Try.prog 13 #[.string b, .int .i64 x, .int .i64 y] w fun e w' => ∃ v f, RunP b x y 1 v f ∧ e = .returned (.tuple #[.int .i64 v, .int .i64 f]) ∧ ∃ k, w' = w.drewN k := by
  have HR := hid (run_any b x y 1 (by decide))
  obtain ⟨post, hpost⟩ : ∃ post, post = RunP b x y 1 := ⟨_, rfl⟩
  rw [← hpost] at HR ⊢
  clear hpost
  go_enter Try.func13, Try.ntmps13
  go_wp2_with (first | (go_at_call 15; refine (HR.out _).mono ?_; rintro e w1 ⟨v, f, hp, rfl, k, rfl⟩))
  go_ret2
  exact ⟨v, f, hp, rfl, k, rfl⟩
theorem free_in (l : List UInt8) (i : Nat) : ∃ f : Nat → Bool, (∀ k, f k = true ↔ ∀ t, t < k → tk l (i + t) = false) ∧ f 0 = true ∧ ∀ k, f (k + 1) = (f k && !tk l (i + k)) := by
  refine ⟨fun k => (List.range k).all fun t => !tk l (i + t), fun k => by simp, rfl, fun k => ?_⟩
  simp [List.range_succ]
set_option maxRecDepth 100000 in
set_option maxHeartbeats 1000000 in
theorem rrun_ok (b : ByteArray) (a n : Nat) (m : Nat) (hb : b.size = 128) (hmn : a + n ≤ 1024) (hm : 1 ≤ m) (hm2 : m ≤ 9223372036854775807) (w : World) : Calls Try.prog 14 #[.string b, .int .i64 a, .int .i64 ((a : Int) + n), .int .i64 m] w fun e w' => ∃ r, RunIs b.data.toList a (a + n) m r ∧ e = .returned (.tuple #[.int .i64 (optI r), .int .i64 (optE r)]) ∧ w' = w := by
  have HE := hid (ask_any b a ((a : Int) + n))
  have hE : rngE b a ((a : Int) + n) = 0 := by unfold rngE; rw [if_pos hb, if_pos (by omega)]
  rw [hE] at HE
  clear hE
  have HT := hid (fun i hi => rbit_any b i hb hi)
  obtain ⟨l, hl⟩ : ∃ l, l = b.data.toList := ⟨_, rfl⟩
  rw [← hl] at HT ⊢
  clear hl
  obtain ⟨post, hpost⟩ : ∃ post, post = RunIs l a (a + n) m := ⟨_, rfl⟩
  rw [← hpost]
  have HP := hid hpost
  clear hpost
  go_enter Try.func14, Try.ntmps14
  go_wp2_with (first | (go_at_call 22; refine (HE.out _).mono ?_; rintro e w ⟨rfl, rfl⟩))
  go_loop [11] (fun i => ∃ j : Nat, i = .int .i64 ((a : Int) + j) ∧ j ≤ n ∧ (∀ s, a ≤ s → s < a + j → ¬ freeW l s m)) (fun i => a + n - (intOf i).toNat)
  case atStart => exact ⟨0, by simp, Nat.zero_le _, fun s h1 h2 => by omega⟩
  case round =>
    obtain ⟨j, rfl, hj, hno⟩ := hrel
    have HN := hid hno
    clear hno
    by_cases hlt : j < n ∧ m ≤ n - j
    · obtain ⟨hlt, hmj⟩ := hlt
      obtain ⟨f, hf1, hf2, hf3⟩ := free_in l (a + j)
      have HF1 := hid hf1
      have HF2 := hid hf2
      have HF3 := hid hf3
      clear hf1 hf2 hf3
      go_wp2
      go_loop [12, 13] (fun fr k => ∃ q : Nat, k = .int .i64 q ∧ q ≤ m ∧ fr = .bool (f q)) (fun _ k => m - (intOf k).toNat)
      case atStart => exact ⟨0, rfl, Nat.zero_le _, by rw [HF2.out]⟩
      case round =>
        obtain ⟨q, rfl, hq, rfl⟩ := hrel
        by_cases hqm : q < m
        · have HT2 := hid (HT.out (a + j + q) (by omega))
          have H3 := hid (HF3.out q)
          obtain ⟨z, hz⟩ : ∃ z, z = f q := ⟨_, rfl⟩
          obtain ⟨tt, htt⟩ : ∃ t, t = tk l (a + j + q) := ⟨_, rfl⟩
          rw [← hz] at H3 ⊢
          rw [← htt] at H3 HT2
          clear hz htt
          cases tt with
          | false =>
            go_wp2_with (first | (go_at_call 20; refine (HT2.out _).mono ?_; rintro e w2 ⟨rfl, rfl⟩))
            go_round
            case rel => exact ⟨q + 1, by go_num, by omega, by rw [H3.out, Bool.not_false, Bool.and_true]⟩
            case measure => simp [intOf]; omega
          | true =>
            go_wp2_with (first | (go_at_call 20; refine (HT2.out _).mono ?_; rintro e w2 ⟨rfl, rfl⟩))
            go_round
            case rel => exact ⟨q + 1, by go_num, by omega, by rw [H3.out, Bool.not_true, Bool.and_false]⟩
            case measure => simp [intOf]; omega
        · have hqe : q = m := by omega
          subst hqe
          have H1 := hid (HF1.out q)
          obtain ⟨z, hz⟩ : ∃ z, z = f q := ⟨_, rfl⟩
          rw [← hz] at H1 ⊢
          clear hz
          cases z with
          | true =>
            go_wp2
            go_ret2
            refine ⟨some (a + j), ?_, by simp [optI, optE], rfl⟩
            rw [HP.out]
            refine ⟨by omega, by omega, fun t h1 h2 => ?_, HN.out⟩
            have := (H1.out.1 (by trivial)) (t - (a + j)) (by omega)
            rw [show a + j + (t - (a + j)) = t by omega] at this
            exact this
          | false =>
            go_wp2
            go_round
            case rel =>
              refine ⟨j + 1, by go_num, by omega, fun s h1 h2 hf => ?_⟩
              by_cases h3 : s = a + j
              · subst h3
                have := H1.out.2 fun t ht => hf (a + j + t) (by omega) (by omega)
                cases this
              · exact HN.out s h1 (by omega) hf
            case measure => simp [intOf]; omega
    · have HL := hid hlt
      have hc : (j < n ∧ ¬ m ≤ n - j) ∨ j = n := by omega
      clear hlt
      rcases hc with ⟨h1, h2⟩ | h1
      · go_wp2
        go_ret2
        refine ⟨none, ?_, rfl, rfl⟩
        rw [HP.out]
        intro s h3 h4 hf
        exact HN.out s h3 (by omega) hf
      · go_wp2
        go_ret2
        refine ⟨none, ?_, rfl, rfl⟩
        rw [HP.out]
        intro s h3 h4 hf
        exact HN.out s h3 (by omega) hf
set_option maxRecDepth 100000 in
theorem rrun_no (b : ByteArray) (x y m : Int) (h : rngE b x y ≠ 0) (w : World) : Calls Try.prog 14 #[.string b, .int .i64 x, .int .i64 y, .int .i64 m] w fun e w' => e = .returned (.tuple #[.int .i64 0, .int .i64 (rngE b x y)]) ∧ w' = w := by
  have HE := hid (ask_any b x y)
  obtain ⟨n, hn⟩ : ∃ n, n = rngE b x y := ⟨_, rfl⟩
  rw [← hn] at HE h ⊢
  clear hn
  go_enter Try.func14, Try.ntmps14
  go_wp2_with (first | (go_at_call 22; refine (HE.out _).mono ?_; rintro e w1 ⟨rfl, rfl⟩))
  go_ret2
  exact ⟨rfl, rfl⟩
set_option maxRecDepth 100000 in
theorem rrun_few (b : ByteArray) (x y m : Int) (h : rngE b x y = 0) (hm : m < 1) (w : World) : Calls Try.prog 14 #[.string b, .int .i64 x, .int .i64 y, .int .i64 m] w fun e w' => e = .returned (.tuple #[.int .i64 0, .int .i64 1]) ∧ w' = w := by
  have HE := hid (ask_any b x y)
  rw [h] at HE
  clear h
  go_enter Try.func14, Try.ntmps14
  go_wp2_with (first | (go_at_call 22; refine (HE.out _).mono ?_; rintro e w1 ⟨rfl, rfl⟩))
  go_ret2
  exact ⟨rfl, rfl⟩
theorem rrun_any (b : ByteArray) (x y m : Int) (hm : m ≤ 9223372036854775807) (w : World) : Calls Try.prog 14 #[.string b, .int .i64 x, .int .i64 y, .int .i64 m] w fun e w' => ∃ v f, RunP b x y m v f ∧ e = .returned (.tuple #[.int .i64 v, .int .i64 f]) ∧ w' = w := by
  unfold RunP
  by_cases h : rngE b x y = 0
  · by_cases h1 : m < 1
    · refine (rrun_few b x y m h h1 w).mono fun e w' ⟨he, hk⟩ => ⟨0, 1, ?_, he, hk⟩
      rw [if_pos h, if_pos h1]
      exact ⟨rfl, rfl⟩
    · obtain ⟨hb, a, n, rfl, rfl, hmn⟩ := rng_ok h
      obtain ⟨k, rfl⟩ : ∃ k : Nat, m = k := ⟨m.toNat, by omega⟩
      refine (rrun_ok b a n k hb hmn (by omega) (by omega) w).mono fun e w' ⟨r, hr, he, hk⟩ => ⟨_, _, ?_, he, hk⟩
      rw [if_pos h, if_neg h1]
      refine ⟨r, ?_, rfl, rfl⟩
      rw [show ((a : Int) + n).toNat = a + n by omega]
      exact hr
  · refine (rrun_no b x y m h w).mono fun e w' ⟨he, hk⟩ => ⟨0, _, ?_, he, hk⟩
    rw [if_neg h]
    exact ⟨rfl, rfl⟩
end Go.Proofs.Ytiggfoijinnfmaa
