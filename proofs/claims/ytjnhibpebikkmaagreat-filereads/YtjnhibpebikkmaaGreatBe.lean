import Derived.Test.YtjnhibpebikkmaaGreatBd
namespace Go.Proofs.YtjnhibpebikkmaaGreat
open Go.RowKit

set_option maxRecDepth 100000 in
theorem count_no (b : ByteArray) (x y : Int) (h : rngE b x y ≠ 0) (w : World) : Calls Tryz.prog 39 #[.string b, .int .i64 x, .int .i64 y] w fun e w' => e = .returned (.tuple #[.int .i64 0, .int .i64 (rngE b x y)]) ∧ ∃ k, w' = w.drewN k := by
  have HE := hid (rng_any b x y)
  obtain ⟨n, hn⟩ : ∃ n, n = rngE b x y := ⟨_, rfl⟩
  rw [← hn] at HE h ⊢
  clear hn
  go_enter Tryz.func39, Tryz.ntmps39
  go_wp2_with (first | (go_at_call 66; refine (HE.out _).mono ?_; rintro e w1 ⟨rfl, rfl⟩))
  go_ret2
  exact ⟨rfl, 0, rfl⟩
set_option maxRecDepth 100000 in
theorem cntV_ok (b : ByteArray) (m n : Nat) (h : rngE b m ((m : Int) + n) = 0) : cntV b m ((m : Int) + n) = cnt b.data.toList m n := by
  unfold cntV
  rw [if_pos h, show ((m : Int) + n).toNat - (m : Int).toNat = n by omega]
  rfl
set_option maxRecDepth 100000 in
theorem count_any (b : ByteArray) (x y : Int) (w : World) : Calls Tryz.prog 39 #[.string b, .int .i64 x, .int .i64 y] w fun e w' => e = .returned (.tuple #[.int .i64 (cntV b x y), .int .i64 (rngE b x y)]) ∧ ∃ k, w' = w.drewN k := by
  by_cases h : rngE b x y = 0
  · obtain ⟨hb, m, n, rfl, rfl, hmn⟩ := rng_ok h
    rw [cntV_ok b m n h, h]
    exact count_ok b m n hb hmn w
  · unfold cntV
    rw [if_neg h]
    exact count_no b x y h w
/-- what is told of what was found -/
def optI : Option Nat → Int | some i => i | none => 0
def optE : Option Nat → Int | some _ => 0 | none => 5
set_option maxRecDepth 100000 in
theorem run_taken {l : List UInt8} {a bg c m : Nat} (h : ∀ s, a ≤ s → s < bg → ¬ freeW l s m) (hc : c < bg + m) (ht : tk l c = true) : ∀ s, a ≤ s → s < c + 1 → ¬ freeW l s m := by
  intro s h1 h2 hf
  by_cases h3 : s < bg
  · exact h s h1 h3 hf
  · have := hf c (by omega) (by omega)
    rw [ht] at this
    cases this
set_option maxRecDepth 100000 in
set_option maxHeartbeats 1000000 in
theorem run_ok (b : ByteArray) (a n : Nat) (m : Nat) (hb : b.size = 128) (hmn : a + n ≤ 1024) (hm : 1 ≤ m) (hm2 : m ≤ 9223372036854775807) (w : World) : Calls Tryz.prog 126 #[.string b, .int .i64 a, .int .i64 ((a : Int) + n), .int .i64 m] w fun e w' => ∃ r, RunIs b.data.toList a (a + n) m r ∧ e = .returned (.tuple #[.int .i64 (optI r), .int .i64 (optE r)]) ∧ ∃ k, w' = w.drewN k := by
  have HE := hid (rng_any b a ((a : Int) + n))
  have hE : rngE b a ((a : Int) + n) = 0 := by unfold rngE; rw [if_pos hb, if_pos (by omega)]
  rw [hE] at HE
  clear hE
  have HT := hid (fun i hi => taken_any b i hb hi)
  obtain ⟨l, hl⟩ : ∃ l, l = b.data.toList := ⟨_, rfl⟩
  rw [← hl] at HT ⊢
  clear hl
  obtain ⟨post, hpost⟩ : ∃ post, post = RunIs l a (a + n) m := ⟨_, rfl⟩
  rw [← hpost]
  have HP := hid hpost
  clear hpost
  go_enter Tryz.func126, Tryz.ntmps126
  go_wp2_with (first | (go_at_call 66; refine (HE.out _).mono ?_; rintro e w ⟨rfl, rfl⟩))
  go_loopw [11, 27] (fun c i wr => ∃ j g k : Nat, i = .int .i64 j ∧ j ≤ n ∧ c = .int .i64 g ∧ a ≤ g ∧ g ≤ a + j ∧ a + j < g + m ∧ (∀ t, g ≤ t → t < a + j → tk l t = false) ∧ (∀ s, a ≤ s → s < g → ¬ freeW l s m) ∧ wr = w.drewN k) (fun _ i _ => n - (intOf i).toNat)
  case atStart => exact ⟨0, a, 0, rfl, Nat.zero_le _, rfl, Nat.le_refl _, Nat.le_refl _, by omega, fun t h1 h2 => by omega, fun s h1 h2 => by omega, rfl⟩
  case round =>
    obtain ⟨j, g, k, rfl, hj, rfl, hg1, hg2, hg3, hfr, hno, rfl⟩ := hrel
    have HF := hid hfr
    have HN := hid hno
    clear hfr hno
    by_cases hlt : j < n
    · have HT2 := hid (HT.out (a + j) (by omega))
      cases htt : tk l (a + j) with
      | false =>
        rw [htt] at HT2
        have HTT := hid htt
        clear htt
        by_cases hq : a + j + 1 = g + m
        · have hq' : ((a : Int) + j - g == (m : Int) - 1) = true := by simp; omega
          have HQ := hid hq
          clear hq
          go_wp2_with (first | (go_at_call 67; refine (HT2.out _).mono ?_; rintro e w2 ⟨rfl, k2, rfl⟩))
          go_ret2
          refine ⟨some g, ?_, rfl, _, rfl⟩
          rw [HP.out]
          refine ⟨hg1, by have := HQ.out; omega, fun t h1 h2 => ?_, HN.out⟩
          by_cases h3 : t = a + j
          · rw [h3]; exact HTT.out
          · exact HF.out t h1 (by have := HQ.out; omega)
        · have hq' : ((a : Int) + j - g == (m : Int) - 1) = false := by simp; omega
          have HQ := hid hq
          clear hq
          go_wp2_with (first | (go_at_call 67; refine (HT2.out _).mono ?_; rintro e w2 ⟨rfl, k2, rfl⟩))
          go_roundw
          case rel =>
            refine ⟨j + 1, g, _, by go_num, by omega, rfl, hg1, by omega, by have := HQ.out; omega, fun t h1 h2 => ?_, HN.out, rfl⟩
            by_cases h3 : t = a + j
            · rw [h3]; exact HTT.out
            · exact HF.out t h1 (by omega)
          case measure => simp [intOf]; omega
      | true =>
        rw [htt] at HT2
        have HTT := hid htt
        clear htt
        go_wp2_with (first | (go_at_call 67; refine (HT2.out _).mono ?_; rintro e w2 ⟨rfl, k2, rfl⟩))
        go_roundw
        case rel => exact ⟨j + 1, a + j + 1, _, by go_num, by omega, by go_num, by omega, by omega, by omega, fun t h1 h2 => by omega, run_taken HN.out (by omega) HTT.out, rfl⟩
        case measure => simp [intOf]; omega
    · have hje : j = n := by omega
      subst hje
      go_wp2
      go_ret2
      refine ⟨none, ?_, rfl, k, rfl⟩
      rw [HP.out]
      intro s h1 h2 hf
      exact HN.out s h1 (by omega) hf
end Go.Proofs.YtjnhibpebikkmaaGreat
