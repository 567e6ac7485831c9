import Derived.Test.YtiggfoijinnfmaaBi
namespace Go.Proofs.Ytiggfoijinnfmaa
open Go.RowKit

theorem runP_bad {b : ByteArray} {x y m v f : Int} (h : RunP b x y m v f) (hf : f ≠ 0) : v = 0 := by
  unfold RunP at h
  split at h
  · split at h
    · exact h.1
    · obtain ⟨r, _, rfl, rfl⟩ := h
      cases r with
      | none => rfl
      | some i => exact absurd rfl hf
  · exact h.1
open Classical in
theorem runIs_some (l : List UInt8) (m : Nat) (hm : 1 ≤ m) : ∀ n a : Nat, ∃ r, RunIs l a (a + n) m r
  | 0, a => ⟨none, fun s h1 h2 => by omega⟩
  | n + 1, a => by
    obtain ⟨r, hr⟩ := runIs_some l m hm n (a + 1)
    by_cases h : m ≤ n + 1 ∧ freeW l a m
    · exact ⟨some a, Nat.le_refl _, by omega, h.2, fun s h1 h2 => by omega⟩
    · refine ⟨r, ?_⟩
      cases r with
      | none =>
        intro s h1 h2 hf
        by_cases e : s = a
        · subst e; exact h ⟨by omega, hf⟩
        · exact hr s (by omega) (by omega) hf
      | some i =>
        obtain ⟨r1, r2, r3, r4⟩ := hr
        refine ⟨by omega, by omega, r3, fun s h1 h2 hf => ?_⟩
        by_cases e : s = a
        · subst e; exact h ⟨by omega, hf⟩
        · exact r4 s (by omega) h2 hf
theorem runP_good {b : ByteArray} {x y m v : Int} (h : RunP b x y m v 0) : b.size = 128 ∧ ∃ a n k i : Nat, x = (a : Int) ∧ y = (a : Int) + n ∧ a + n ≤ 1024 ∧ m = (k : Int) ∧ 1 ≤ k ∧ v = (i : Int) ∧ RunIs b.data.toList a (a + n) k (some i) := by
  unfold RunP at h
  split at h
  · rename_i h0
    split at h
    · exact absurd h.2 (by decide)
    · rename_i h1
      obtain ⟨r, hr, rfl, hz⟩ := h
      cases r with
      | none => exact absurd hz (by decide)
      | some i =>
        obtain ⟨hb, a, n, rfl, rfl, hmn⟩ := rng_ok h0
        refine ⟨hb, a, n, m.toNat, i, rfl, rfl, hmn, by omega, by omega, rfl, ?_⟩
        rw [show ((a : Int) + n).toNat = a + n by omega] at hr
        exact hr
  · rename_i h0
    exact absurd h.2.symm h0
theorem runP_mk {b : ByteArray} {a n k : Nat} (hb : b.size = 128) (hmn : a + n ≤ 1024) (hk : 1 ≤ k) {r : Option Nat} (h : RunIs b.data.toList a (a + n) k r) : RunP b (a : Int) ((a : Int) + n) (k : Int) (optI r) (optE r) := by
  unfold RunP
  rw [if_pos (rngE_ok hb hmn), if_neg (by omega)]
  refine ⟨r, ?_, rfl, rfl⟩
  rw [show ((a : Int) + n).toNat = a + n by omega]
  exact h
theorem runP_some (b : ByteArray) (x y m : Int) : ∃ v f, RunP b x y m v f := by
  by_cases h : rngE b x y = 0
  · by_cases h1 : m < 1
    · exact ⟨0, 1, by unfold RunP; rw [if_pos h, if_pos h1]; exact ⟨rfl, rfl⟩⟩
    · obtain ⟨hb, a, n, rfl, rfl, hmn⟩ := rng_ok h
      obtain ⟨k, rfl⟩ : ∃ k : Nat, m = k := ⟨m.toNat, by omega⟩
      obtain ⟨r, hr⟩ := runIs_some b.data.toList k (by omega) n a
      exact ⟨_, _, runP_mk hb hmn (by omega) hr⟩
  · exact ⟨0, rngE b x y, by unfold RunP; rw [if_neg h]; exact ⟨rfl, rfl⟩⟩
set_option maxRecDepth 100000 in
set_option maxHeartbeats 1000000 in
theorem row_walk (b : ByteArray) (x y m : Int) (hm : m ≤ 9223372036854775807) (w : World) : Calls Try.prog 6 #[.string b, .agg #[.int .i64 x, .int .i64 y, .int .i64 m]] w fun e w' => e = .returned (.bool true) ∧ Below w.heap.size w w' := by
  obtain ⟨v, f, hp⟩ := runP_some b x y m
  have HR := hid (run_is b x y m v f hm hp)
  by_cases hf : f = 0
  · subst hf
    obtain ⟨hb, a, n, k, i, rfl, rfl, hmn, rfl, hk, rfl, hr⟩ := runP_good hp
    obtain ⟨r1, r2, r3, r4⟩ := hr
    have HC := hid (count_any b i ((i : Int) + k))
    have hc0 : cnt b.data.toList i k = 0 := (cnt_zero _ _ _).2 r3
    rw [cntV_ok b i k (rngE_ok hb (by omega)), hc0, rngE_ok hb (by omega)] at HC
    have hp2 : RunP b (a : Int) ((a : Int) + ((i + k - 1 - a : Nat) : Int)) (k : Int) 0 5 := runP_mk (r := none) hb (by omega) hk (fun s h1 h2 => r4 s h1 (by omega))
    rw [show (a : Int) + ((i + k - 1 - a : Nat) : Int) = (i : Int) + k - 1 by omega] at hp2
    have HR2 := hid (run_is b a _ k 0 5 hm hp2)
    clear hp hp2 r3 r4 hc0
    go_enter Try.func6, Try.ntmps6
    go_wp2_with (first
      | (go_at_call 15; refine (HR.out _).mono ?_; rintro e w1 ⟨rfl, k1, rfl⟩; clear HR)
      | (go_at_call 15; refine (HR2.out _).mono ?_; rintro e w2 ⟨rfl, k2, rfl⟩)
      | (go_at_call 16; refine (HC.out _).mono ?_; rintro e w4 ⟨rfl, k4, rfl⟩)
      | (go_at_call 12; refine (speaks_any _).mono ?_; rintro e w5 ⟨rfl, hb5⟩))
    go_ret
    exact ⟨rfl, (below_alloc w _).nextD hb5⟩
  · have hv := runP_bad hp hf
    subst hv
    clear hp
    go_enter Try.func6, Try.ntmps6
    go_wp2_with (first
      | (go_at_call 15; refine (HR.out _).mono ?_; rintro e w1 ⟨rfl, k1, rfl⟩; clear HR)
      | (go_at_call 12; refine (speaks_any _).mono ?_; rintro e w5 ⟨rfl, hb5⟩))
    go_ret
    exact ⟨rfl, (below_alloc w _).nextD hb5⟩
theorem least_full {l : List UInt8} {a n : Nat} {r : Option Nat} (h : RunIs l a (a + n) 1 r) : (optE r == 0) = decide (((cnt l a n : Nat) : Int) < n) := by
  have hfull := cnt_full l a n
  cases r with
  | none =>
    have : ¬ cnt l a n < n := by
      rw [hfull]
      rintro ⟨i, h1, h2, h3⟩
      exact h i h1 (by omega) fun k k1 k2 => by rw [show k = i by omega]; exact h3
    have e : decide (((cnt l a n : Nat) : Int) < n) = false := by simp; omega
    rw [e]; rfl
  | some i =>
    obtain ⟨r1, r2, r3, _⟩ := h
    have : cnt l a n < n := hfull.2 ⟨i, r1, by omega, r3 i (Nat.le_refl _) (by omega)⟩
    have e : decide (((cnt l a n : Nat) : Int) < n) = true := by simp; omega
    rw [e]; rfl
set_option maxRecDepth 100000 in
set_option maxHeartbeats 1000000 in
theorem sum_walk (b : ByteArray) (x y m mid : Int) (w : World) : Calls Try.prog 7 #[.string b, .agg #[.int .i64 x, .int .i64 y, .int .i64 m], .int .i64 mid] w fun e w' => e = .returned (.bool true) ∧ Below w.heap.size w w' := by
  by_cases h : rngE b x y = 0
  · obtain ⟨hb, a, n, rfl, rfl, hmn⟩ := rng_ok h
    have HC := hid (count_ok b a n hb hmn)
    have hcn := cnt_le b.data.toList a n
    by_cases hlo : mid < a
    · clear h
      obtain ⟨c, hc⟩ : ∃ c, c = cnt b.data.toList a n := ⟨_, rfl⟩
      rw [← hc] at HC hcn
      clear hc
      go_enter Try.func7, Try.ntmps7
      go_wp2_with (first
        | (go_at_call 16; refine (HC.out _).mono ?_; rintro e w4 ⟨rfl, k4, rfl⟩)
        | (go_at_call 12; refine (speaks_any _).mono ?_; rintro e w5 ⟨rfl, hb5⟩))
      go_ret
      exact ⟨rfl, (below_alloc w _).nextD hb5⟩
    · by_cases hhi : mid > (a : Int) + n
      · clear h
        obtain ⟨c, hc⟩ : ∃ c, c = cnt b.data.toList a n := ⟨_, rfl⟩
        rw [← hc] at HC hcn
        clear hc
        go_enter Try.func7, Try.ntmps7
        go_wp2_with (first
          | (go_at_call 16; refine (HC.out _).mono ?_; rintro e w4 ⟨rfl, k4, rfl⟩)
          | (go_at_call 12; refine (speaks_any _).mono ?_; rintro e w5 ⟨rfl, hb5⟩))
        go_ret
        exact ⟨rfl, (below_alloc w _).nextD hb5⟩
      · obtain ⟨p, q, rfl, rfl⟩ : ∃ p q : Nat, mid = (a : Int) + p ∧ n = p + q := ⟨(mid - a).toNat, (a + n - mid).toNat, by omega, by omega⟩
        have HP := hid (count_ok b a p hb (by omega))
        have HQ := hid (count_ok b (a + p) q hb (by omega))
        have hsum := cnt_add b.data.toList a p q
        obtain ⟨v, f, hp⟩ := runP_some b a ((a : Int) + ((p + q : Nat) : Int)) 1
        have HL := hid (least_is b _ _ v f hp)
        have hfe : (f == 0) = decide (((cnt b.data.toList a (p + q) : Nat) : Int) < ((p + q : Nat) : Int)) := by
          obtain ⟨r, hr⟩ := runIs_some b.data.toList 1 (by decide) (p + q) a
          obtain ⟨rfl, rfl⟩ := hp.one (runP_mk hb hmn (by decide) hr)
          exact least_full hr
        rw [hsum] at HC hcn hfe
        obtain ⟨c, hc⟩ : ∃ c, c = cnt b.data.toList a p := ⟨_, rfl⟩
        obtain ⟨d, hd⟩ : ∃ d, d = cnt b.data.toList (a + p) q := ⟨_, rfl⟩
        rw [← hc] at HP
        rw [← hd] at HQ
        rw [← hc, ← hd] at HC hcn hfe
        rw [show ((a + p : Nat) : Int) = (a : Int) + p by omega, show (a : Int) + p + q = (a : Int) + ((p + q : Nat) : Int) by omega] at HQ
        clear hc hd hsum hp h
        go_enter Try.func7, Try.ntmps7
        go_wp2_with (first
          | (go_at_call 16; refine (HC.out _).mono ?_; rintro e w1 ⟨rfl, k1, rfl⟩; clear HC)
          | (go_at_call 16; refine (HP.out _).mono ?_; rintro e w2 ⟨rfl, k2, rfl⟩; clear HP)
          | (go_at_call 16; refine (HQ.out _).mono ?_; rintro e w3 ⟨rfl, k3, rfl⟩; clear HQ)
          | (go_at_call 13; refine (HL.out _).mono ?_; rintro e w4 ⟨rfl, k4, rfl⟩)
          | (go_at_call 12; refine (speaks_any _).mono ?_; rintro e w5 ⟨rfl, hb5⟩))
        go_ret
        exact ⟨rfl, (below_alloc w _).nextD hb5⟩
  · have HC := hid (count_no b x y h)
    obtain ⟨n, hn⟩ : ∃ v, v = rngE b x y := ⟨_, rfl⟩
    rw [← hn] at HC h
    clear hn
    go_enter Try.func7, Try.ntmps7
    go_wp2_with (first
      | (go_at_call 16; refine (HC.out _).mono ?_; rintro e w4 ⟨rfl, k4, rfl⟩)
      | (go_at_call 12; refine (speaks_any _).mono ?_; rintro e w5 ⟨rfl, hb5⟩))
    go_ret
    exact ⟨rfl, (below_alloc w _).nextD hb5⟩
end Go.Proofs.Ytiggfoijinnfmaa
