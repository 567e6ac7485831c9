import Derived.Test.YtiggfoijinnfmaaBa
namespace Go.Proofs.Ytiggfoijinnfmaa
open Go.RowKit

def formE (b : ByteArray) : Int := if b.size = 128 then 0 else 4
def bitE (b : ByteArray) (i : Int) : Int := if b.size = 128 then (if 0 ≤ i ∧ i < 1024 then 0 else 6) else 4
def rngE (b : ByteArray) (x y : Int) : Int := if b.size = 128 then (if 0 ≤ x ∧ x ≤ y ∧ y ≤ 1024 then 0 else 1) else 4
set_option maxRecDepth 100000 in
theorem form_any (b : ByteArray) (w : World) : Calls Try.prog 24 #[.string b] w fun e w' => e = .returned (.int .i64 (formE b)) ∧ w' = w := by
  by_cases h : b.size = 128
  · have hF : formE b = 0 := by unfold formE; rw [if_pos h]
    rw [hF]
    go_enter Try.func24, Try.ntmps24
    go_wp2
    go_ret
    exact ⟨rfl, rfl⟩
  · have hF : formE b = 4 := by unfold formE; rw [if_neg h]
    rw [hF]
    go_enter Try.func24, Try.ntmps24
    go_wp2
    go_ret
    exact ⟨rfl, rfl⟩
set_option maxRecDepth 100000 in
theorem bit_any (b : ByteArray) (i : Int) (w : World) : Calls Try.prog 18 #[.string b, .int .i64 i] w fun e w' => e = .returned (.int .i64 (bitE b i)) ∧ w' = w := by
  have HF := hid (form_any b)
  by_cases h : b.size = 128
  · have hF : formE b = 0 := by unfold formE; rw [if_pos h]
    rw [hF] at HF
    by_cases h0 : i < 0
    · have hE : bitE b i = 6 := by unfold bitE; rw [if_pos h, if_neg (by omega)]
      rw [hE]
      go_enter Try.func18, Try.ntmps18
      go_wp2_with (first | (go_at_call 24; refine (HF.out _).mono ?_; rintro e w1 ⟨rfl, rfl⟩))
      go_ret
      exact ⟨rfl, rfl⟩
    · by_cases h1 : i < 1024
      · have hE : bitE b i = 0 := by unfold bitE; rw [if_pos h, if_pos (by omega)]
        rw [hE]
        go_enter Try.func18, Try.ntmps18
        go_wp2_with (first | (go_at_call 24; refine (HF.out _).mono ?_; rintro e w1 ⟨rfl, rfl⟩))
        go_ret
        exact ⟨rfl, rfl⟩
      · have hE : bitE b i = 6 := by unfold bitE; rw [if_pos h, if_neg (by omega)]
        rw [hE]
        go_enter Try.func18, Try.ntmps18
        go_wp2_with (first | (go_at_call 24; refine (HF.out _).mono ?_; rintro e w1 ⟨rfl, rfl⟩))
        go_ret
        exact ⟨rfl, rfl⟩
  · have hF : formE b = 4 := by unfold formE; rw [if_neg h]
    rw [hF] at HF
    have hE : bitE b i = 4 := by unfold bitE; rw [if_neg h]
    rw [hE]
    go_enter Try.func18, Try.ntmps18
    go_wp2_with (first | (go_at_call 24; refine (HF.out _).mono ?_; rintro e w1 ⟨rfl, rfl⟩))
    go_ret
    exact ⟨rfl, rfl⟩
theorem rng_cases (b : ByteArray) (x y : Int) : (b.size ≠ 128 ∧ rngE b x y = 4) ∨ (b.size = 128 ∧ ((x < 0 ∧ rngE b x y = 1) ∨ (¬ x < 0 ∧ ((y < x ∧ rngE b x y = 1) ∨ (¬ y < x ∧ ((y > 1024 ∧ rngE b x y = 1) ∨ (¬ y > 1024 ∧ rngE b x y = 0))))))) := by
  unfold rngE
  by_cases h : b.size = 128
  · rw [if_pos h]
    right
    refine ⟨h, ?_⟩
    split <;> omega
  · rw [if_neg h]; left; exact ⟨h, rfl⟩
set_option maxRecDepth 100000 in
theorem rng_any (b : ByteArray) (x y : Int) (w : World) : Calls Try.prog 23 #[.string b, .int .i64 x, .int .i64 y] w fun e w' => e = .returned (.int .i64 (rngE b x y)) ∧ w' = w := by
  have HF := hid (form_any b)
  rcases rng_cases b x y with ⟨h, hE⟩ | ⟨h, ⟨h1, hE⟩ | ⟨h1, ⟨h2, hE⟩ | ⟨h2, ⟨h3, hE⟩ | ⟨h3, hE⟩⟩⟩⟩
  · have hF : formE b = 4 := by unfold formE; rw [if_neg h]
    rw [hF] at HF
    rw [hE]
    go_enter Try.func23, Try.ntmps23
    go_wp2_with (first | (go_at_call 24; refine (HF.out _).mono ?_; rintro e w1 ⟨rfl, rfl⟩))
    go_ret
    exact ⟨rfl, rfl⟩
  all_goals
    have hF : formE b = 0 := by unfold formE; rw [if_pos h]
    rw [hF] at HF
    rw [hE]
    go_enter Try.func23, Try.ntmps23
    go_wp2_with (first | (go_at_call 24; refine (HF.out _).mono ?_; rintro e w1 ⟨rfl, rfl⟩))
    go_ret
    exact ⟨rfl, rfl⟩
set_option maxRecDepth 100000 in
theorem ask_any (b : ByteArray) (x y : Int) (w : World) : Calls Try.prog 22 #[.string b, .int .i64 x, .int .i64 y] w fun e w' => e = .returned (.int .i64 (rngE b x y)) ∧ w' = w := by
  rcases rng_cases b x y with ⟨h, hE⟩ | ⟨h, ⟨h1, hE⟩ | ⟨h1, ⟨h2, hE⟩ | ⟨h2, ⟨h3, hE⟩ | ⟨h3, hE⟩⟩⟩⟩
  all_goals
    rw [hE]
    go_enter Try.func22, Try.ntmps22
    go_wp2
    go_ret
    exact ⟨rfl, rfl⟩
theorem pow8 (j : Nat) (h : j < 8) : (2 : Int) ^ j % 256 = 2 ^ j := by
  have : ∀ j : Fin 8, (2 : Int) ^ j.val % 256 = 2 ^ j.val := by decide
  exact this ⟨j, h⟩
set_option maxRecDepth 100000 in
theorem mask_any (i : Nat) (hi : i < 1024) (w : World) : Calls Try.prog 21 #[.int .i64 i] w fun e w' => e = .returned (.int .u8 (2 ^ (i % 8))) ∧ w' = w := by
  go_enter Try.func21, Try.ntmps21
  go_wp2
  go_ret
  exact ⟨ret_int (by first | rfl | exact pow8 _ (Nat.mod_lt _ (by decide))), rfl⟩
theorem wrap8 (i : Nat) (hi : i < 1024) : IntKind.i64.wrap ((i : Int) / 8) = ((i / 8 : Nat) : Int) := by
  rw [IntKind.wrap_i64]; omega
set_option maxRecDepth 100000 in
theorem taken_q (b : ByteArray) (i q r : Nat) (hw : IntKind.i64.wrap ((i : Int) / 8) = (q : Int)) (h8 : q < b.size) (hr : r < 8)
    (HM : ∀ w, Calls Try.prog 21 #[.int .i64 i] w fun e w' => e = .returned (.int .u8 (2 ^ r)) ∧ w' = w) (w : World) : Calls Try.prog 19 #[.string b, .int .i64 i] w fun e w' => e = .returned (.bool (b[q].toNat.testBit r)) ∧ ∃ m, w' = w.drewN m := by
  have HA : Hid ((bits .and .u8 (b[q].toNat : Int) (2 ^ r) == 0) = !(b[q].toNat.testBit r)) := bit_and b[q] ⟨r, hr⟩
  have h8' : (q : Int) < b.size := by omega
  clear hr
  obtain ⟨z, hz⟩ : ∃ z, z = b[q].toNat.testBit r := ⟨_, rfl⟩
  rw [← hz] at HA ⊢
  clear hz
  go_enter Try.func19, Try.ntmps19
  go_wp2
  go_quiet ((go_at_call 21; exact Calls.quiet_of_same (HM _)))
  go_wp2
  go_ret
  refine ⟨?_, _, rfl⟩
  show Ending.returned (.bool (!(bits .and .u8 (b[q].toNat : Int) (2 ^ r) == 0))) = _
  rw [HA.out, Bool.not_not]
theorem taken_any (b : ByteArray) (i : Nat) (hb : b.size = 128) (hi : i < 1024) (w : World) : Calls Try.prog 19 #[.string b, .int .i64 i] w fun e w' => e = .returned (.bool (tk b.data.toList i)) ∧ ∃ m, w' = w.drewN m := by
  rw [tk_get b i (by omega)]
  exact taken_q b i (i / 8) (i % 8) (wrap8 i hi) (by omega) (Nat.mod_lt _ (by decide)) (mask_any i hi) w
theorem bit_div (x r : Nat) : (((x / 2 ^ r : Nat) : Int) % 2 == 1) = x.testBit r := by
  rw [Nat.testBit_eq_decide_div_mod_eq]
  obtain ⟨y, hy⟩ : ∃ y, y = x / 2 ^ r := ⟨_, rfl⟩
  rw [← hy, Bool.eq_iff_iff, beq_iff_eq, decide_eq_true_iff]
  omega
set_option maxRecDepth 100000 in
theorem rbit_any (b : ByteArray) (i : Nat) (hb : b.size = 128) (hi : i < 1024) (w : World) : Calls Try.prog 20 #[.string b, .int .i64 i] w fun e w' => e = .returned (.bool (tk b.data.toList i)) ∧ w' = w := by
  have h8 : i / 8 < b.size := by omega
  rw [tk_get b i h8]
  obtain ⟨x, hx⟩ : ∃ x, x = b[i / 8].toNat := ⟨_, rfl⟩
  have hxl : x < 256 := by rw [hx]; exact b[i / 8].toNat_lt
  rw [← hx]
  go_enter Try.func20, Try.ntmps20
  go_wp2
  go_loop [5, 6] (fun n k => ∃ j : Nat, k = .int .i64 j ∧ j ≤ i % 8 ∧ n = .int .i64 ((x / 2 ^ j : Nat) : Int)) (fun _ k => i % 8 - (intOf k).toNat)
  case atStart => exact ⟨0, rfl, Nat.zero_le _, by rw [hx]; simp⟩
  case round =>
    obtain ⟨j, rfl, hj, rfl⟩ := hrel
    obtain ⟨y, hy⟩ : ∃ y, y = x / 2 ^ j := ⟨_, rfl⟩
    have hyl : y < 256 := by rw [hy]; exact Nat.lt_of_le_of_lt (Nat.div_le_self _ _) hxl
    have HY : Hid (x / 2 ^ (j + 1) = y / 2) := by show _ = _; rw [Nat.pow_succ, ← Nat.div_div_eq_div_mul, ← hy]
    have HB := hid (bit_div x j)
    rw [← hy] at HB ⊢
    clear hy
    by_cases hlt : j < i % 8
    · go_wp2
      go_round
      case rel => exact ⟨j + 1, by go_num, by omega, by rw [HY.out]; rfl⟩
      case measure => simp [intOf]; omega
    · have hje : j = i % 8 := by omega
      rw [hje] at HB
      go_wp2
      go_ret
      refine ⟨?_, rfl⟩
      rw [← hx, ← HB.out]
      rfl
def hasV (b : ByteArray) (i : Int) : Bool := if bitE b i = 0 then tk b.data.toList i.toNat else false
theorem bit_cases (b : ByteArray) (i : Int) : (b.size ≠ 128 ∧ bitE b i = 4 ∧ hasV b i = false) ∨ (b.size = 128 ∧ ((i < 0 ∧ bitE b i = 6 ∧ hasV b i = false) ∨ (¬ i < 0 ∧ 1024 ≤ i ∧ bitE b i = 6 ∧ hasV b i = false) ∨ (∃ n : Nat, i = (n : Int) ∧ n < 1024 ∧ bitE b i = 0 ∧ hasV b i = tk b.data.toList n))) := by
  by_cases h : b.size = 128
  · right
    refine ⟨h, ?_⟩
    by_cases h0 : i < 0
    · have e : bitE b i = 6 := by unfold bitE; rw [if_pos h, if_neg (by omega)]
      exact .inl ⟨h0, e, by unfold hasV; rw [e]; rfl⟩
    · by_cases h1 : i < 1024
      · have e : bitE b i = 0 := by unfold bitE; rw [if_pos h, if_pos (by omega)]
        exact .inr (.inr ⟨i.toNat, by omega, by omega, e, by unfold hasV; rw [e]; rfl⟩)
      · have e : bitE b i = 6 := by unfold bitE; rw [if_pos h, if_neg (by omega)]
        exact .inr (.inl ⟨h0, by omega, e, by unfold hasV; rw [e]; rfl⟩)
  · have e : bitE b i = 4 := by unfold bitE; rw [if_neg h]
    exact .inl ⟨h, e, by unfold hasV; rw [e]; rfl⟩
set_option maxRecDepth 100000 in
theorem has_any (b : ByteArray) (i : Int) (w : World) : Calls Try.prog 8 #[.string b, .int .i64 i] w fun e w' => e = .returned (.tuple #[.bool (hasV b i), .int .i64 (bitE b i)]) ∧ ∃ m, w' = w.drewN m := by
  have HE := hid (bit_any b i)
  rcases bit_cases b i with ⟨h, e, v⟩ | ⟨h, ⟨_, e, v⟩ | ⟨_, _, e, v⟩ | ⟨n, rfl, hn, e, v⟩⟩
  · rw [e] at HE; rw [e, v]
    go_enter Try.func8, Try.ntmps8
    go_wp2_with (first | (go_at_call 18; refine (HE.out _).mono ?_; rintro e w1 ⟨rfl, rfl⟩))
    go_ret2
    exact ⟨rfl, 0, rfl⟩
  · rw [e] at HE; rw [e, v]
    go_enter Try.func8, Try.ntmps8
    go_wp2_with (first | (go_at_call 18; refine (HE.out _).mono ?_; rintro e w1 ⟨rfl, rfl⟩))
    go_ret2
    exact ⟨rfl, 0, rfl⟩
  · rw [e] at HE; rw [e, v]
    go_enter Try.func8, Try.ntmps8
    go_wp2_with (first | (go_at_call 18; refine (HE.out _).mono ?_; rintro e w1 ⟨rfl, rfl⟩))
    go_ret2
    exact ⟨rfl, 0, rfl⟩
  · rw [e] at HE; rw [e, v]
    have HT := hid (taken_any b n h hn)
    go_enter Try.func8, Try.ntmps8
    go_wp2_with (first | (go_at_call 18; refine (HE.out _).mono ?_; rintro e w1 ⟨rfl, rfl⟩) | (go_at_call 19; refine (HT.out _).mono ?_; rintro e w2 ⟨rfl, m, rfl⟩))
    go_ret2
    exact ⟨rfl, _, rfl⟩
set_option maxRecDepth 100000 in
theorem rhas_any (b : ByteArray) (i : Int) (w : World) : Calls Try.prog 9 #[.string b, .int .i64 i] w fun e w' => e = .returned (.tuple #[.bool (hasV b i), .int .i64 (bitE b i)]) ∧ w' = w := by
  rcases bit_cases b i with ⟨h, e, v⟩ | ⟨h, ⟨_, e, v⟩ | ⟨_, _, e, v⟩ | ⟨n, rfl, hn, e, v⟩⟩
  · rw [e, v]
    go_enter Try.func9, Try.ntmps9
    go_wp2
    go_ret2
    exact ⟨rfl, rfl⟩
  · rw [e, v]
    go_enter Try.func9, Try.ntmps9
    go_wp2
    go_ret2
    exact ⟨rfl, rfl⟩
  · rw [e, v]
    go_enter Try.func9, Try.ntmps9
    go_wp2
    go_ret2
    exact ⟨rfl, rfl⟩
  · rw [e, v]
    have HT := hid (rbit_any b n h hn)
    go_enter Try.func9, Try.ntmps9
    go_wp2_with (first | (go_at_call 20; refine (HT.out _).mono ?_; rintro e w2 ⟨rfl, rfl⟩))
    go_ret2
    exact ⟨rfl, rfl⟩
end Go.Proofs.Ytiggfoijinnfmaa
