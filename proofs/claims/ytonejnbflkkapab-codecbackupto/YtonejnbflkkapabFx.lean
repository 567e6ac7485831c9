import Derived.Test.YtonejnbflkkapabRf
namespace Go.Proofs.Ytonejnbflkkapab
open Go.RowKit

theorem uintr_nil (w : World) : Calls Try.prog 15 #[.pointer none] w fun x w' => x = .returned (.tuple #[.int .i64 0, .int .i64 20]) ∧ w' = w := by
  go_enter Try.func15, Try.ntmps15
  go_wp2_with (first | (go_at_call 36; refine (fault_nil _).mono ?_; rintro x w' ⟨rfl, hw⟩; subst hw))
  go_ret2
  exact ⟨rfl, rfl⟩
theorem intr_nil (w : World) : Calls Try.prog 17 #[.pointer none] w fun x w' => x = .returned (.tuple #[.int .i64 0, .int .i64 20]) ∧ w' = w := by
  go_enter Try.func17, Try.ntmps17
  go_wp2_with (first | (go_at_call 36; refine (fault_nil _).mono ?_; rintro x w' ⟨rfl, hw⟩; subst hw))
  go_ret2
  exact ⟨rfl, rfl⟩
/-- is a size one? -/
def sized (n : Int) : Bool := decide (n = 1 ∨ n = 2 ∨ n = 4 ∨ n = 8)
theorem sized_of {n : Int} (h : sized n = true) : n = 1 ∨ n = 2 ∨ n = 4 ∨ n = 8 := of_decide_eq_true h
theorem isSize_is (n : Int) (w : World) : Calls Try.prog 41 #[.int .i64 n] w fun e w' => e = .returned (.bool (sized n)) ∧ w' = w := isSize_any n w
theorem refSized (n : Int) (w : World) : Calls Try.prog 28 #[.int .i64 n] w fun e w' => e = .returned (.bool (sized n)) ∧ w' = w := by
  unfold sized
  by_cases h : n = 1 ∨ n = 2 ∨ n = 4 ∨ n = 8
  · rw [decide_eq_true h]
    rcases h with rfl | rfl | rfl | rfl
    all_goals
      go_enter Try.func28, Try.ntmps28
      go_wp2
      go_ret
      exact ⟨rfl, rfl⟩
  · rw [decide_eq_false h]
    have h1 : (n == 1) = false := by simp; omega
    have h2 : (n == 2) = false := by simp; omega
    have h3 : (n == 4) = false := by simp; omega
    have h4 : (n == 8) = false := by simp; omega
    clear h
    go_enter Try.func28, Try.ntmps28
    go_wp2
    go_ret
    exact ⟨rfl, rfl⟩
theorem fixedr_arg (p : Value) (n : Int) (h : sized n = false) (w : World) : Calls Try.prog 19 #[p, .int .i64 n] w fun x w' => x = .returned (.tuple #[.int .i64 0, .int .i64 1]) ∧ w' = w := by
  go_enter Try.func19, Try.ntmps19
  go_wp2_with (first | (go_at_call 41; refine (isSize_is _ _).mono ?_; rintro x w' ⟨rfl, hw⟩; subst hw; rw [h]))
  go_ret2
  exact ⟨rfl, rfl⟩
theorem fixedr_nil (n : Int) (h : sized n = true) (w : World) : Calls Try.prog 19 #[.pointer none, .int .i64 n] w fun x w' => x = .returned (.tuple #[.int .i64 0, .int .i64 20]) ∧ w' = w := by
  go_enter Try.func19, Try.ntmps19
  go_wp2_with (first | (go_at_call 41; refine (isSize_is _ _).mono ?_; rintro x w' ⟨rfl, hw⟩; subst hw; rw [h]) | (go_at_call 36; refine (fault_nil _).mono ?_; rintro x w' ⟨rfl, hw⟩; subst hw))
  go_ret2
  exact ⟨rfl, rfl⟩
/-- is a number one of a size? -/
def fitsB (n size : Int) : Bool := decide (0 ≤ n) && sized size && (decide (size = 8) || decide (n < 256 ^ size.toNat))
theorem isFixed_any (n size : Int) (hn : -9223372036854775808 ≤ n ∧ n ≤ 9223372036854775807) (w : World) : Calls Try.prog 44 #[.int .i64 n, .int .i64 size] w fun e w' => e = .returned (.bool (fitsB n size)) ∧ w' = w := by
  cases hs : sized size with
  | false =>
    have hv : fitsB n size = false := by unfold fitsB; rw [hs]; simp
    rw [hv]
    clear hv
    go_enter Try.func44, Try.ntmps44
    go_wp2_with (first | (go_at_call 41; refine (isSize_is _ _).mono ?_; rintro x w' ⟨rfl, hw⟩; subst hw; rw [hs]))
    go_ret
    exact ⟨rfl, rfl⟩
  | true =>
    by_cases h0 : n < 0
    · have hv : fitsB n size = false := by unfold fitsB; rw [decide_eq_false (by omega)]; simp
      rw [hv]
      clear hv
      go_enter Try.func44, Try.ntmps44
      go_wp2_with (first | (go_at_call 41; refine (isSize_is _ _).mono ?_; rintro x w' ⟨rfl, hw⟩; subst hw; rw [hs]))
      go_ret
      exact ⟨rfl, rfl⟩
    · rcases sized_of hs with rfl | rfl | rfl | rfl
      · by_cases hb : n < 256
        · have hv : fitsB n 1 = true := by unfold fitsB; rw [hs]; simp; omega
          rw [hv]; clear hv
          go_enter Try.func44, Try.ntmps44
          go_wp2_with (first | (go_at_call 41; refine (isSize_is _ _).mono ?_; rintro x w' ⟨rfl, hw⟩; subst hw; rw [hs]))
          go_ret
          exact ⟨rfl, rfl⟩
        · have hv : fitsB n 1 = false := by unfold fitsB; rw [hs]; simp; omega
          have hd : decide (n < 256) = false := decide_eq_false hb
          rw [hv]; clear hv
          go_enter Try.func44, Try.ntmps44
          go_wp2_with (first | (go_at_call 41; refine (isSize_is _ _).mono ?_; rintro x w' ⟨rfl, hw⟩; subst hw; rw [hs]))
          go_ret
          exact ⟨rfl, rfl⟩
      · by_cases hb : n < 65536
        · have hv : fitsB n 2 = true := by unfold fitsB; rw [hs]; simp; omega
          rw [hv]; clear hv
          go_enter Try.func44, Try.ntmps44
          go_wp2_with (first | (go_at_call 41; refine (isSize_is _ _).mono ?_; rintro x w' ⟨rfl, hw⟩; subst hw; rw [hs]))
          go_ret
          exact ⟨rfl, rfl⟩
        · have hv : fitsB n 2 = false := by unfold fitsB; rw [hs]; simp; omega
          have hd : decide (n < 65536) = false := decide_eq_false hb
          rw [hv]; clear hv
          go_enter Try.func44, Try.ntmps44
          go_wp2_with (first | (go_at_call 41; refine (isSize_is _ _).mono ?_; rintro x w' ⟨rfl, hw⟩; subst hw; rw [hs]))
          go_ret
          exact ⟨rfl, rfl⟩
      · by_cases hb : n < 4294967296
        · have hv : fitsB n 4 = true := by unfold fitsB; rw [hs]; simp; omega
          rw [hv]; clear hv
          go_enter Try.func44, Try.ntmps44
          go_wp2_with (first | (go_at_call 41; refine (isSize_is _ _).mono ?_; rintro x w' ⟨rfl, hw⟩; subst hw; rw [hs]))
          go_ret
          exact ⟨rfl, rfl⟩
        · have hv : fitsB n 4 = false := by unfold fitsB; rw [hs]; simp; omega
          have hd : decide (n < 4294967296) = false := decide_eq_false hb
          rw [hv]; clear hv
          go_enter Try.func44, Try.ntmps44
          go_wp2_with (first | (go_at_call 41; refine (isSize_is _ _).mono ?_; rintro x w' ⟨rfl, hw⟩; subst hw; rw [hs]))
          go_ret
          exact ⟨rfl, rfl⟩
      · have hv : fitsB n 8 = true := by unfold fitsB; rw [hs]; simp; omega
        rw [hv]; clear hv
        go_enter Try.func44, Try.ntmps44
        go_wp2_with (first | (go_at_call 41; refine (isSize_is _ _).mono ?_; rintro x w' ⟨rfl, hw⟩; subst hw; rw [hs]))
        go_ret
        exact ⟨rfl, rfl⟩

theorem refFits (n size : Int) (w : World) : Calls Try.prog 30 #[.int .i64 n, .int .i64 size] w fun e w' => e = .returned (.bool (fitsB n size)) ∧ w' = w := by
  by_cases h0 : n < 0
  · have hv : fitsB n size = false := by unfold fitsB; rw [decide_eq_false (by omega)]; simp
    rw [hv]
    clear hv
    go_enter Try.func30, Try.ntmps30
    go_wp2_with (first | (go_at_call 28; refine (refSized _ _).mono ?_; rintro x w' ⟨rfl, hw⟩; subst hw))
    go_ret
    exact ⟨rfl, rfl⟩
  cases hs : sized size with
  | false =>
    have hv : fitsB n size = false := by unfold fitsB; rw [hs]; simp
    rw [hv]
    clear hv
    go_enter Try.func30, Try.ntmps30
    go_wp2_with (first | (go_at_call 28; refine (refSized _ _).mono ?_; rintro x w' ⟨rfl, hw⟩; subst hw; rw [hs]))
    go_ret
    exact ⟨rfl, rfl⟩
  | true =>
    rcases sized_of hs with rfl | rfl | rfl | rfl
    · have hv : fitsB n 1 = decide (n < 256) := by unfold fitsB; rw [hs, decide_eq_true (show 0 ≤ n by omega)]; simp
      rw [hv]; clear hv
      go_enter Try.func30, Try.ntmps30
      go_wp2_with (first | (go_at_call 28; refine (refSized _ _).mono ?_; rintro x w' ⟨rfl, hw⟩; subst hw; rw [hs]))
      go_ret
      exact ⟨rfl, rfl⟩
    · have hv : fitsB n 2 = decide (n < 65536) := by unfold fitsB; rw [hs, decide_eq_true (show 0 ≤ n by omega)]; simp
      rw [hv]; clear hv
      go_enter Try.func30, Try.ntmps30
      go_wp2_with (first | (go_at_call 28; refine (refSized _ _).mono ?_; rintro x w' ⟨rfl, hw⟩; subst hw; rw [hs]))
      go_ret
      exact ⟨rfl, rfl⟩
    · have hv : fitsB n 4 = decide (n < 4294967296) := by unfold fitsB; rw [hs, decide_eq_true (show 0 ≤ n by omega)]; simp
      rw [hv]; clear hv
      go_enter Try.func30, Try.ntmps30
      go_wp2_with (first | (go_at_call 28; refine (refSized _ _).mono ?_; rintro x w' ⟨rfl, hw⟩; subst hw; rw [hs]))
      go_ret
      exact ⟨rfl, rfl⟩
    · have hv : fitsB n 8 = true := by unfold fitsB; rw [hs]; simp; omega
      rw [hv]; clear hv
      go_enter Try.func30, Try.ntmps30
      go_wp2_with (first | (go_at_call 28; refine (refSized _ _).mono ?_; rintro x w' ⟨rfl, hw⟩; subst hw; rw [hs]))
      go_ret
      exact ⟨rfl, rfl⟩
theorem fixedw_arg (p : Value) (n size : Int) (hn : -9223372036854775808 ≤ n ∧ n ≤ 9223372036854775807) (h : fitsB n size = false) (w : World) : Calls Try.prog 34 #[p, .int .i64 n, .int .i64 size] w fun e w' => e = .returned (.int .i64 1) ∧ w' = w := by
  go_enter Try.func34, Try.ntmps34
  go_wp2_with (first | (go_at_call 44; refine (isFixed_any _ _ hn _).mono ?_; rintro x w' ⟨rfl, hw⟩; subst hw; rw [h]))
  go_ret
  exact ⟨rfl, rfl⟩
theorem fixedw_nil (n size : Int) (hn : -9223372036854775808 ≤ n ∧ n ≤ 9223372036854775807) (h : fitsB n size = true) (w : World) : Calls Try.prog 34 #[.pointer none, .int .i64 n, .int .i64 size] w fun e w' => e = .returned (.int .i64 7) ∧ w' = w := by
  go_enter Try.func34, Try.ntmps34
  go_wp2_with (first | (go_at_call 44; refine (isFixed_any _ _ hn _).mono ?_; rintro x w' ⟨rfl, hw⟩; subst hw; rw [h]))
  go_ret
  exact ⟨rfl, rfl⟩

/-- a number's bytes, the lowest first -/
def fEnc (n : Nat) : Nat → List UInt8
  | 0 => []
  | k + 1 => UInt8.ofNat (n % 256) :: fEnc (n / 256) k
theorem fEnc_len (k : Nat) : ∀ n, (fEnc n k).length = k := by
  induction k with
  | zero => intro n; rfl
  | succ k ih => intro n; simp [fEnc, ih]
theorem fits_of {n size : Int} (h : fitsB n size = true) : 0 ≤ n ∧ (size = 1 ∨ size = 2 ∨ size = 4 ∨ size = 8) ∧ (size = 8 ∨ n < 256 ^ size.toNat) := by
  unfold fitsB at h
  simp only [Bool.and_eq_true, Bool.or_eq_true, decide_eq_true_eq] at h
  exact ⟨h.1.1, sized_of h.1.2, h.2⟩

set_option maxRecDepth 100000 in
set_option maxHeartbeats 1000000 in
theorem refFixed (n size : Nat) (hn : n ≤ 9223372036854775807) (hsz : size ≤ 8) (w : World) : Calls Try.prog 31 #[.int .i64 n, .int .i64 size] w fun e w' => e = .returned (.string (st (fEnc n size))) ∧ Below w.heap.size w w' := by
  go_enter Try.func31, Try.ntmps31
  go_wp2
  go_loopw [0, 5, 6] (fun x v i wr => ∃ (m j : Nat) (done : List UInt8), x = .int .i64 m ∧ i = .int .i64 j ∧ j ≤ size ∧ m ≤ 9223372036854775807 ∧ done.length = j ∧ fEnc n size = done ++ fEnc m (size - j) ∧ wr.ownsRow w.heap.size 5 1 v j (bc done) ∧ Below w.heap.size w wr) (fun _ _ i _ => size - (intOf i).toNat)
  case atStart => exact ⟨n, 0, [], rfl, rfl, Nat.zero_le _, hn, rfl, rfl, World.ownsRow_nil _ _ _ _, Below.refl _ _⟩
  case round =>
    obtain ⟨m, j, done, rfl, rfl, hj, hm, hdl, hd, hown, hbl⟩ := hrel
    have HD : Hid (fEnc n size = done ++ fEnc m (size - j)) := hd
    have HL : Hid (done.length = j) := hdl
    have hz := hbl.size
    clear hd hdl
    by_cases hlt : j < size
    · obtain ⟨b, hb⟩ : ∃ b, b = UInt8.ofNat (m % 256) := ⟨_, rfl⟩
      have HM : Hid ((m : Int) % 256 = (b.toNat : Int)) := by show _ = _; rw [hb, UInt8.toNat_ofNat']; omega
      have HE : Hid (fEnc n size = (done ++ [b]) ++ fEnc (m / 256) (size - (j + 1))) := by
        show _ = _
        rw [HD.out, show size - j = (size - (j + 1)) + 1 by omega, fEnc, hb]; simp
      clear hb HD
      go_wp2_with (at_builtin; refine push_byte rfl (.tmp 12) (.tmp 16) rfl w.heap.size _ j done _ b HM.out rfl rfl hown (by omega) hz ?_)
      intro r cap w1 hown' hbel hsame
      have hb2 := hbl.trans hbel
      clear hbel hsame hown hbl
      go_wp2
      go_roundw
      case rel => exact ⟨m / 256, j + 1, done ++ [b], by go_num, by go_num, by omega, by omega, by rw [List.length_append, HL.out]; rfl, HE.out, hown', hb2⟩
      case measure => simp [intOf]; omega
    · have HE : Hid (fEnc n size = done) := by show _ = _; rw [HD.out, show size - j = 0 by omega, fEnc, List.append_nil]
      have hcv := conv_own (bs := done) (by rw [HL.out]; exact hown)
      clear HD
      go_wp2
      go_ret
      exact ⟨by rw [HE.out]; rfl, hbl⟩
end Go.Proofs.Ytonejnbflkkapab
