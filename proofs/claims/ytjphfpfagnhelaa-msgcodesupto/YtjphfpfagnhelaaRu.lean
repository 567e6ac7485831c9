import Derived.Test.YtjphfpfagnhelaaRq
namespace Go.Proofs.Ytjphfpfagnhelaa
open Go.RowKit

theorem val_drop_le : ∀ (l : List UInt8) (j : Nat), val (l.drop j) ≤ val l
  | [], j => by simp [val]
  | c :: t, 0 => by simp
  | c :: t, j + 1 => by
    have := val_drop_le t j
    simp only [List.drop_succ_cons, val]; omega
theorem val_step (s : ByteArray) (k j : Nat) (hk : k ≤ s.size) (hj : j < k) : val ((s.data.toList.take k).drop j) = (s[j]'(by omega)).toNat % 128 + 128 * val ((s.data.toList.take k).drop (j + 1)) := by
  have hl : s.data.toList.length = s.size := by rw [Array.length_toList]; rfl
  rw [List.drop_eq_getElem_cons (by rw [List.length_take, hl]; omega), val, List.getElem_take]
  rfl
theorem quint_err (g : Nat) (s : ByteArray) (e : Int) (w : World) (h : QIs g w s e) (he : e ≠ 0) : Calls Try.prog 26 #[.pointer (some ⟨g, 0, none⟩)] w fun x w' => x = .returned (.tuple #[.int .i64 0, .int .i64 e]) ∧ ∃ q, w' = w.drewN q := by
  have he' : (e != 0) = true := by simp [he]
  have h1 := h.c1
  clear he
  go_enter Try.func26, Try.ntmps26
  go_wp2
  go_quiet (fail)
  go_wp2
  go_ret2
  exact ⟨rfl, _, rfl⟩
theorem quint_bad (g : Nat) (s : ByteArray) (er : Int) (k : Nat) (hs : s.size ≤ maxLen) (hsc : scan 9 127 s.data.toList 0 = (er, k)) (he : er ≠ 0) (w : World) (h : QIs g w s 0) : Calls Try.prog 26 #[.pointer (some ⟨g, 0, none⟩)] w fun x w' => x = .returned (.tuple #[.int .i64 0, .int .i64 er]) ∧ QIs g w' s er ∧ Kept w.heap.size g w w' := by
  have h0 := h.c0
  have h1 := h.c1
  have hf := h.fr 1
  have he' : (er != 0) = true := by simp [he]
  have HS : Hid (scan 9 127 s.data.toList 0 = (er, k)) := hsc
  clear hsc he
  go_enter Try.func26, Try.ntmps26
  go_wp2_with (first | (go_at_call 49; refine (seven_any s 9 127 (by decide) (by decide) (by decide) hs _).mono ?_; rintro x w' ⟨k', er', rfl, hsc', hw⟩; have hw := hw.symm; subst hw; obtain ⟨rfl, rfl⟩ : er' = er ∧ k' = k := by { have := hsc'.symm.trans HS.out; simpa using this }; clear hsc'))
  go_ret2
  exact ⟨rfl, h.set1, (Kept.refl _ _ _).setCell 1 _⟩
set_option maxRecDepth 100000 in
set_option maxHeartbeats 2000000 in
theorem quint_ok (g : Nat) (s : ByteArray) (k : Nat) (hs : s.size ≤ maxLen) (hsc : scan 9 127 s.data.toList 0 = (0, k)) (w : World) (h : QIs g w s 0) : Calls Try.prog 26 #[.pointer (some ⟨g, 0, none⟩)] w fun x w' => x = .returned (.tuple #[.int .i64 (val (s.data.toList.take k)), .int .i64 0]) ∧ QIs g w' (s.extract k s.size) 0 ∧ Kept w.heap.size g w w' := by
  have h0 := h.c0
  have h1 := h.c1
  have hf := h.fr 0
  have HM : Hid (s.size ≤ maxLen) := hs
  unfold maxLen at hs
  have ⟨k1, k2, k3, k4⟩ := scan_k 9 127 (by decide) _ _ _ (by decide) hsc
  have hks : k ≤ s.size := by simpa using k2
  have hv : val (s.data.toList.take k) < 9223372036854775808 := by simpa using k4
  have HS : Hid (scan 9 127 s.data.toList 0 = (0, k)) := hsc
  clear hsc k2 k4
  go_enter Try.func26, Try.ntmps26
  go_wp2_with (first | (go_at_call 49; refine (seven_any s 9 127 (by decide) (by decide) (by decide) HM.out _).mono ?_; rintro x w' ⟨k', er', rfl, hsc', hw⟩; have hw := hw.symm; subst hw; obtain ⟨rfl, rfl⟩ : er' = 0 ∧ k' = k := by { have := hsc'.symm.trans HS.out; simpa using this }; clear hsc'))
  go_loop [6, 7] (fun u i => ∃ (j x : Nat), j ≤ k' ∧ i = .int .i64 ((j : Int) - 1) ∧ u = .int .i64 x ∧ x = val ((s.data.toList.take k').drop j)) (fun _ i => (intOf i + 1).toNat)
  case atStart => exact ⟨k', 0, Nat.le_refl _, rfl, rfl, by rw [List.drop_of_length_le (by rw [List.length_take]; exact Nat.min_le_left _ _)]; rfl⟩
  case round =>
    obtain ⟨j, x, hj, rfl, rfl, hx⟩ := hrel
    have HX : Hid (x = val ((s.data.toList.take k').drop j)) := hx
    clear hx
    by_cases hj0 : j = 0
    · subst hj0
      have HX2 : Hid (val (s.data.toList.take k') = x) := HX.out.symm
      clear hv
      go_wp2
      go_ret2
      exact ⟨by rw [HX2.out]; rfl, h.set0, (Kept.refl _ _ _).setCell 0 _⟩
    · obtain ⟨i, rfl⟩ : ∃ i, j = i + 1 := ⟨j - 1, by omega⟩
      have his : i < s.size := by omega
      have hc : s[i].toNat < 256 := s[i].toNat_lt
      have hst := val_step s k' i hks (by omega)
      rw [← HX.out] at hst
      have hle := val_drop_le (s.data.toList.take k') i
      rw [hst] at hle
      have hb : s[i].toNat % 128 + 128 * x < 9223372036854775808 := by omega
      have HN : Hid (val ((s.data.toList.take k').drop i) = s[i].toNat % 128 + 128 * x) := hst
      clear hst hle hj0 hv
      go_wp2
      go_round
      case rel => exact ⟨i, s[i].toNat % 128 + 128 * x, by omega, rfl, by congr 1; omega, HN.out.symm⟩
      case measure => simp [intOf]

theorem qint_err (g : Nat) (s : ByteArray) (e : Int) (w : World) (h : QIs g w s e) (he : e ≠ 0) : Calls Try.prog 50 #[.pointer (some ⟨g, 0, none⟩)] w fun x w' => x = .returned (.tuple #[.int .i64 0, .int .i64 e]) ∧ ∃ q, w' = w.drewN q := by
  have he' : (e != 0) = true := by simp [he]
  have h1 := h.c1
  clear he
  go_enter Try.func50, Try.ntmps50
  go_wp2
  go_quiet (fail)
  go_wp2
  go_ret2
  exact ⟨rfl, _, rfl⟩
theorem qint_bad (g : Nat) (s : ByteArray) (er : Int) (k : Nat) (hs : s.size ≤ maxLen) (hsc : scan 10 1 s.data.toList 0 = (er, k)) (he : er ≠ 0) (w : World) (h : QIs g w s 0) : Calls Try.prog 50 #[.pointer (some ⟨g, 0, none⟩)] w fun x w' => x = .returned (.tuple #[.int .i64 0, .int .i64 er]) ∧ QIs g w' s er ∧ Kept w.heap.size g w w' := by
  have h0 := h.c0
  have h1 := h.c1
  have hf := h.fr 1
  have he' : (er != 0) = true := by simp [he]
  have HS : Hid (scan 10 1 s.data.toList 0 = (er, k)) := hsc
  clear hsc he
  go_enter Try.func50, Try.ntmps50
  go_wp2_with (first | (go_at_call 49; refine (seven_any s 10 1 (by decide) (by decide) (by decide) hs _).mono ?_; rintro x w' ⟨k', er', rfl, hsc', hw⟩; have hw := hw.symm; subst hw; obtain ⟨rfl, rfl⟩ : er' = er ∧ k' = k := by { have := hsc'.symm.trans HS.out; simpa using this }; clear hsc'))
  go_ret2
  exact ⟨rfl, h.set1, (Kept.refl _ _ _).setCell 1 _⟩
theorem val_first (s : ByteArray) (k : Nat) (h0 : 0 < s.size) (hk : 0 < k) (hks : k ≤ s.size) : val (s.data.toList.take k) = s[0].toNat % 128 + 128 * val ((s.data.toList.take k).drop 1) := by
  have := val_step s k 0 hks hk
  simpa using this
set_option maxRecDepth 100000 in
set_option maxHeartbeats 4000000 in
theorem qint_ok (g : Nat) (s : ByteArray) (k : Nat) (hs : s.size ≤ maxLen) (hsc : scan 10 1 s.data.toList 0 = (0, k)) (w : World) (h : QIs g w s 0) : Calls Try.prog 50 #[.pointer (some ⟨g, 0, none⟩)] w fun x w' => x = .returned (.tuple #[.int .i64 (zag (val (s.data.toList.take k))), .int .i64 0]) ∧ QIs g w' (s.extract k s.size) 0 ∧ Kept w.heap.size g w w' := by
  have h0 := h.c0
  have h1 := h.c1
  have hf := h.fr 0
  have HM : Hid (s.size ≤ maxLen) := hs
  unfold maxLen at hs
  have ⟨k1, k2, k3, k4⟩ := scan_k 10 1 (by decide) _ _ _ (by decide) hsc
  have hks : k ≤ s.size := by simpa using k2
  have hv : val (s.data.toList.take k) < 18446744073709551616 := by simpa using k4
  have HS : Hid (scan 10 1 s.data.toList 0 = (0, k)) := hsc
  have hs0 : 0 < s.size := by omega
  have hc0 : s[0].toNat < 256 := s[0].toNat_lt
  have hE : ¬ s = ByteArray.empty := fun h => by rw [h] at hs0; exact absurd hs0 (by decide)
  clear hsc k2 k4
  go_enter Try.func50, Try.ntmps50
  go_wp2_with (first | (go_at_call 49; refine (seven_any s 10 1 (by decide) (by decide) (by decide) HM.out _).mono ?_; rintro x w' ⟨k', er', rfl, hsc', hw⟩; have hw := hw.symm; subst hw; obtain ⟨rfl, rfl⟩ : er' = 0 ∧ k' = k := by { have := hsc'.symm.trans HS.out; simpa using this }; clear hsc'))
  go_loop [7, 8] (fun u i => ∃ (j x : Nat), 1 ≤ j ∧ j ≤ k' ∧ i = .int .i64 ((j : Int) - 1) ∧ u = .int .i64 x ∧ x = val ((s.data.toList.take k').drop j)) (fun _ i => (intOf i + 1).toNat)
  case atStart => exact ⟨k', 0, by omega, Nat.le_refl _, rfl, rfl, by rw [List.drop_of_length_le (by rw [List.length_take]; exact Nat.min_le_left _ _)]; rfl⟩
  case round =>
    obtain ⟨j, x, hj1, hj, rfl, rfl, hx⟩ := hrel
    have HX : Hid (x = val ((s.data.toList.take k').drop j)) := hx
    have hx128 : 128 * val ((s.data.toList.take k').drop 1) < 18446744073709551616 := by have := val_first s k' hs0 (by omega) hks; omega
    clear hx
    by_cases hj0 : j = 1
    · subst hj0
      have hvf := val_first s k' hs0 (by omega) hks
      rw [← HX.out] at hvf hx128
      have HV : Hid (val (s.data.toList.take k') = s[0].toNat % 128 + 128 * x) := hvf
      clear hv hvf
      by_cases hodd : s[0].toNat % 2 = 0
      · have HZ : Hid (zag (s[0].toNat % 128 + 128 * x) = (x : Int) * 64 + (s[0].toNat : Int) % 128 / 2) := by show _ = _; unfold zag; rw [if_pos (by omega)]; omega
        have ho : (((s[0].toNat : Int) % 128 % 2) == 1) = false := by simp; omega
        go_wp2
        go_ret2
        exact ⟨by rw [HV.out, HZ.out]; rfl, h.set0, (Kept.refl _ _ _).setCell 0 _⟩
      · have HZ : Hid (zag (s[0].toNat % 128 + 128 * x) = -((x : Int) * 64 + (s[0].toNat : Int) % 128 / 2) - 1) := by show _ = _; unfold zag; rw [if_neg (by omega)]; omega
        have ho : (((s[0].toNat : Int) % 128 % 2) == 1) = true := by simp; omega
        go_wp2
        go_ret2
        exact ⟨by rw [HV.out, HZ.out]; rfl, h.set0, (Kept.refl _ _ _).setCell 0 _⟩
    · obtain ⟨i, rfl⟩ : ∃ i, j = i + 1 := ⟨j - 1, by omega⟩
      have his : i < s.size := by omega
      have hi1 : 1 ≤ i := by omega
      have hc : s[i].toNat < 256 := s[i].toNat_lt
      have hst := val_step s k' i hks (by omega)
      rw [← HX.out] at hst
      have hle : val ((s.data.toList.take k').drop i) ≤ val ((s.data.toList.take k').drop 1) := by
        have := val_drop_le ((s.data.toList.take k').drop 1) (i - 1)
        rwa [List.drop_drop, show 1 + (i - 1) = i by omega] at this
      rw [hst] at hle
      have hb : s[i].toNat % 128 + 128 * x < 9223372036854775808 := by omega
      have HN : Hid (val ((s.data.toList.take k').drop i) = s[i].toNat % 128 + 128 * x) := hst
      clear hst hle hj0 hv hx128
      go_wp2
      go_round
      case rel => exact ⟨i, s[i].toNat % 128 + 128 * x, by omega, by omega, rfl, by congr 1; omega, HN.out.symm⟩
      case measure => simp [intOf]
end Go.Proofs.Ytjphfpfagnhelaa
