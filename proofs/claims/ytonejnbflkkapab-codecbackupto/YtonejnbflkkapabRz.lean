import Derived.Test.YtonejnbflkkapabRu
namespace Go.Proofs.Ytonejnbflkkapab
open Go.RowKit

theorem fval_drop_le : ∀ (l : List UInt8) (j : Nat), fval (l.drop j) ≤ fval l
  | [], j => by simp [fval]
  | c :: t, 0 => by simp
  | c :: t, j + 1 => by
    have := fval_drop_le t j
    simp only [List.drop_succ_cons, fval]; omega
theorem fval_step (s : ByteArray) (k j : Nat) (hk : k ≤ s.size) (hj : j < k) : fval ((s.data.toList.take k).drop j) = (s[j]'(by omega)).toNat + 256 * fval ((s.data.toList.take k).drop (j + 1)) := by
  have hl : s.data.toList.length = s.size := by rw [Array.length_toList]; rfl
  rw [List.drop_eq_getElem_cons (by rw [List.length_take, hl]; omega), fval, List.getElem_take]
  rfl
theorem qfixed_arg (p : Value) (n : Int) (h : sized n = false) (w : World) : Calls Try.prog 20 #[p, .int .i64 n] w fun x w' => x = .returned (.tuple #[.int .i64 0, .int .i64 1]) ∧ w' = w := by
  go_enter Try.func20, Try.ntmps20
  go_wp2_with (first | (go_at_call 28; refine (refSized _ _).mono ?_; rintro x w' ⟨rfl, hw⟩; subst hw; rw [h]))
  go_ret2
  exact ⟨rfl, rfl⟩
theorem qfixed_err (g : Nat) (s : ByteArray) (e z : Int) (hz : sized z = true) (w : World) (h : QIs g w s e) (he : e ≠ 0) : Calls Try.prog 20 #[.pointer (some ⟨g, 0, none⟩), .int .i64 z] w fun x w' => x = .returned (.tuple #[.int .i64 0, .int .i64 e]) ∧ ∃ q, w' = w.drewN q := by
  have he' : (e != 0) = true := by simp [he]
  have h1 := h.c1
  clear he
  go_enter Try.func20, Try.ntmps20
  go_wp2_with (first | (go_at_call 28; refine (refSized _ _).mono ?_; rintro x w' ⟨rfl, hw⟩; have hw := hw.symm; subst hw; rw [hz]))
  go_quiet (fail)
  go_wp2
  go_ret2
  exact ⟨rfl, _, rfl⟩
theorem QIs.c1' {g : Nat} {w : World} {s : ByteArray} {e e' : Int} (h : QIs g w s e) : (w.setCell ⟨g, 1, none⟩ (.int .i64 e')).cell? ⟨g, 1, none⟩ = some (.int .i64 e') := h.set1.c1
theorem qfixed_cut (g : Nat) (s : ByteArray) (k : Nat) (hz : sized k = true) (hk : s.size < k) (w : World) (h : QIs g w s 0) : Calls Try.prog 20 #[.pointer (some ⟨g, 0, none⟩), .int .i64 k] w fun x w' => x = .returned (.tuple #[.int .i64 0, .int .i64 20]) ∧ QIs g w' s 20 ∧ Kept w.heap.size g w w' := by
  have h0 := h.c0
  have h1 := h.c1
  have hf := h.fr 1
  have h2 := h.c1' (e' := 20)
  go_enter Try.func20, Try.ntmps20
  go_wp2_with (first | (go_at_call 28; refine (refSized _ _).mono ?_; rintro x w' ⟨rfl, hw⟩; have hw := hw.symm; subst hw; rw [hz]))
  go_quiet (fail)
  go_wp2
  go_ret2
  exact ⟨rfl, h.set1.drew _, ((Kept.refl _ _ _).setCell 1 _).drewN _⟩
theorem top_byte (s : ByteArray) (h8 : 8 ≤ s.size) : fval (s.data.toList.take 8) < 9223372036854775808 ↔ s[7].toNat ≤ 127 := by
  have ⟨a, b⟩ := ftake s 7 _ (show 7 < s.size by omega) rfl
  rw [b]
  have := s[7].toNat_lt
  omega
theorem qfixed_form (g : Nat) (s : ByteArray) (k : Nat) (hz : sized k = true) (hks : k ≤ s.size) (hk8 : k ≤ 8) (hb : ¬ fval (s.data.toList.take k) < 9223372036854775808) (w : World) (h : QIs g w s 0) : Calls Try.prog 20 #[.pointer (some ⟨g, 0, none⟩), .int .i64 k] w fun x w' => x = .returned (.tuple #[.int .i64 0, .int .i64 4]) ∧ QIs g w' s 4 ∧ Kept w.heap.size g w w' := by
  have hk : k = 8 := by
    by_cases h : k = 8
    · exact h
    · exfalso
      have hl : (s.data.toList.take k).length = k := by rw [List.length_take, Array.length_toList]; exact Nat.min_eq_left hks
      have h1 := fval_lt (s.data.toList.take k)
      rw [hl] at h1
      have h2 : 256 ^ k ≤ 256 ^ 7 := Nat.pow_le_pow_right (by decide) (by omega)
      omega
  subst hk
  have ht : ¬ s[7].toNat ≤ 127 := fun hh => hb ((top_byte s hks).2 hh)
  have hz8 : sized 8 = true := by decide
  clear hz
  have h0 := h.c0
  have h1 := h.c1
  have hf := h.fr 1
  have h2 := h.c1' (e' := 4)
  clear hb
  go_enter Try.func20, Try.ntmps20
  go_wp2_with (first | (go_at_call 28; refine (refSized _ _).mono ?_; rintro x w' ⟨rfl, hw⟩; have hw := hw.symm; subst hw; rw [hz8]))
  go_quiet (fail)
  go_wp2
  go_ret2
  exact ⟨rfl, h.set1.drew _, ((Kept.refl _ _ _).setCell 1 _).drewN _⟩
set_option maxRecDepth 100000 in
set_option maxHeartbeats 2000000 in
theorem qfixed_ok (g : Nat) (s : ByteArray) (k : Nat) (hz : sized k = true) (hks : k ≤ s.size) (hk8 : k ≤ 8) (hs : s.size ≤ maxLen) (hb : fval (s.data.toList.take k) < 9223372036854775808) (w : World) (h : QIs g w s 0) : Calls Try.prog 20 #[.pointer (some ⟨g, 0, none⟩), .int .i64 k] w fun x w' => x = .returned (.tuple #[.int .i64 (fval (s.data.toList.take k)), .int .i64 0]) ∧ QIs g w' (s.extract k s.size) 0 ∧ Kept w.heap.size g w w' := by
  have h0 := h.c0
  have h1 := h.c1
  have hf := h.fr 0
  unfold maxLen at hs
  have HB : Hid (fval (s.data.toList.take k) < 9223372036854775808) := hb
  have h7 : k = 8 → ∃ hh : 7 < s.size, s[7].toNat ≤ 127 := fun e => by
    subst e; exact ⟨by omega, (top_byte s hks).1 hb⟩
  clear hb
  by_cases hk : k = 8
  · obtain ⟨hh, h127⟩ := h7 hk
    subst hk
    have hz8 : sized 8 = true := by decide
    clear hz h7
    go_enter Try.func20, Try.ntmps20
    go_wp2_with (first | (go_at_call 28; refine (refSized _ _).mono ?_; rintro x w' ⟨rfl, hw⟩; have hw := hw.symm; subst hw; rw [hz8]))
    go_loop [6, 7] (fun u i => ∃ (j x : Nat), j ≤ 8 ∧ i = .int .i64 ((j : Int) - 1) ∧ u = .int .i64 x ∧ x = fval ((s.data.toList.take 8).drop j)) (fun _ i => (intOf i + 1).toNat)
    case atStart => exact ⟨8, 0, Nat.le_refl _, rfl, rfl, by rw [List.drop_of_length_le (by rw [List.length_take]; exact Nat.min_le_left _ _)]; rfl⟩
    case round =>
      obtain ⟨j, x, hj, rfl, rfl, hx⟩ := hrel
      have HX : Hid (x = fval ((s.data.toList.take 8).drop j)) := hx
      clear hx
      by_cases hj0 : j = 0
      · subst hj0
        have HX2 : Hid (fval (s.data.toList.take 8) = x) := HX.out.symm
        go_wp2
        go_ret2
        exact ⟨by rw [HX2.out]; rfl, h.set0, (Kept.refl _ _ _).setCell 0 _⟩
      · obtain ⟨i, rfl⟩ : ∃ i, j = i + 1 := ⟨j - 1, by omega⟩
        have his : i < s.size := by omega
        have hc : s[i].toNat < 256 := s[i].toNat_lt
        have hst := fval_step s 8 i hks (by omega)
        rw [← HX.out] at hst
        have hle := fval_drop_le (s.data.toList.take 8) i
        rw [hst] at hle
        have hb2 : s[i].toNat + 256 * x < 9223372036854775808 := by have := HB.out; omega
        have HN : Hid (fval ((s.data.toList.take 8).drop i) = s[i].toNat + 256 * x) := hst
        clear hst hle hj0
        go_wp2
        go_round
        case rel => exact ⟨i, s[i].toNat + 256 * x, by omega, rfl, by congr 1; omega, HN.out.symm⟩
        case measure => simp [intOf]
  · have hkb : ((k : Int) == 8) = false := by simp; omega
    clear h7 hk
    go_enter Try.func20, Try.ntmps20
    go_wp2_with (first | (go_at_call 28; refine (refSized _ _).mono ?_; rintro x w' ⟨rfl, hw⟩; have hw := hw.symm; subst hw; rw [hz]))
    go_loop [6, 7] (fun u i => ∃ (j x : Nat), j ≤ k ∧ i = .int .i64 ((j : Int) - 1) ∧ u = .int .i64 x ∧ x = fval ((s.data.toList.take k).drop j)) (fun _ i => (intOf i + 1).toNat)
    case atStart => exact ⟨k, 0, Nat.le_refl _, rfl, rfl, by rw [List.drop_of_length_le (by rw [List.length_take]; exact Nat.min_le_left _ _)]; rfl⟩
    case round =>
      obtain ⟨j, x, hj, rfl, rfl, hx⟩ := hrel
      have HX : Hid (x = fval ((s.data.toList.take k).drop j)) := hx
      clear hx
      by_cases hj0 : j = 0
      · subst hj0
        have HX2 : Hid (fval (s.data.toList.take k) = x) := HX.out.symm
        go_wp2
        go_ret2
        exact ⟨by rw [HX2.out]; rfl, h.set0, (Kept.refl _ _ _).setCell 0 _⟩
      · obtain ⟨i, rfl⟩ : ∃ i, j = i + 1 := ⟨j - 1, by omega⟩
        have his : i < s.size := by omega
        have hc : s[i].toNat < 256 := s[i].toNat_lt
        have hst := fval_step s k i hks (by omega)
        rw [← HX.out] at hst
        have hle := fval_drop_le (s.data.toList.take k) i
        rw [hst] at hle
        have hb2 : s[i].toNat + 256 * x < 9223372036854775808 := by have := HB.out; omega
        have HN : Hid (fval ((s.data.toList.take k).drop i) = s[i].toNat + 256 * x) := hst
        clear hst hle hj0
        go_wp2
        go_round
        case rel => exact ⟨i, s[i].toNat + 256 * x, by omega, rfl, by congr 1; omega, HN.out.symm⟩
        case measure => simp [intOf]
end Go.Proofs.Ytonejnbflkkapab
