import Derived.Test.YtmemelamgldpcaaWb
namespace Go.Proofs.Ytmemelamgldpcaa.Cd
open Go.RowKit

theorem r8_form (g : Nat) (s : ByteArray) (hks : 8 ≤ s.size) (hb : ¬ fval (s.data.toList.take 8) < 9223372036854775808) (w : World) (h : QIs g w s 0) : Calls Try.prog 45 #[.pointer (some ⟨g, 0, none⟩), .int .i64 8] w fun x w' => x = .returned (.tuple #[.int .i64 0, .int .i64 4]) ∧ Kept w.heap.size g w w' ∧ QIs g w' s 4 := by
  have ht : ¬ s[7].toNat ≤ 127 := fun hh => hb ((top_byte s hks).2 hh)
  have h0 := h.c0
  have h1 := h.c1
  have hf := h.fr 1
  have h2 := h.c1' (e' := 4)
  clear hb
  go_enter Try.func45, Try.ntmps45
  go_wp2_with (first | (go_at_call 62; refine (sized8 _).mono ?_; rintro x w' ⟨rfl, hw⟩; have hw := hw.symm; subst hw))
  go_quiet (fail)
  go_wp2
  go_ret2
  exact ⟨rfl, ((Kept.refl _ _ _).setCell 1 _).drewN _, h.set1.drew _⟩
set_option maxRecDepth 100000 in
set_option maxHeartbeats 2000000 in
theorem r8_ok (g : Nat) (s : ByteArray) (hks : 8 ≤ s.size) (hs : s.size ≤ maxLen) (hb : fval (s.data.toList.take 8) < 9223372036854775808) (w : World) (h : QIs g w s 0) : Calls Try.prog 45 #[.pointer (some ⟨g, 0, none⟩), .int .i64 8] w fun x w' => x = .returned (.tuple #[.int .i64 (fval (s.data.toList.take 8)), .int .i64 0]) ∧ Kept w.heap.size g w w' ∧ QIs g w' (s.extract 8 s.size) 0 := by
  have h0 := h.c0
  have h1 := h.c1
  have hf := h.fr 0
  unfold maxLen at hs
  have HB : Hid (fval (s.data.toList.take 8) < 9223372036854775808) := hb
  have hh : 7 < s.size := by omega
  have h127 : s[7].toNat ≤ 127 := (top_byte s hks).1 hb
  clear hb
  go_enter Try.func45, Try.ntmps45
  go_wp2_with (first | (go_at_call 62; refine (sized8 _).mono ?_; rintro x w' ⟨rfl, hw⟩; have hw := hw.symm; subst hw))
  go_loop [6, 7] (fun u i => ∃ (j x : Nat), j ≤ 8 ∧ i = .int .i64 ((j : Int) - 1) ∧ u = .int .i64 x ∧ x = fval ((s.data.toList.take 8).drop j)) (fun _ i => (intOf i + 1).toNat)
  case atStart => exact ⟨8, 0, Nat.le_refl _, rfl, rfl, by rw [List.drop_of_length_le (by rw [List.length_take]; exact Nat.min_le_left _ _)]; rfl⟩
  case round =>
    obtain ⟨j, x, hj, rfl, rfl, hx⟩ := hrel
    have HX : Hid (x = fval ((s.data.toList.take 8).drop j)) := hx
    clear hx
    by_cases hj0 : j = 0
    · subst hj0
      have HX2 : Hid (fval (s.data.toList.take 8) = x) := HX.out.symm
      go_wp2
      go_ret2
      exact ⟨by rw [HX2.out]; rfl, (Kept.refl _ _ _).setCell 0 _, h.set0⟩
    · obtain ⟨i, rfl⟩ : ∃ i, j = i + 1 := ⟨j - 1, by omega⟩
      have his : i < s.size := by omega
      have hc : s[i].toNat < 256 := s[i].toNat_lt
      have hst := fval_step s 8 i hks (by omega)
      rw [← HX.out] at hst
      have hle := fval_drop_le (s.data.toList.take 8) i
      rw [hst] at hle
      have hb2 : s[i].toNat + 256 * x < 9223372036854775808 := by have := HB.out; omega
      have HN : Hid (fval ((s.data.toList.take 8).drop i) = s[i].toNat + 256 * x) := hst
      clear hst hle hj0
      go_wp2
      go_round
      case rel => exact ⟨i, s[i].toNat + 256 * x, by omega, rfl, by congr 1; omega, HN.out.symm⟩
      case measure => simp [intOf]

theorem r8_err (g : Nat) (s : ByteArray) (w : World) (h : QIs g w s 4) : Calls Try.prog 45 #[.pointer (some ⟨g, 0, none⟩), .int .i64 8] w fun x w' => x = .returned (.tuple #[.int .i64 0, .int .i64 4]) ∧ Kept w.heap.size g w w' ∧ QIs g w' s 4 := by
  have h1 := h.c1
  go_enter Try.func45, Try.ntmps45
  go_wp2_with (first | (go_at_call 62; refine (sized8 _).mono ?_; rintro x w' ⟨rfl, hw⟩; have hw := hw.symm; subst hw))
  go_quiet (fail)
  go_wp2
  go_ret2
  exact ⟨rfl, (Kept.refl _ _ _).drewN _, h.drew _⟩
/-- the reference's reader: what it tells of 8 bytes that are there -/
def qN (s : ByteArray) (e : Int) : Nat := if e ≠ 0 then 0 else if fval (s.data.toList.take 8) < 9223372036854775808 then fval (s.data.toList.take 8) else 0
def qE (s : ByteArray) (e : Int) : Int := if e ≠ 0 then 4 else if fval (s.data.toList.take 8) < 9223372036854775808 then 0 else 4
def qS (s : ByteArray) (e : Int) : ByteArray := if e ≠ 0 then s else if fval (s.data.toList.take 8) < 9223372036854775808 then s.extract 8 s.size else s
theorem q_any (g : Nat) (s : ByteArray) (e : Int) (he : e = 0 ∨ e = 4) (hks : 8 ≤ s.size ∨ e ≠ 0) (hs : s.size ≤ maxLen) (w : World) (h : QIs g w s e) : Calls Try.prog 45 #[.pointer (some ⟨g, 0, none⟩), .int .i64 8] w fun x w' => (∃ y, x = .returned (.tuple #[.int .i64 (qN s e : Nat), .int .i64 y])) ∧ Kept w.heap.size g w w' ∧ QIs g w' (qS s e) (qE s e) := by
  unfold qN qE qS
  rcases he with rfl | rfl
  · simp only [ne_eq, not_true_eq_false, if_false]
    have hk : 8 ≤ s.size := by rcases hks with h | h; exact h; exact absurd rfl h
    by_cases hb : fval (s.data.toList.take 8) < 9223372036854775808
    · rw [if_pos hb, if_pos hb, if_pos hb]
      exact (r8_ok g s hk hs hb w h).mono fun x w' ⟨h1, h2, h3⟩ => ⟨⟨_, h1⟩, h2, h3⟩
    · rw [if_neg hb, if_neg hb, if_neg hb]
      exact (r8_form g s hk hb w h).mono fun x w' ⟨h1, h2, h3⟩ => ⟨⟨_, h1⟩, h2, h3⟩
  · simp only [ne_eq, show ¬ (4 : Int) = 0 by decide, not_false_eq_true, if_true]
    exact (r8_err g s w h).mono fun x w' ⟨h1, h2, h3⟩ => ⟨⟨_, h1⟩, h2, h3⟩
end Go.Proofs.Ytmemelamgldpcaa.Cd
