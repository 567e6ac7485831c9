import Derived.Test.YtmemelamgldpcaaTm
namespace Go.Proofs.Ytmemelamgldpcaa.Cd
open Go.RowKit
/-- the reference's reader -/
def QIs (g : Nat) (w : World) (s : ByteArray) (e : Int) : Prop := w.heap[g]? = some (.cells #[.string s, .int .i64 e] 81 (0, 0))
theorem QIs.kept {g base g' : Nat} {w w' : World} {s : ByteArray} {e : Int} (h : QIs g w s e) (k : Kept base g' w w') (hb : g < base) (hg : g ≠ g') : QIs g w' s e := (k.block g hb hg).trans h
theorem QIs.c0 {g : Nat} {w : World} {s : ByteArray} {e : Int} (h : QIs g w s e) : w.cell? ⟨g, 0, none⟩ = some (.string s) := by unfold QIs at h; simp [World.cell?, h]
theorem QIs.c1 {g : Nat} {w : World} {s : ByteArray} {e : Int} (h : QIs g w s e) : w.cell? ⟨g, 1, none⟩ = some (.int .i64 e) := by unfold QIs at h; simp [World.cell?, h]
theorem QIs.fr {g : Nat} {w : World} {s : ByteArray} {e : Int} (h : QIs g w s e) (i : Nat) : w.frozen? ⟨g, i, none⟩ = false := by unfold QIs at h; simp [World.frozen?, h]
theorem QIs.lt {g : Nat} {w : World} {s : ByteArray} {e : Int} (h : QIs g w s e) : g < w.heap.size := lt_of_block h
theorem QIs.set0 {g : Nat} {w : World} {s s' : ByteArray} {e : Int} (h : QIs g w s e) : QIs g (w.setCell ⟨g, 0, none⟩ (.string s')) s' e := by
  unfold QIs at *; simp [World.setCell, Array.getElem?_modify, h]
theorem QIs.set1 {g : Nat} {w : World} {s : ByteArray} {e e' : Int} (h : QIs g w s e) : QIs g (w.setCell ⟨g, 1, none⟩ (.int .i64 e')) s e' := by
  unfold QIs at *; simp [World.setCell, Array.getElem?_modify, h]
theorem QIs.drew {g : Nat} {w : World} {s : ByteArray} {e : Int} (h : QIs g w s e) (n : Nat) : QIs g (w.drewN n) s e := h
theorem QIs.new (s : ByteArray) (w : World) : QIs w.heap.size (w.alloc (.cells #[.string s, .int .i64 0] 81)) s 0 := by
  unfold QIs; show (w.heap.push _)[w.heap.size]? = _; simp
theorem QIs.below {g : Nat} {w w' : World} {s : ByteArray} {e : Int} (h : QIs g w s e) (k : Below w.heap.size w w') : QIs g w' s e := (k.block g h.lt).trans h
theorem fval_drop_le : ∀ (l : List UInt8) (j : Nat), fval (l.drop j) ≤ fval l
  | [], j => by simp [fval]
  | c :: t, 0 => by simp
  | c :: t, j + 1 => by
    have := fval_drop_le t j
    simp only [List.drop_succ_cons, fval]; omega
theorem fval_step (s : ByteArray) (k j : Nat) (hk : k ≤ s.size) (hj : j < k) : fval ((s.data.toList.take k).drop j) = (s[j]'(by omega)).toNat + 256 * fval ((s.data.toList.take k).drop (j + 1)) := by
  have hl : s.data.toList.length = s.size := by rw [Array.length_toList]; rfl
  rw [List.drop_eq_getElem_cons (by rw [List.length_take, hl]; omega), fval, List.getElem_take]
  rfl
theorem QIs.c1' {g : Nat} {w : World} {s : ByteArray} {e e' : Int} (h : QIs g w s e) : (w.setCell ⟨g, 1, none⟩ (.int .i64 e')).cell? ⟨g, 1, none⟩ = some (.int .i64 e') := h.set1.c1
theorem top_byte (s : ByteArray) (h8 : 8 ≤ s.size) : fval (s.data.toList.take 8) < 9223372036854775808 ↔ s[7].toNat ≤ 127 := by
  have ⟨a, b⟩ := ftake s 7 _ (show 7 < s.size by omega) rfl
  rw [b]
  have := s[7].toNat_lt
  omega
theorem sized8 (w : World) : Calls Try.prog 62 #[.int .i64 8] w fun e w' => e = .returned (.bool true) ∧ w' = w := by
  go_enter Try.func62, Try.ntmps62
  go_wp2
  go_ret
  exact ⟨rfl, rfl⟩
theorem q8_form (g : Nat) (s : ByteArray) (hks : 8 ≤ s.size) (hb : ¬ fval (s.data.toList.take 8) < 9223372036854775808) (w : World) (h : QIs g w s 0) : Calls Try.prog 45 #[.pointer (some ⟨g, 0, none⟩), .int .i64 8] w fun x w' => x = .returned (.tuple #[.int .i64 0, .int .i64 4]) ∧ Kept w.heap.size g w w' := by
  have ht : ¬ s[7].toNat ≤ 127 := fun hh => hb ((top_byte s hks).2 hh)
  have h0 := h.c0
  have h1 := h.c1
  have hf := h.fr 1
  have h2 := h.c1' (e' := 4)
  clear hb
  go_enter Try.func45, Try.ntmps45
  go_wp2_with (first | (go_at_call 62; refine (sized8 _).mono ?_; rintro x w' ⟨rfl, hw⟩; have hw := hw.symm; subst hw))
  go_quiet (fail)
  go_wp2
  go_ret2
  exact ⟨rfl, ((Kept.refl _ _ _).setCell 1 _).drewN _⟩
set_option maxRecDepth 100000 in
set_option maxHeartbeats 2000000 in
theorem q8_ok (g : Nat) (s : ByteArray) (hks : 8 ≤ s.size) (hs : s.size ≤ maxLen) (hb : fval (s.data.toList.take 8) < 9223372036854775808) (w : World) (h : QIs g w s 0) : Calls Try.prog 45 #[.pointer (some ⟨g, 0, none⟩), .int .i64 8] w fun x w' => x = .returned (.tuple #[.int .i64 (fval (s.data.toList.take 8)), .int .i64 0]) ∧ Kept w.heap.size g w w' := by
  have h0 := h.c0
  have h1 := h.c1
  have hf := h.fr 0
  unfold maxLen at hs
  have HB : Hid (fval (s.data.toList.take 8) < 9223372036854775808) := hb
  have hh : 7 < s.size := by omega
  have h127 : s[7].toNat ≤ 127 := (top_byte s hks).1 hb
  clear hb
  go_enter Try.func45, Try.ntmps45
  go_wp2_with (first | (go_at_call 62; refine (sized8 _).mono ?_; rintro x w' ⟨rfl, hw⟩; have hw := hw.symm; subst hw))
  go_loop [6, 7] (fun u i => ∃ (j x : Nat), j ≤ 8 ∧ i = .int .i64 ((j : Int) - 1) ∧ u = .int .i64 x ∧ x = fval ((s.data.toList.take 8).drop j)) (fun _ i => (intOf i + 1).toNat)
  case atStart => exact ⟨8, 0, Nat.le_refl _, rfl, rfl, by rw [List.drop_of_length_le (by rw [List.length_take]; exact Nat.min_le_left _ _)]; rfl⟩
  case round =>
    obtain ⟨j, x, hj, rfl, rfl, hx⟩ := hrel
    have HX : Hid (x = fval ((s.data.toList.take 8).drop j)) := hx
    clear hx
    by_cases hj0 : j = 0
    · subst hj0
      have HX2 : Hid (fval (s.data.toList.take 8) = x) := HX.out.symm
      go_wp2
      go_ret2
      exact ⟨by rw [HX2.out]; rfl, (Kept.refl _ _ _).setCell 0 _⟩
    · obtain ⟨i, rfl⟩ : ∃ i, j = i + 1 := ⟨j - 1, by omega⟩
      have his : i < s.size := by omega
      have hc : s[i].toNat < 256 := s[i].toNat_lt
      have hst := fval_step s 8 i hks (by omega)
      rw [← HX.out] at hst
      have hle := fval_drop_le (s.data.toList.take 8) i
      rw [hst] at hle
      have hb2 : s[i].toNat + 256 * x < 9223372036854775808 := by have := HB.out; omega
      have HN : Hid (fval ((s.data.toList.take 8).drop i) = s[i].toNat + 256 * x) := hst
      clear hst hle hj0
      go_wp2
      go_round
      case rel => exact ⟨i, s[i].toNat + 256 * x, by omega, rfl, by congr 1; omega, HN.out.symm⟩
      case measure => simp [intOf]

end Go.Proofs.Ytmemelamgldpcaa.Cd
