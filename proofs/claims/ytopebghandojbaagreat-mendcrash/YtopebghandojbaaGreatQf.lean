import Derived.Test.YtopebghandojbaaGreatKe
namespace Go.Proofs.YtopebghandojbaaGreat
open Go.RowKit
/-- the reference's reader -/
def QIs (g : Nat) (w : World) (s : ByteArray) (e : Int) : Prop := w.heap[g]? = some (.cells #[.string s, .int .i64 e] 187 (0, 0))
set_option maxRecDepth 100000 in
theorem QIs.kept {g base g' : Nat} {w w' : World} {s : ByteArray} {e : Int} (h : QIs g w s e) (k : Kept base g' w w') (hb : g < base) (hg : g ≠ g') : QIs g w' s e := (k.block g hb hg).trans h
set_option maxRecDepth 100000 in
theorem QIs.c0 {g : Nat} {w : World} {s : ByteArray} {e : Int} (h : QIs g w s e) : w.cell? ⟨g, 0, none⟩ = some (.string s) := by unfold QIs at h; simp [World.cell?, h]
set_option maxRecDepth 100000 in
theorem QIs.c1 {g : Nat} {w : World} {s : ByteArray} {e : Int} (h : QIs g w s e) : w.cell? ⟨g, 1, none⟩ = some (.int .i64 e) := by unfold QIs at h; simp [World.cell?, h]
set_option maxRecDepth 100000 in
theorem QIs.fr {g : Nat} {w : World} {s : ByteArray} {e : Int} (h : QIs g w s e) (i : Nat) : w.frozen? ⟨g, i, none⟩ = false := by unfold QIs at h; simp [World.frozen?, h]
set_option maxRecDepth 100000 in
theorem QIs.lt {g : Nat} {w : World} {s : ByteArray} {e : Int} (h : QIs g w s e) : g < w.heap.size := lt_of_block h
set_option maxRecDepth 100000 in
theorem QIs.set0 {g : Nat} {w : World} {s s' : ByteArray} {e : Int} (h : QIs g w s e) : QIs g (w.setCell ⟨g, 0, none⟩ (.string s')) s' e := by
  unfold QIs at *; simp [World.setCell, Array.getElem?_modify, h]
set_option maxRecDepth 100000 in
theorem QIs.set1 {g : Nat} {w : World} {s : ByteArray} {e e' : Int} (h : QIs g w s e) : QIs g (w.setCell ⟨g, 1, none⟩ (.int .i64 e')) s e' := by
  unfold QIs at *; simp [World.setCell, Array.getElem?_modify, h]
set_option maxRecDepth 100000 in
theorem QIs.drew {g : Nat} {w : World} {s : ByteArray} {e : Int} (h : QIs g w s e) (n : Nat) : QIs g (w.drewN n) s e := h
set_option maxRecDepth 100000 in
theorem QIs.new (s : ByteArray) (w : World) : QIs w.heap.size (w.alloc (.cells #[.string s, .int .i64 0] 187)) s 0 := by
  unfold QIs; show (w.heap.push _)[w.heap.size]? = _; simp
set_option maxRecDepth 100000 in
theorem QIs.below {g : Nat} {w w' : World} {s : ByteArray} {e : Int} (h : QIs g w s e) (k : Below w.heap.size w w') : QIs g w' s e := (k.block g h.lt).trans h
set_option maxRecDepth 100000 in
theorem fval_drop_le : ∀ (l : List UInt8) (j : Nat), fval (l.drop j) ≤ fval l
  | [], j => by simp [fval]
  | c :: t, 0 => by simp
  | c :: t, j + 1 => by
    have := fval_drop_le t j
    simp only [List.drop_succ_cons, fval]; omega
set_option maxRecDepth 100000 in
theorem fval_step (s : ByteArray) (k j : Nat) (hk : k ≤ s.size) (hj : j < k) : fval ((s.data.toList.take k).drop j) = (s[j]'(by omega)).toNat + 256 * fval ((s.data.toList.take k).drop (j + 1)) := by
  have hl : s.data.toList.length = s.size := by rw [Array.length_toList]; rfl
  rw [List.drop_eq_getElem_cons (by rw [List.length_take, hl]; omega), fval, List.getElem_take]
  rfl
set_option maxRecDepth 100000 in
theorem QIs.c1' {g : Nat} {w : World} {s : ByteArray} {e e' : Int} (h : QIs g w s e) : (w.setCell ⟨g, 1, none⟩ (.int .i64 e')).cell? ⟨g, 1, none⟩ = some (.int .i64 e') := h.set1.c1
set_option maxRecDepth 100000 in
theorem top_byte (s : ByteArray) (h8 : 8 ≤ s.size) : fval (s.data.toList.take 8) < 9223372036854775808 ↔ s[7].toNat ≤ 127 := by
  have ⟨a, b⟩ := ftake s 7 _ (show 7 < s.size by omega) rfl
  rw [b]
  have := s[7].toNat_lt
  omega
set_option maxRecDepth 100000 in
theorem sized8 (w : World) : Calls Tryz.prog 137 #[.int .i64 8] w fun e w' => e = .returned (.bool true) ∧ w' = w := by
  go_enter Tryz.func137, Tryz.ntmps137
  go_wp2
  go_ret
  exact ⟨rfl, rfl⟩
set_option maxRecDepth 100000 in
theorem q8_form (g : Nat) (s : ByteArray) (hks : 8 ≤ s.size) (hb : ¬ fval (s.data.toList.take 8) < 9223372036854775808) (w : World) (h : QIs g w s 0) : Calls Tryz.prog 108 #[.pointer (some ⟨g, 0, none⟩), .int .i64 8] w fun x w' => x = .returned (.tuple #[.int .i64 0, .int .i64 4]) ∧ Kept w.heap.size g w w' := by
  have ht : ¬ s[7].toNat ≤ 127 := fun hh => hb ((top_byte s hks).2 hh)
  have h0 := h.c0
  have h1 := h.c1
  have hf := h.fr 1
  have h2 := h.c1' (e' := 4)
  clear hb
  go_enter Tryz.func108, Tryz.ntmps108
  go_wp2_with (first | (go_at_call 137; refine (sized8 _).mono ?_; rintro x w' ⟨rfl, hw⟩; have hw := hw.symm; subst hw))
  go_quiet (fail)
  go_wp2
  go_ret2
  exact ⟨rfl, ((Kept.refl _ _ _).setCell 1 _).drewN _⟩
set_option maxRecDepth 100000 in
set_option maxHeartbeats 2000000 in
theorem q8_ok (g : Nat) (s : ByteArray) (hks : 8 ≤ s.size) (hs : s.size ≤ maxLen) (hb : fval (s.data.toList.take 8) < 9223372036854775808) (w : World) (h : QIs g w s 0) : Calls Tryz.prog 108 #[.pointer (some ⟨g, 0, none⟩), .int .i64 8] w fun x w' => x = .returned (.tuple #[.int .i64 (fval (s.data.toList.take 8)), .int .i64 0]) ∧ Kept w.heap.size g w w' := by
  have h0 := h.c0
  have h1 := h.c1
  have hf := h.fr 0
  unfold maxLen at hs
  have HB : Hid (fval (s.data.toList.take 8) < 9223372036854775808) := hb
  have hh : 7 < s.size := by omega
  have h127 : s[7].toNat ≤ 127 := (top_byte s hks).1 hb
  clear hb
  go_enter Tryz.func108, Tryz.ntmps108
  go_wp2_with (first | (go_at_call 137; refine (sized8 _).mono ?_; rintro x w' ⟨rfl, hw⟩; have hw := hw.symm; subst hw))
  go_loop [6, 7] (fun u i => ∃ (j x : Nat), j ≤ 8 ∧ i = .int .i64 ((j : Int) - 1) ∧ u = .int .i64 x ∧ x = fval ((s.data.toList.take 8).drop j)) (fun _ i => (intOf i + 1).toNat)
  case atStart => exact ⟨8, 0, Nat.le_refl _, rfl, rfl, by rw [List.drop_of_length_le (by rw [List.length_take]; exact Nat.min_le_left _ _)]; rfl⟩
  case round =>
    obtain ⟨j, x, hj, rfl, rfl, hx⟩ := hrel
    have HX : Hid (x = fval ((s.data.toList.take 8).drop j)) := hx
    clear hx
    by_cases hj0 : j = 0
    · subst hj0
      have HX2 : Hid (fval (s.data.toList.take 8) = x) := HX.out.symm
      go_wp2
      go_ret2
      exact ⟨by rw [HX2.out]; rfl, (Kept.refl _ _ _).setCell 0 _⟩
    · obtain ⟨i, rfl⟩ : ∃ i, j = i + 1 := ⟨j - 1, by omega⟩
      have his : i < s.size := by omega
      have hc : s[i].toNat < 256 := s[i].toNat_lt
      have hst := fval_step s 8 i hks (by omega)
      rw [← HX.out] at hst
      have hle := fval_drop_le (s.data.toList.take 8) i
      rw [hst] at hle
      have hb2 : s[i].toNat + 256 * x < 9223372036854775808 := by have := HB.out; omega
      have HN : Hid (fval ((s.data.toList.take 8).drop i) = s[i].toNat + 256 * x) := hst
      clear hst hle hj0
      go_wp2
      go_round
      case rel => exact ⟨i, s[i].toNat + 256 * x, by omega, rfl, by congr 1; omega, HN.out.symm⟩
      case measure => simp [intOf]

set_option maxRecDepth 100000 in
theorem plE_cons (p : Int) (ps : List Int) : plE (p :: ps) = fEnc p.toNat 2 ++ plE ps := by unfold plE; rw [List.flatMap_cons]
set_option maxRecDepth 100000 in
theorem fEnc2 (p : Nat) : fEnc p 2 = [UInt8.ofNat (p % 256), UInt8.ofNat (p / 256 % 256)] := rfl
set_option maxRecDepth 100000 in
theorem u8_of (x : UInt8) : UInt8.ofNat x.toNat = x := by simp
set_option maxRecDepth 100000 in
theorem fEnc_two (x y : UInt8) : fEnc (x.toNat + 256 * y.toNat) 2 = [x, y] := by
  have hx := x.toNat_lt
  have hy := y.toNat_lt
  rw [fEnc2, show (x.toNat + 256 * y.toNat) / 256 % 256 = y.toNat by omega, show (x.toNat + 256 * y.toNat) % 256 = x.toNat by omega, u8_of, u8_of]
set_option maxRecDepth 100000 in
/-- any bytes, two by two, are places -/
theorem plE_of : ∀ (m : Nat) (X : List UInt8), X.length = 2 * m → ∃ ps : List Int, plE ps = X ∧ ps.length = m ∧ ∀ p ∈ ps, 0 ≤ p ∧ p < 65536
  | 0, X, h => ⟨[], by rw [List.eq_nil_of_length_eq_zero h]; rfl, rfl, by simp⟩
  | m + 1, [], h => by simp at h
  | m + 1, [x], h => by simp at h; omega
  | m + 1, x :: y :: X, h => by
    obtain ⟨ps, h1, h2, h3⟩ := plE_of m X (by simp at h; omega)
    refine ⟨((x.toNat + 256 * y.toNat : Nat) : Int) :: ps, ?_, by simp [h2], fun p hp => ?_⟩
    · rw [plE_cons, h1, Int.toNat_natCast, fEnc_two]; rfl
    · rcases List.mem_cons.1 hp with rfl | hp
      · have := x.toNat_lt; have := y.toNat_lt; omega
      · exact h3 p hp
end Go.Proofs.YtopebghandojbaaGreat
