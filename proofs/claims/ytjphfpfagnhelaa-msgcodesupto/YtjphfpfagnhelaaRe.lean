import Derived.Test.YtjphfpfagnhelaaRd
namespace Go.Proofs.Ytjphfpfagnhelaa
open Go.RowKit

theorem ret_two {k l : IntKind} {a b c d : Int} (h : a = b) (h' : c = d) : Ending.returned (.tuple #[.int k a, .int l c]) = .returned (.tuple #[.int k b, .int l d]) := by rw [h, h']
theorem RIs.c0 {g : Nat} {w : World} {s : ByteArray} {e : Int} (h : RIs g w s e) : w.cell? ⟨g, 0, none⟩ = some (.string s) := by unfold RIs at h; simp [World.cell?, h]
theorem RIs.c1 {g : Nat} {w : World} {s : ByteArray} {e : Int} (h : RIs g w s e) : w.cell? ⟨g, 1, none⟩ = some (.int .i64 e) := by unfold RIs at h; simp [World.cell?, h]
theorem RIs.fr {g : Nat} {w : World} {s : ByteArray} {e : Int} (h : RIs g w s e) (i : Nat) : w.frozen? ⟨g, i, none⟩ = false := by unfold RIs at h; simp [World.frozen?, h]
theorem RIs.lt {g : Nat} {w : World} {s : ByteArray} {e : Int} (h : RIs g w s e) : g < w.heap.size := lt_of_block h
theorem RIs.set0 {g : Nat} {w : World} {s s' : ByteArray} {e : Int} (h : RIs g w s e) : RIs g (w.setCell ⟨g, 0, none⟩ (.string s')) s' e := by
  unfold RIs at *; simp [World.setCell, Array.getElem?_modify, h]
theorem RIs.set1 {g : Nat} {w : World} {s : ByteArray} {e e' : Int} (h : RIs g w s e) : RIs g (w.setCell ⟨g, 1, none⟩ (.int .i64 e')) s e' := by
  unfold RIs at *; simp [World.setCell, Array.getElem?_modify, h]

theorem of_any (s : ByteArray) (w : World) : Calls Try.prog 45 #[.string s] w fun e w' => e = .returned (.pointer (some ⟨w.heap.size, 0, none⟩)) ∧ w' = w.alloc (.cells #[.string s, .int .i64 0] 105) := by
  go_enter Try.func45, Try.ntmps45
  go_wp2
  go_ret
  exact ⟨rfl, rfl⟩
theorem RIs.new (s : ByteArray) (w : World) : RIs w.heap.size (w.alloc (.cells #[.string s, .int .i64 0] 105)) s 0 := by
  unfold RIs; show (w.heap.push _)[w.heap.size]? = _; simp
theorem WIs.new (w : World) (base : Nat) : WIs base w.heap.size (w.alloc (.cells #[.slice none 0 0] 100)) [] :=
  ⟨.slice none 0 0, by show (w.heap.push _)[w.heap.size]? = _; simp, World.ownsRow_nil _ _ _ _⟩

theorem fault_r (g : Nat) (s : ByteArray) (e : Int) (w : World) (h : RIs g w s e) : Calls Try.prog 69 #[.pointer (some ⟨g, 0, none⟩)] w fun x w' => x = .returned (.int .i64 e) ∧ w' = w := by
  have h1 := h.c1
  go_enter Try.func69, Try.ntmps69
  go_wp2
  go_ret
  exact ⟨rfl, rfl⟩
theorem take_bad (g : Nat) (s : ByteArray) (e k er : Int) (w : World) (h : RIs g w s e) (he : er ≠ 0) : Calls Try.prog 70 #[.pointer (some ⟨g, 0, none⟩), .int .i64 k, .int .i64 er] w fun x w' => x = .returned (.int .i64 er) ∧ RIs g w' s er ∧ Kept w.heap.size g w w' := by
  have h1 := h.c1
  have hf := h.fr 1
  have he' : (er != 0) = true := by simp [he]
  have HE : Hid (er ≠ 0) := he
  clear he
  go_enter Try.func70, Try.ntmps70
  go_wp2
  go_ret
  exact ⟨rfl, h.set1, (Kept.refl _ _ _).setCell 1 _⟩
theorem take_ok (g : Nat) (s : ByteArray) (k : Nat) (hk : k ≤ s.size) (_hs : s.size ≤ maxLen) (w : World) (h : RIs g w s 0) : Calls Try.prog 70 #[.pointer (some ⟨g, 0, none⟩), .int .i64 k, .int .i64 0] w fun x w' => x = .returned (.int .i64 0) ∧ RIs g w' (s.extract k s.size) 0 ∧ Kept w.heap.size g w w' := by
  have h0 := h.c0
  have hf := h.fr 0
  go_enter Try.func70, Try.ntmps70
  go_wp2
  go_ret
  exact ⟨rfl, h.set0, (Kept.refl _ _ _).setCell 0 _⟩

theorem scan_k (most last : Nat) (hl : last ≤ 127) : ∀ (l : List UInt8) (i k : Nat), i < most → scan most last l i = (0, k) → i < k ∧ k ≤ i + l.length ∧ k ≤ most ∧ val (l.take (k - i)) < (last + 1) * 128 ^ (most - 1 - i)
  | [], i, k, _, h => by simp [scan] at h
  | c :: t, i, k, hi, h => by
    rw [scan] at h
    by_cases h1 : (c.toNat = 0 ∧ 0 < i) ∨ (last < c.toNat ∧ i + 1 = most)
    · rw [if_pos h1] at h; simp at h
    · rw [if_neg h1] at h
      by_cases h2 : c.toNat < 128
      · rw [if_pos h2] at h
        have : k = i + 1 := by simpa using h.symm
        subst this
        refine ⟨by omega, by simp, by omega, ?_⟩
        rw [show i + 1 - i = 1 by omega]
        simp only [List.take_succ_cons, List.take_zero, val]
        by_cases h3 : i + 1 = most
        · rw [show most - 1 - i = 0 by omega]; omega
        · have : 128 ^ 1 ≤ 128 ^ (most - 1 - i) := Nat.pow_le_pow_right (by decide) (by omega)
          have : 1 * 128 ^ (most - 1 - i) ≤ (last + 1) * 128 ^ (most - 1 - i) := Nat.mul_le_mul_right _ (by omega)
          omega
      · rw [if_neg h2] at h
        have h3 : i + 1 < most := by omega
        obtain ⟨a, b, d, e⟩ := scan_k most last hl t (i + 1) k h3 h
        refine ⟨by omega, by simp; omega, d, ?_⟩
        rw [show k - i = (k - (i + 1)) + 1 by omega]
        simp only [List.take_succ_cons, val]
        rw [show most - 1 - i = (most - 1 - (i + 1)) + 1 by omega, Nat.pow_succ, ← Nat.mul_assoc]
        have : c.toNat % 128 < 128 := Nat.mod_lt _ (by decide)
        omega

theorem uint_err (g : Nat) (s : ByteArray) (e : Int) (w : World) (h : RIs g w s e) (he : e ≠ 0) : Calls Try.prog 61 #[.pointer (some ⟨g, 0, none⟩)] w fun x w' => x = .returned (.tuple #[.int .i64 0, .int .i64 e]) ∧ w' = w := by
  have he' : (e != 0) = true := by simp [he]
  clear he
  go_enter Try.func61, Try.ntmps61
  go_wp2_with (first | (go_at_call 69; refine (fault_r g s e _ h).mono ?_; rintro x w' ⟨rfl, rfl⟩))
  go_ret2
  exact ⟨rfl, rfl⟩
theorem uint_bad (g : Nat) (s : ByteArray) (er : Int) (k : Nat) (hs : s.size ≤ maxLen) (hsc : scan 9 127 s.data.toList 0 = (er, k)) (he : er ≠ 0) (w : World) (h : RIs g w s 0) : Calls Try.prog 61 #[.pointer (some ⟨g, 0, none⟩)] w fun x w' => x = .returned (.tuple #[.int .i64 0, .int .i64 er]) ∧ RIs g w' s er ∧ Kept w.heap.size g w w' := by
  have h0 := h.c0
  have HE : Hid (er ≠ 0) := he
  have HS : Hid (scan 9 127 s.data.toList 0 = (er, k)) := hsc
  have HR : Hid (RIs g w s 0) := h
  clear he hsc
  go_enter Try.func61, Try.ntmps61
  go_wp2_with (first | (go_at_call 69; refine (fault_r g s 0 _ h).mono ?_; rintro x w' ⟨rfl, hw⟩; subst hw) | (go_at_call 71; refine (number_r s 9 127 (by decide) (by decide) (by decide) (by decide) hs _).mono ?_; rintro x w' ⟨u, k', er', rfl, hsc', hx0, hx1, hw⟩; subst hw; obtain ⟨rfl, rfl⟩ : er' = er ∧ k' = k := by { have := hsc'.symm.trans HS.out; simpa using this }; obtain rfl := hx0 HE.out; clear hsc' hx0 hx1) | (go_at_call 70; refine (take_bad g s 0 _ _ _ HR.out HE.out).mono ?_; rintro x w' ⟨rfl, hr', hk'⟩))
  go_ret2
  exact ⟨rfl, hr', hk'⟩
theorem uint_ok (g : Nat) (s : ByteArray) (k : Nat) (hs : s.size ≤ maxLen) (hsc : scan 9 127 s.data.toList 0 = (0, k)) (w : World) (h : RIs g w s 0) : Calls Try.prog 61 #[.pointer (some ⟨g, 0, none⟩)] w fun x w' => x = .returned (.tuple #[.int .i64 (val (s.data.toList.take k)), .int .i64 0]) ∧ RIs g w' (s.extract k s.size) 0 ∧ Kept w.heap.size g w w' := by
  have h0 := h.c0
  have ⟨k1, k2, k3, k4⟩ := scan_k 9 127 (by decide) _ _ _ (by decide) hsc
  have hks : k ≤ s.size := by simpa using k2
  have hv : val (s.data.toList.take k) < 9223372036854775808 := by simpa using k4
  have HS : Hid (scan 9 127 s.data.toList 0 = (0, k)) := hsc
  have HR : Hid (RIs g w s 0) := h
  clear hsc k1 k2 k3 k4
  obtain ⟨v, hv0⟩ : ∃ v, v = val (s.data.toList.take k) := ⟨_, rfl⟩
  rw [← hv0] at hv ⊢
  have HV : Hid (v = val (s.data.toList.take k)) := hv0
  clear hv0
  go_enter Try.func61, Try.ntmps61
  go_wp2_with (first | (go_at_call 69; refine (fault_r g s 0 _ h).mono ?_; rintro x w' ⟨rfl, hw⟩; subst hw) | (go_at_call 71; refine (number_r s 9 127 (by decide) (by decide) (by decide) (by decide) hs _).mono ?_; rintro x w' ⟨u, k', er', rfl, hsc', hx0, hx1, hw⟩; subst hw; obtain ⟨rfl, rfl⟩ : er' = 0 ∧ k' = k := by { have := hsc'.symm.trans HS.out; simpa using this }; obtain rfl : u = v := (hx1 rfl).trans HV.out.symm; clear hsc' hx0 hx1) | (go_at_call 70; refine (take_ok g s _ hks hs _ HR.out).mono ?_; rintro x w' ⟨rfl, hr', hk'⟩))
  go_ret2
  exact ⟨rfl, hr', hk'⟩
end Go.Proofs.Ytjphfpfagnhelaa
