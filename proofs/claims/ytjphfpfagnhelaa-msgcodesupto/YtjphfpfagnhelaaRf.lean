import Derived.Test.YtjphfpfagnhelaaRe
import Derived.Laws.DeepNot64
import Derived.Lib.Strings
namespace Go.Proofs.Ytjphfpfagnhelaa
open Go.RowKit

/-- the number that a folded one is -/
def zag (u : Nat) : Int := if u % 2 = 0 then ((u / 2 : Nat) : Int) else -1 - ((u / 2 : Nat) : Int)
theorem xor_comm64 (a b : Int) : bits .xor .i64 a b = bits .xor .i64 b a := by
  show IntKind.i64.wrap (((BitVec.ofInt 64 a ^^^ BitVec.ofInt 64 b).toNat : Nat) : Int) = IntKind.i64.wrap (((BitVec.ofInt 64 b ^^^ BitVec.ofInt 64 a).toNat : Nat) : Int)
  rw [BitVec.xor_comm]
theorem xor_zero64 (a : Nat) (h : a < 9223372036854775808) : bits .xor .i64 (a : Int) 0 = (a : Int) := by
  show IntKind.i64.wrap (((BitVec.ofInt 64 (a : Int) ^^^ BitVec.ofInt 64 0).toNat : Nat) : Int) = _
  have h0 : BitVec.ofInt 64 0 = 0#64 := by decide
  rw [h0, BitVec.xor_zero, BitVec.ofInt_natCast, BitVec.toNat_ofNat, Nat.mod_eq_of_lt (by omega), IntKind.wrap_i64]; omega
theorem unfold_num (u : Nat) (hu : u < 18446744073709551616) : bits .xor .i64 ((u : Int) / 2) (wrap64 (-wrap64 (bits .and .u64 (u : Int) 1))) = zag u := by
  have e1 : bits .and .u64 (u : Int) 1 = ((u % 2 : Nat) : Int) := by
    have := u64_and_nat u 1 hu (by decide)
    rw [nat_mask1] at this
    exact this
  rw [e1, show (u : Int) / 2 = ((u / 2 : Nat) : Int) by omega]
  unfold zag
  by_cases h : u % 2 = 0
  · rw [if_pos h, h, show wrap64 (-wrap64 ((0 : Nat) : Int)) = 0 by unfold wrap64; rfl, xor_zero64 _ (by omega)]
  · rw [if_neg h, show u % 2 = 1 by omega, show wrap64 (-wrap64 ((1 : Nat) : Int)) = -1 by unfold wrap64; rfl, xor_comm64, i64_not _ (by omega)]
theorem unfold_any (u : Nat) (hu : u < 18446744073709551616) (w : World) : Calls Try.prog 79 #[.int .u64 u] w fun e w' => e = .returned (.int .i64 (zag u)) ∧ w' = w := by
  go_enter Try.func79, Try.ntmps79
  go_wp2
  go_ret
  exact ⟨ret_int (unfold_num u hu), rfl⟩

theorem int_err (g : Nat) (s : ByteArray) (e : Int) (w : World) (h : RIs g w s e) (he : e ≠ 0) : Calls Try.prog 72 #[.pointer (some ⟨g, 0, none⟩)] w fun x w' => x = .returned (.tuple #[.int .i64 0, .int .i64 e]) ∧ w' = w := by
  have he' : (e != 0) = true := by simp [he]
  clear he
  go_enter Try.func72, Try.ntmps72
  go_wp2_with (first | (go_at_call 69; refine (fault_r g s e _ h).mono ?_; rintro x w' ⟨rfl, rfl⟩))
  go_ret2
  exact ⟨rfl, rfl⟩
theorem zag0 : zag 0 = 0 := by decide
theorem int_bad (g : Nat) (s : ByteArray) (er : Int) (k : Nat) (hs : s.size ≤ maxLen) (hsc : scan 10 1 s.data.toList 0 = (er, k)) (he : er ≠ 0) (w : World) (h : RIs g w s 0) : Calls Try.prog 72 #[.pointer (some ⟨g, 0, none⟩)] w fun x w' => x = .returned (.tuple #[.int .i64 0, .int .i64 er]) ∧ RIs g w' s er ∧ Kept w.heap.size g w w' := by
  have h0 := h.c0
  have HE : Hid (er ≠ 0) := he
  have HS : Hid (scan 10 1 s.data.toList 0 = (er, k)) := hsc
  have HR : Hid (RIs g w s 0) := h
  clear he hsc
  go_enter Try.func72, Try.ntmps72
  go_wp2_with (first | (go_at_call 69; refine (fault_r g s 0 _ h).mono ?_; rintro x w' ⟨rfl, hw⟩; subst hw) | (go_at_call 71; refine (number_r s 10 1 (by decide) (by decide) (by decide) (by decide) hs _).mono ?_; rintro x w' ⟨u, k', er', rfl, hsc', hx0, hx1, hw⟩; subst hw; obtain ⟨rfl, rfl⟩ : er' = er ∧ k' = k := by { have := hsc'.symm.trans HS.out; simpa using this }; obtain rfl := hx0 HE.out; clear hsc' hx0 hx1) | (go_at_call 79; refine (unfold_any 0 (by decide) _).mono ?_; rintro x w' ⟨rfl, hw⟩; subst hw; rw [zag0]) | (go_at_call 70; refine (take_bad g s 0 _ _ _ HR.out HE.out).mono ?_; rintro x w' ⟨rfl, hr', hk'⟩))
  go_ret2
  exact ⟨rfl, hr', hk'⟩
theorem int_ok (g : Nat) (s : ByteArray) (k : Nat) (hs : s.size ≤ maxLen) (hsc : scan 10 1 s.data.toList 0 = (0, k)) (w : World) (h : RIs g w s 0) : Calls Try.prog 72 #[.pointer (some ⟨g, 0, none⟩)] w fun x w' => x = .returned (.tuple #[.int .i64 (zag (val (s.data.toList.take k))), .int .i64 0]) ∧ RIs g w' (s.extract k s.size) 0 ∧ Kept w.heap.size g w w' := by
  have h0 := h.c0
  have ⟨k1, k2, k3, k4⟩ := scan_k 10 1 (by decide) _ _ _ (by decide) hsc
  have hks : k ≤ s.size := by simpa using k2
  have hv : val (s.data.toList.take k) < 18446744073709551616 := by simpa using k4
  have HS : Hid (scan 10 1 s.data.toList 0 = (0, k)) := hsc
  have HR : Hid (RIs g w s 0) := h
  clear hsc k1 k2 k3 k4
  obtain ⟨v, hv0⟩ : ∃ v, v = val (s.data.toList.take k) := ⟨_, rfl⟩
  rw [← hv0] at hv ⊢
  have HV : Hid (v = val (s.data.toList.take k)) := hv0
  clear hv0
  go_enter Try.func72, Try.ntmps72
  go_wp2_with (first | (go_at_call 69; refine (fault_r g s 0 _ h).mono ?_; rintro x w' ⟨rfl, hw⟩; subst hw) | (go_at_call 71; refine (number_r s 10 1 (by decide) (by decide) (by decide) (by decide) hs _).mono ?_; rintro x w' ⟨u, k', er', rfl, hsc', hx0, hx1, hw⟩; subst hw; obtain ⟨rfl, rfl⟩ : er' = 0 ∧ k' = k := by { have := hsc'.symm.trans HS.out; simpa using this }; obtain rfl : u = v := (hx1 rfl).trans HV.out.symm; clear hsc' hx0 hx1) | (go_at_call 79; refine (unfold_any _ hv _).mono ?_; rintro x w' ⟨rfl, hw⟩; subst hw) | (go_at_call 70; refine (take_ok g s _ hks hs _ HR.out).mono ?_; rintro x w' ⟨rfl, hr', hk'⟩))
  go_ret2
  exact ⟨rfl, hr', hk'⟩

theorem left_r (g : Nat) (s : ByteArray) (e : Int) (w : World) (h : RIs g w s e) : Calls Try.prog 47 #[.pointer (some ⟨g, 0, none⟩)] w fun x w' => x = .returned (.int .i64 s.size) ∧ w' = w := by
  have h0 := h.c0
  go_enter Try.func47, Try.ntmps47
  go_wp2
  go_ret
  exact ⟨rfl, rfl⟩
theorem ext_size (s : ByteArray) (k : Nat) : (s.extract k s.size).size = s.size - k := by simp
theorem ext_ext (s : ByteArray) (k m : Nat) : (s.extract k s.size).extract m (s.extract k s.size).size = s.extract (k + m) s.size := by
  apply ByteArray.ext; apply Array.ext'
  rw [Lib.extract_data, Lib.extract_data, Lib.extract_data, ext_size]
  have hl : s.data.toList.length = s.size := by rw [Array.length_toList]; rfl
  rw [List.take_of_length_le (l := List.drop k s.data.toList) (by rw [List.length_drop, hl]; exact Nat.le_refl _), List.drop_drop,
    List.take_of_length_le (by rw [List.length_drop, hl]; omega), List.take_of_length_le (by rw [List.length_drop, hl]; omega)]

theorem text_err (g : Nat) (s : ByteArray) (e most : Int) (hm : 0 ≤ most) (w : World) (h : RIs g w s e) (he : e ≠ 0) : Calls Try.prog 73 #[.pointer (some ⟨g, 0, none⟩), .int .i64 most] w fun x w' => x = .returned (.tuple #[.string ByteArray.empty, .int .i64 e]) ∧ w' = w := by
  have he' : (e != 0) = true := by simp [he]
  clear he
  go_enter Try.func73, Try.ntmps73
  go_wp2_with (first | (go_at_call 69; refine (fault_r g s e _ h).mono ?_; rintro x w' ⟨rfl, rfl⟩))
  go_ret2
  exact ⟨rfl, rfl⟩
theorem text_bad (g : Nat) (s : ByteArray) (most er : Int) (hm : 0 ≤ most) (k : Nat) (hs : s.size ≤ maxLen) (hsc : scan 9 127 s.data.toList 0 = (er, k)) (he : er ≠ 0) (w : World) (h : RIs g w s 0) : Calls Try.prog 73 #[.pointer (some ⟨g, 0, none⟩), .int .i64 most] w fun x w' => x = .returned (.tuple #[.string ByteArray.empty, .int .i64 er]) ∧ RIs g w' s er ∧ Kept w.heap.size g w w' := by
  have h0 := h.c0
  have HE : Hid (er ≠ 0) := he
  have he' : (er != 0) = true := by simp [he]
  have HS : Hid (scan 9 127 s.data.toList 0 = (er, k)) := hsc
  have HR : Hid (RIs g w s 0) := h
  clear he hsc
  go_enter Try.func73, Try.ntmps73
  go_wp2_with (first | (go_at_call 69; refine (fault_r g s 0 _ h).mono ?_; rintro x w' ⟨rfl, hw⟩; subst hw) | (go_at_call 71; refine (number_r s 9 127 (by decide) (by decide) (by decide) (by decide) hs _).mono ?_; rintro x w' ⟨u, k', er', rfl, hsc', hx0, hx1, hw⟩; subst hw; obtain ⟨rfl, rfl⟩ : er' = er ∧ k' = k := by { have := hsc'.symm.trans HS.out; simpa using this }; obtain rfl := hx0 HE.out; clear hsc' hx0 hx1) | (go_at_call 70; refine (take_bad g s 0 _ _ _ HR.out HE.out).mono ?_; rintro x w' ⟨rfl, hr', hk'⟩))
  go_ret2
  exact ⟨rfl, hr', hk'⟩
theorem text_toolong (g : Nat) (s : ByteArray) (most : Nat) (hmu : most ≤ 9223372036854775807) (k : Nat) (hs : s.size ≤ maxLen) (hsc : scan 9 127 s.data.toList 0 = (0, k)) (hv1 : most < val (s.data.toList.take k)) (w : World) (h : RIs g w s 0) : Calls Try.prog 73 #[.pointer (some ⟨g, 0, none⟩), .int .i64 most] w fun x w' => x = .returned (.tuple #[.string ByteArray.empty, .int .i64 2]) ∧ RIs g w' s 2 ∧ Kept w.heap.size g w w' := by
  have h0 := h.c0
  have HS : Hid (scan 9 127 s.data.toList 0 = (0, k)) := hsc
  have HR : Hid (RIs g w s 0) := h
  clear hsc
  obtain ⟨v, hv0⟩ : ∃ v, v = val (s.data.toList.take k) := ⟨_, rfl⟩
  rw [← hv0] at hv1
  have HV : Hid (v = val (s.data.toList.take k)) := hv0
  clear hv0
  go_enter Try.func73, Try.ntmps73
  go_wp2_with (first | (go_at_call 69; refine (fault_r g s 0 _ h).mono ?_; rintro x w' ⟨rfl, hw⟩; subst hw) | (go_at_call 71; refine (number_r s 9 127 (by decide) (by decide) (by decide) (by decide) hs _).mono ?_; rintro x w' ⟨u, k', er', rfl, hsc', hx0, hx1, hw⟩; subst hw; obtain ⟨rfl, rfl⟩ : er' = 0 ∧ k' = k := by { have := hsc'.symm.trans HS.out; simpa using this }; obtain rfl : u = v := (hx1 rfl).trans HV.out.symm; clear hsc' hx0 hx1) | (go_at_call 70; refine (take_bad g s 0 _ _ _ HR.out (by decide)).mono ?_; rintro x w' ⟨rfl, hr', hk'⟩))
  go_ret2
  exact ⟨rfl, hr', hk'⟩
theorem text_cut (g : Nat) (s : ByteArray) (most : Nat) (hmu : most ≤ 9223372036854775807) (k : Nat) (hs : s.size ≤ maxLen) (hsc : scan 9 127 s.data.toList 0 = (0, k)) (hv1 : val (s.data.toList.take k) ≤ most) (hv2 : s.size - k < val (s.data.toList.take k)) (w : World) (h : RIs g w s 0) : Calls Try.prog 73 #[.pointer (some ⟨g, 0, none⟩), .int .i64 most] w fun x w' => x = .returned (.tuple #[.string ByteArray.empty, .int .i64 20]) ∧ RIs g w' s 20 ∧ Kept w.heap.size g w w' := by
  have h0 := h.c0
  have ⟨k1, k2, k3, k4⟩ := scan_k 9 127 (by decide) _ _ _ (by decide) hsc
  have hks : k ≤ s.size := by simpa using k2
  have HS : Hid (scan 9 127 s.data.toList 0 = (0, k)) := hsc
  have HR : Hid (RIs g w s 0) := h
  have HM : Hid (s.size ≤ maxLen) := hs
  unfold maxLen at hs
  clear hsc k1 k2 k3 k4
  obtain ⟨v, hv0⟩ : ∃ v, v = val (s.data.toList.take k) := ⟨_, rfl⟩
  rw [← hv0] at hv1 hv2
  have HV : Hid (v = val (s.data.toList.take k)) := hv0
  clear hv0
  go_enter Try.func73, Try.ntmps73
  go_wp2_with (first | (go_at_call 69; refine (fault_r g s 0 _ h).mono ?_; rintro x w' ⟨rfl, hw⟩; subst hw) | (go_at_call 71; refine (number_r s 9 127 (by decide) (by decide) (by decide) (by decide) HM.out _).mono ?_; rintro x w' ⟨u, k', er', rfl, hsc', hx0, hx1, hw⟩; subst hw; obtain ⟨rfl, rfl⟩ : er' = 0 ∧ k' = k := by { have := hsc'.symm.trans HS.out; simpa using this }; obtain rfl : u = v := (hx1 rfl).trans HV.out.symm; clear hsc' hx0 hx1) | (go_at_call 70; refine (take_bad g s 0 _ _ _ HR.out (by decide)).mono ?_; rintro x w' ⟨rfl, hr', hk'⟩))
  go_ret2
  exact ⟨rfl, hr', hk'⟩
theorem text_ok (g : Nat) (s : ByteArray) (most : Nat) (hmu : most ≤ 9223372036854775807) (k : Nat) (hs : s.size ≤ maxLen) (hsc : scan 9 127 s.data.toList 0 = (0, k)) (hv1 : val (s.data.toList.take k) ≤ most) (hv2 : val (s.data.toList.take k) ≤ s.size - k) (w : World) (h : RIs g w s 0) : Calls Try.prog 73 #[.pointer (some ⟨g, 0, none⟩), .int .i64 most] w fun x w' => x = .returned (.tuple #[.string (s.extract k (k + val (s.data.toList.take k))), .int .i64 0]) ∧ RIs g w' (s.extract (k + val (s.data.toList.take k)) s.size) 0 ∧ Kept w.heap.size g w w' := by
  have h0 := h.c0
  have ⟨k1, k2, k3, k4⟩ := scan_k 9 127 (by decide) _ _ _ (by decide) hsc
  have hks : k ≤ s.size := by simpa using k2
  have HS : Hid (scan 9 127 s.data.toList 0 = (0, k)) := hsc
  have HR : Hid (RIs g w s 0) := h
  have HM : Hid (s.size ≤ maxLen) := hs
  unfold maxLen at hs
  clear hsc k1 k2 k3 k4
  obtain ⟨v, hv0⟩ : ∃ v, v = val (s.data.toList.take k) := ⟨_, rfl⟩
  rw [← hv0] at hv1 hv2 ⊢
  have HV : Hid (v = val (s.data.toList.take k)) := hv0
  clear hv0
  go_enter Try.func73, Try.ntmps73
  go_wp2_with (first | (go_at_call 69; refine (fault_r g s 0 _ h).mono ?_; rintro x w' ⟨rfl, hw⟩; subst hw) | (go_at_call 71; refine (number_r s 9 127 (by decide) (by decide) (by decide) (by decide) HM.out _).mono ?_; rintro x w' ⟨u, k', er', rfl, hsc', hx0, hx1, hw⟩; subst hw; obtain ⟨rfl, rfl⟩ : er' = 0 ∧ k' = k := by { have := hsc'.symm.trans HS.out; simpa using this }; obtain rfl : u = v := (hx1 rfl).trans HV.out.symm; clear hsc' hx0 hx1) | (go_at_call 70; refine (take_ok g s (_ + _) (by omega) HM.out _ HR.out).mono ?_; rintro x w' ⟨rfl, hr', hk'⟩))
  go_ret2
  exact ⟨rfl, hr', hk'⟩
end Go.Proofs.Ytjphfpfagnhelaa
