import Derived.Test.YtonejnbflkkapabIt
import Derived.Test.YtonejnbflkkapabFw
namespace Go.Proofs.Ytonejnbflkkapab
open Go.RowKit

set_option maxRecDepth 100000 in
set_option maxHeartbeats 2000000 in
theorem writes_w (base g : Nat) (bs : List UInt8) (K N Z : Int) (s : ByteArray) (hN : -9223372036854775808 ≤ N ∧ N ≤ 9223372036854775807) (hlen : bs.length ≤ 10000000000) (w : World) (hw : WIs base g w bs) (hbase : base ≤ w.heap.size) :
    Calls Try.prog 11 #[.pointer (some ⟨g, 0, none⟩), .agg #[.int .i64 K, .int .i64 N, .int .i64 Z, .string s]] w fun e w' => e = .returned (.int .i64 (itE K N Z s)) ∧ WIs base g w' (bs ++ itB K N Z s) ∧ Kept base g w w' := by
  have hkb : ∀ o, Kept base g w (w.alloc o) := fun o => Kept.of_below ((Below.refl base w).alloc hbase o)
  have hwb : ∀ o, WIs base g (w.alloc o) bs := fun o => hw.below (below_alloc w o)
  have hbb : ∀ o, base ≤ (w.alloc o).heap.size := fun o => by show base ≤ (w.heap.push o).size; rw [Array.size_push]; omega
  have HK : Hid (∀ o, Kept base g w (w.alloc o)) := hkb
  have HW : Hid (∀ o, WIs base g (w.alloc o) bs) := hwb
  have HB : Hid (∀ o, base ≤ (w.alloc o).heap.size) := hbb
  clear hkb hwb hbb hw
  rcases it_kind K with rfl | rfl | rfl | ⟨k0, k1, k2, n0, n1, n2⟩
  · by_cases hN0 : N < 0
    · skip
      have e1 : itB 0 N Z s = [] := by simp [itB, hN0]
      have e2 : itE 0 N Z s = 1 := by simp [itE, hN0]
      rw [e1, e2]; clear e1 e2
      go_enter Try.func11, Try.ntmps11
      go_wp2_with (first | (go_at_call 29; refine (uint_neg _ _ hN0 _).mono ?_; rintro e wq ⟨rfl, hwq⟩; subst hwq))
      go_ret
      exact ⟨rfl, by rw [List.append_nil]; exact HW.out _, HK.out _⟩
    · obtain ⟨m, rfl⟩ := Int.eq_ofNat_of_zero_le (show 0 ≤ N by omega)
      have e1 : itB 0 m Z s = uEnc m := by unfold itB; rw [if_pos rfl, if_neg (by omega), Int.toNat_natCast]
      have e2 : itE 0 m Z s = 0 := by unfold itE; rw [if_pos rfl, if_neg (by omega)]
      rw [e1, e2]; clear e1 e2
      go_enter Try.func11, Try.ntmps11
      go_wp2_with (first | (go_at_call 29; refine (uint_w base g m bs (by omega) hlen _ (HW.out _) (HB.out _)).mono ?_; rintro e w1 ⟨rfl, i1, k1⟩))
      go_ret
      exact ⟨rfl, i1, (HK.out _).trans k1⟩
  · skip
    have e1 : itB 1 N Z s = uEnc (zig N) := by simp [itB]
    have e2 : itE 1 N Z s = 0 := by simp [itE]
    rw [e1, e2]; clear e1 e2
    go_enter Try.func11, Try.ntmps11
    go_wp2_with (first | (go_at_call 33; refine (int_w base g N bs hN hlen _ (HW.out _) (HB.out _)).mono ?_; rintro e w1 ⟨rfl, i1, k1⟩))
    go_ret
    exact ⟨rfl, i1, (HK.out _).trans k1⟩
  · cases hf : fitsB N Z with
    | false =>
      have e1 : itB 2 N Z s = [] := by simp [itB, hf]
      have e2 : itE 2 N Z s = 1 := by simp [itE, hf]
      rw [e1, e2]; clear e1 e2
      go_enter Try.func11, Try.ntmps11
      go_wp2_with (first | (go_at_call 34; refine (fixedw_arg _ _ _ hN hf _).mono ?_; rintro e wq ⟨rfl, hwq⟩; subst hwq))
      go_ret
      exact ⟨rfl, by rw [List.append_nil]; exact HW.out _, HK.out _⟩
    | true =>
      have ⟨f0, f1, f2⟩ := fits_of hf
      obtain ⟨m, rfl⟩ := Int.eq_ofNat_of_zero_le f0
      obtain ⟨z, rfl⟩ := Int.eq_ofNat_of_zero_le (show 0 ≤ Z by omega)
      have hz8 : z ≤ 8 := by omega
      clear f1 f2
      have e1 : itB 2 m z s = fEnc m z := by simp [itB, hf]
      have e2 : itE 2 m z s = 0 := by simp [itE, hf]
      rw [e1, e2]; clear e1 e2
      go_enter Try.func11, Try.ntmps11
      go_wp2_with (first | (go_at_call 34; refine (fixed_w base g m z bs (by omega) hz8 hf hlen _ (HW.out _) (HB.out _)).mono ?_; rintro e w1 ⟨rfl, i1, k1⟩))
      go_ret
      exact ⟨rfl, i1, (HK.out _).trans k1⟩
  · by_cases hl : 65535 < s.size
    · skip
      have e1 : itB K N Z s = [] := by simp [itB, n0, n1, n2, hl]
      have e2 : itE K N Z s = 2 := by simp [itE, n0, n1, n2, hl]
      clear n0 n1 n2
      rw [e1, e2]; clear e1 e2
      go_enter Try.func11, Try.ntmps11
      go_wp2_with (first | (go_at_call 35; refine (text_long _ _ hl _).mono ?_; rintro e wq ⟨rfl, hwq⟩; subst hwq))
      go_ret
      exact ⟨rfl, by rw [List.append_nil]; exact HW.out _, HK.out _⟩
    · skip
      have e1 : itB K N Z s = uEnc s.size ++ s.data.toList := by simp only [itB, n0, n1, n2, hl, if_false]
      have e2 : itE K N Z s = 0 := by simp only [itE, n0, n1, n2, hl, if_false]
      clear n0 n1 n2
      rw [e1, e2]; clear e1 e2
      go_enter Try.func11, Try.ntmps11
      go_wp2_with (first | (go_at_call 35; refine (text_w base g s bs (by omega) hlen _ (HW.out _) (HB.out _)).mono ?_; rintro e w1 ⟨rfl, i1, k1⟩))
      go_ret
      exact ⟨rfl, i1, (HK.out _).trans k1⟩
end Go.Proofs.Ytonejnbflkkapab
