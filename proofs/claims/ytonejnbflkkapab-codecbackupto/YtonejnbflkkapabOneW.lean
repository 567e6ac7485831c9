import Derived.Test.YtonejnbflkkapabSp
import Derived.Test.YtonejnbflkkapabRr
namespace Go.Proofs.Ytonejnbflkkapab
open Go.RowKit

theorem scan_enc (most last : Nat) (hl : last ≤ 127) : ∀ (l : List UInt8) (i k : Nat), i < most → scan most last l i = (0, k) → (0 < i → val (l.take (k - i)) ≠ 0) ∧ uEnc (val (l.take (k - i))) = l.take (k - i)
  | [], i, k, _, h => by simp [scan] at h
  | c :: t, i, k, hi, h => by
    rw [scan] at h
    by_cases h1 : (c.toNat = 0 ∧ 0 < i) ∨ (last < c.toNat ∧ i + 1 = most)
    · rw [if_pos h1] at h; simp at h
    · rw [if_neg h1] at h
      by_cases h2 : c.toNat < 128
      · rw [if_pos h2] at h
        have : k = i + 1 := by simpa using h.symm
        subst this
        rw [show i + 1 - i = 1 by omega]
        simp only [List.take_succ_cons, List.take_zero, val]
        rw [show c.toNat % 128 + 128 * 0 = c.toNat by omega]
        exact ⟨fun h0 => by omega, by rw [uEnc_lo h2, UInt8.ofNat_toNat]⟩
      · rw [if_neg h2] at h
        have h3 : i + 1 < most := by omega
        obtain ⟨a, b⟩ := scan_enc most last hl t (i + 1) k h3 h
        have hk := (scan_k most last hl t (i + 1) k h3 h).1
        have hv := a (by omega)
        have hc := c.toNat_lt
        rw [show k - i = (k - (i + 1)) + 1 by omega]
        simp only [List.take_succ_cons, val]
        generalize val (t.take (k - (i + 1))) = v at *
        refine ⟨fun _ => by omega, ?_⟩
        rw [uEnc_hi (by omega), show (c.toNat % 128 + 128 * v) % 128 + 128 = c.toNat by omega, show (c.toNat % 128 + 128 * v) / 128 = v by omega, UInt8.ofNat_toNat, b]
theorem zig_zag (u : Nat) : zig (zag u) = u := by
  unfold zag zig
  by_cases h : u % 2 = 0
  · rw [if_pos h, if_pos (by omega)]; omega
  · rw [if_neg h, if_neg (by omega)]; omega
theorem zag_range (u : Nat) (h : u < 18446744073709551616) : -9223372036854775808 ≤ zag u ∧ zag u ≤ 9223372036854775807 := by unfold zag; split <;> omega
theorem refInt (n : Int) (hn : -9223372036854775808 ≤ n ∧ n ≤ 9223372036854775807) (w : World) : Calls Try.prog 27 #[.int .i64 n] w fun e w' => e = .returned (.string (st (uEnc (zig n)))) ∧ Below w.heap.size w w' := by
  by_cases h : n < 0
  · exact refInt_neg n h hn.1 w
  · obtain ⟨m, rfl⟩ := Int.eq_ofNat_of_zero_le (show 0 ≤ n by omega)
    exact refInt_pos m (by omega) w
/-- what was read is what it is written as -/
theorem one_str (s : ByteArray) (most last k : Nat) (hl : last ≤ 127) (hm : 0 < most) (h : scan most last s.data.toList 0 = (0, k)) : ((st (uEnc (val (s.data.toList.take k)))).toList == (s.extract 0 k).toList) = true := by
  have := (scan_enc most last hl _ _ _ hm h).2
  rw [Nat.sub_zero] at this
  rw [this, Lib.extract_toList, Lib.toList_data, st_list]
  simp
set_option maxRecDepth 100000 in
set_option maxHeartbeats 4000000 in
theorem one_yy (s : ByteArray) (k k2 : Nat) (hs : s.size ≤ maxLen) (hu : scan 9 127 s.data.toList 0 = (0, k)) (hi : scan 10 1 s.data.toList 0 = (0, k2)) (w : World) :
    Calls Try.prog 6 #[.string s] w fun e w' => e = .returned (.bool true) ∧ Below w.heap.size w w' := by
  have hs2 : s.size ≤ 9223372036854775807 := by unfold maxLen at hs; omega
  have ⟨k1', ku, _, kv⟩ := scan_k 9 127 (by decide) _ _ _ (by decide) hu
  have hks : k ≤ s.size := by simpa using ku
  have hsk : s.size - (s.size - k) = k := by omega
  have hvu : val (s.data.toList.take k) < 9223372036854775808 := by simpa using kv
  have heq := one_str s 9 127 k (by decide) (by decide) hu
  obtain ⟨v, hv⟩ : ∃ v, v = val (s.data.toList.take k) := ⟨_, rfl⟩
  obtain ⟨t, ht⟩ : ∃ t, t = st (uEnc v) := ⟨_, rfl⟩
  rw [← hv] at hvu heq
  rw [← ht] at heq
  have HV : Hid (v = val (s.data.toList.take k)) := hv
  have HU : Hid (scan 9 127 s.data.toList 0 = (0, k)) := hu
  have HCU : Hid (∀ w, Calls Try.prog 26 #[.int .i64 v] w fun e w' => e = .returned (.string t) ∧ Below w.heap.size w w') := fun w => by rw [ht]; exact refUint v (by omega) w
  have hlist : t.toList = (s.extract 0 k).toList := by simpa using heq
  clear hv ht hu ku kv k1' heq
  have ⟨k1'', ki, _, kw⟩ := scan_k 10 1 (by decide) _ _ _ (by decide) hi
  have hks2 : k2 ≤ s.size := by simpa using ki
  have hsk2 : s.size - (s.size - k2) = k2 := by omega
  have hwu : val (s.data.toList.take k2) < 18446744073709551616 := by simpa using kw
  have heq2 := one_str s 10 1 k2 (by decide) (by decide) hi
  obtain ⟨z, hz⟩ : ∃ z, z = zag (val (s.data.toList.take k2)) := ⟨_, rfl⟩
  obtain ⟨t2, ht2⟩ : ∃ t2, t2 = st (uEnc (val (s.data.toList.take k2))) := ⟨_, rfl⟩
  rw [← ht2] at heq2
  have HW : Hid (z = zag (val (s.data.toList.take k2))) := hz
  have HI : Hid (scan 10 1 s.data.toList 0 = (0, k2)) := hi
  have HCI : Hid (∀ w, Calls Try.prog 27 #[.int .i64 z] w fun e w' => e = .returned (.string t2) ∧ Below w.heap.size w w') := fun w => by
    have h := refInt z (by rw [hz]; exact zag_range _ hwu) w
    rw [hz, zig_zag, ← ht2, ← hz] at h
    exact h
  have hlist2 : t2.toList = (s.extract 0 k2).toList := by simpa using heq2
  clear hz ht2 hi ki kw k1'' heq2 hwu
  go_enter Try.func6, Try.ntmps6
  go_wp2_with (first | (go_at_call 14; have hq := r1; clear hq; refine (of_any _ _).mono ?_; rintro e w2 ⟨rfl, hw2⟩; have b2 := hw2 ▸ below_alloc w1 _; have q2 := hw2 ▸ RIs.new s w1; have r2 := r1.below b2; clear hw2; have z2 := q2.lt) | (go_at_call 14; refine (of_any _ _).mono ?_; rintro e w1 ⟨rfl, hw1⟩; have b1 := hw1 ▸ below_alloc w _; have r1 := hw1 ▸ RIs.new s w; clear hw1; have z1 := r1.lt) | (go_at_call 15; refine (uint_ok _ s k hs HU.out _ r2).mono ?_; rintro e w3 ⟨rfl, r3, k3⟩; have q3 := q2.kept k3 z2 (by omega); have z3 := k3.size; rw [← HV.out]) | (go_at_call 26; refine (HCU.out _).mono ?_; rintro e w4 ⟨rfl, b4⟩; have r4 := r3.below b4; have q4 := q3.below b4; have z4 := b4.size) | (go_at_call 17; refine (int_ok _ s k2 hs HI.out _ q4).mono ?_; rintro e w5 ⟨rfl, q5, k5⟩; have r5 := r4.kept k5 r4.lt (by omega); have z5 := k5.size; rw [← HW.out]) | (go_at_call 27; refine (HCI.out _).mono ?_; rintro e w6 ⟨rfl, b6⟩; have r6 := r5.below b6; have q6 := q5.below b6; have z6 := b6.size) | (go_at_call 23; refine (left_r _ _ _ _ (by first | exact r6 | exact q6 | exact r5 | exact q5 | exact r4 | exact q4 | exact r3 | exact q3)).mono ?_; rintro e wq ⟨rfl, hwq⟩; have hwq := hwq.symm; subst hwq; first | rw [ext_size] | skip) | (go_at_call 13; refine (speaks_any _).mono ?_; rintro e w9 ⟨rfl, b9⟩))
  go_ret
  exact ⟨rfl, (((((b1.trans (b2.mono b1.size)).trans (k3.below (by omega) (by omega))).trans (b4.mono (by omega))).trans (k5.below (by omega) (by omega))).trans (b6.mono (by omega))).trans (b9.mono (by omega))⟩
set_option maxRecDepth 100000 in
set_option maxHeartbeats 4000000 in
theorem one_yn (s : ByteArray) (k k2 : Nat) (hs : s.size ≤ maxLen) (hu : scan 9 127 s.data.toList 0 = (0, k)) (ei : Int) (hi : scan 10 1 s.data.toList 0 = (ei, k2)) (hei : ei ≠ 0) (w : World) :
    Calls Try.prog 6 #[.string s] w fun e w' => e = .returned (.bool true) ∧ Below w.heap.size w w' := by
  have hs2 : s.size ≤ 9223372036854775807 := by unfold maxLen at hs; omega
  have ⟨k1', ku, _, kv⟩ := scan_k 9 127 (by decide) _ _ _ (by decide) hu
  have hks : k ≤ s.size := by simpa using ku
  have hsk : s.size - (s.size - k) = k := by omega
  have hvu : val (s.data.toList.take k) < 9223372036854775808 := by simpa using kv
  have heq := one_str s 9 127 k (by decide) (by decide) hu
  obtain ⟨v, hv⟩ : ∃ v, v = val (s.data.toList.take k) := ⟨_, rfl⟩
  obtain ⟨t, ht⟩ : ∃ t, t = st (uEnc v) := ⟨_, rfl⟩
  rw [← hv] at hvu heq
  rw [← ht] at heq
  have HV : Hid (v = val (s.data.toList.take k)) := hv
  have HU : Hid (scan 9 127 s.data.toList 0 = (0, k)) := hu
  have HCU : Hid (∀ w, Calls Try.prog 26 #[.int .i64 v] w fun e w' => e = .returned (.string t) ∧ Below w.heap.size w w') := fun w => by rw [ht]; exact refUint v (by omega) w
  have hlist : t.toList = (s.extract 0 k).toList := by simpa using heq
  clear hv ht hu ku kv k1' heq
  have HI : Hid (scan 10 1 s.data.toList 0 = (ei, k2)) := hi
  have HEI : Hid (ei ≠ 0) := hei
  have hei' : (ei == 0) = false := by simp [hei]
  clear hi hei
  go_enter Try.func6, Try.ntmps6
  go_wp2_with (first | (go_at_call 14; have hq := r1; clear hq; refine (of_any _ _).mono ?_; rintro e w2 ⟨rfl, hw2⟩; have b2 := hw2 ▸ below_alloc w1 _; have q2 := hw2 ▸ RIs.new s w1; have r2 := r1.below b2; clear hw2; have z2 := q2.lt) | (go_at_call 14; refine (of_any _ _).mono ?_; rintro e w1 ⟨rfl, hw1⟩; have b1 := hw1 ▸ below_alloc w _; have r1 := hw1 ▸ RIs.new s w; clear hw1; have z1 := r1.lt) | (go_at_call 15; refine (uint_ok _ s k hs HU.out _ r2).mono ?_; rintro e w3 ⟨rfl, r3, k3⟩; have q3 := q2.kept k3 z2 (by omega); have z3 := k3.size; rw [← HV.out]) | (go_at_call 26; refine (HCU.out _).mono ?_; rintro e w4 ⟨rfl, b4⟩; have r4 := r3.below b4; have q4 := q3.below b4; have z4 := b4.size) | (go_at_call 17; refine (int_bad _ s ei k2 hs HI.out HEI.out _ q4).mono ?_; rintro e w5 ⟨rfl, q5, k5⟩; have r5 := r4.kept k5 r4.lt (by omega); have z5 := k5.size) | (go_at_call 23; refine (left_r _ _ _ _ (by first | exact r6 | exact q6 | exact r5 | exact q5 | exact r4 | exact q4 | exact r3 | exact q3)).mono ?_; rintro e wq ⟨rfl, hwq⟩; have hwq := hwq.symm; subst hwq; first | rw [ext_size] | skip) | (go_at_call 13; refine (speaks_any _).mono ?_; rintro e w9 ⟨rfl, b9⟩))
  go_ret
  exact ⟨rfl, ((((b1.trans (b2.mono b1.size)).trans (k3.below (by omega) (by omega))).trans (b4.mono (by omega))).trans (k5.below (by omega) (by omega))).trans (b9.mono (by omega))⟩
set_option maxRecDepth 100000 in
set_option maxHeartbeats 4000000 in
theorem one_ny (s : ByteArray) (k k2 : Nat) (hs : s.size ≤ maxLen) (eu : Int) (hu : scan 9 127 s.data.toList 0 = (eu, k)) (heu : eu ≠ 0) (hi : scan 10 1 s.data.toList 0 = (0, k2)) (w : World) :
    Calls Try.prog 6 #[.string s] w fun e w' => e = .returned (.bool true) ∧ Below w.heap.size w w' := by
  have hs2 : s.size ≤ 9223372036854775807 := by unfold maxLen at hs; omega
  have HU : Hid (scan 9 127 s.data.toList 0 = (eu, k)) := hu
  have HEU : Hid (eu ≠ 0) := heu
  have heu' : (eu == 0) = false := by simp [heu]
  clear hu heu
  have ⟨k1'', ki, _, kw⟩ := scan_k 10 1 (by decide) _ _ _ (by decide) hi
  have hks2 : k2 ≤ s.size := by simpa using ki
  have hsk2 : s.size - (s.size - k2) = k2 := by omega
  have hwu : val (s.data.toList.take k2) < 18446744073709551616 := by simpa using kw
  have heq2 := one_str s 10 1 k2 (by decide) (by decide) hi
  obtain ⟨z, hz⟩ : ∃ z, z = zag (val (s.data.toList.take k2)) := ⟨_, rfl⟩
  obtain ⟨t2, ht2⟩ : ∃ t2, t2 = st (uEnc (val (s.data.toList.take k2))) := ⟨_, rfl⟩
  rw [← ht2] at heq2
  have HW : Hid (z = zag (val (s.data.toList.take k2))) := hz
  have HI : Hid (scan 10 1 s.data.toList 0 = (0, k2)) := hi
  have HCI : Hid (∀ w, Calls Try.prog 27 #[.int .i64 z] w fun e w' => e = .returned (.string t2) ∧ Below w.heap.size w w') := fun w => by
    have h := refInt z (by rw [hz]; exact zag_range _ hwu) w
    rw [hz, zig_zag, ← ht2, ← hz] at h
    exact h
  have hlist2 : t2.toList = (s.extract 0 k2).toList := by simpa using heq2
  clear hz ht2 hi ki kw k1'' heq2 hwu
  go_enter Try.func6, Try.ntmps6
  go_wp2_with (first | (go_at_call 14; have hq := r1; clear hq; refine (of_any _ _).mono ?_; rintro e w2 ⟨rfl, hw2⟩; have b2 := hw2 ▸ below_alloc w1 _; have q2 := hw2 ▸ RIs.new s w1; have r2 := r1.below b2; clear hw2; have z2 := q2.lt) | (go_at_call 14; refine (of_any _ _).mono ?_; rintro e w1 ⟨rfl, hw1⟩; have b1 := hw1 ▸ below_alloc w _; have r1 := hw1 ▸ RIs.new s w; clear hw1; have z1 := r1.lt) | (go_at_call 15; refine (uint_bad _ s eu k hs HU.out HEU.out _ r2).mono ?_; rintro e w3 ⟨rfl, r3, k3⟩; have q3 := q2.kept k3 z2 (by omega); have z3 := k3.size) | (go_at_call 17; refine (int_ok _ s k2 hs HI.out _ q3).mono ?_; rintro e w5 ⟨rfl, q5, k5⟩; have r5 := r3.kept k5 r3.lt (by omega); have z5 := k5.size; rw [← HW.out]) | (go_at_call 27; refine (HCI.out _).mono ?_; rintro e w6 ⟨rfl, b6⟩; have r6 := r5.below b6; have q6 := q5.below b6; have z6 := b6.size) | (go_at_call 23; refine (left_r _ _ _ _ (by first | exact r6 | exact q6 | exact r5 | exact q5 | exact r4 | exact q4 | exact r3 | exact q3)).mono ?_; rintro e wq ⟨rfl, hwq⟩; have hwq := hwq.symm; subst hwq; first | rw [ext_size] | skip) | (go_at_call 13; refine (speaks_any _).mono ?_; rintro e w9 ⟨rfl, b9⟩))
  go_ret
  exact ⟨rfl, ((((b1.trans (b2.mono b1.size)).trans (k3.below (by omega) (by omega))).trans (k5.below (by omega) (by omega))).trans (b6.mono (by omega))).trans (b9.mono (by omega))⟩
set_option maxRecDepth 100000 in
set_option maxHeartbeats 4000000 in
theorem one_nn (s : ByteArray) (k k2 : Nat) (hs : s.size ≤ maxLen) (eu : Int) (hu : scan 9 127 s.data.toList 0 = (eu, k)) (heu : eu ≠ 0) (ei : Int) (hi : scan 10 1 s.data.toList 0 = (ei, k2)) (hei : ei ≠ 0) (w : World) :
    Calls Try.prog 6 #[.string s] w fun e w' => e = .returned (.bool true) ∧ Below w.heap.size w w' := by
  have hs2 : s.size ≤ 9223372036854775807 := by unfold maxLen at hs; omega
  have HU : Hid (scan 9 127 s.data.toList 0 = (eu, k)) := hu
  have HEU : Hid (eu ≠ 0) := heu
  have heu' : (eu == 0) = false := by simp [heu]
  clear hu heu
  have HI : Hid (scan 10 1 s.data.toList 0 = (ei, k2)) := hi
  have HEI : Hid (ei ≠ 0) := hei
  have hei' : (ei == 0) = false := by simp [hei]
  clear hi hei
  go_enter Try.func6, Try.ntmps6
  go_wp2_with (first | (go_at_call 14; have hq := r1; clear hq; refine (of_any _ _).mono ?_; rintro e w2 ⟨rfl, hw2⟩; have b2 := hw2 ▸ below_alloc w1 _; have q2 := hw2 ▸ RIs.new s w1; have r2 := r1.below b2; clear hw2; have z2 := q2.lt) | (go_at_call 14; refine (of_any _ _).mono ?_; rintro e w1 ⟨rfl, hw1⟩; have b1 := hw1 ▸ below_alloc w _; have r1 := hw1 ▸ RIs.new s w; clear hw1; have z1 := r1.lt) | (go_at_call 15; refine (uint_bad _ s eu k hs HU.out HEU.out _ r2).mono ?_; rintro e w3 ⟨rfl, r3, k3⟩; have q3 := q2.kept k3 z2 (by omega); have z3 := k3.size) | (go_at_call 17; refine (int_bad _ s ei k2 hs HI.out HEI.out _ q3).mono ?_; rintro e w5 ⟨rfl, q5, k5⟩; have r5 := r3.kept k5 r3.lt (by omega); have z5 := k5.size) | (go_at_call 23; refine (left_r _ _ _ _ (by first | exact r6 | exact q6 | exact r5 | exact q5 | exact r4 | exact q4 | exact r3 | exact q3)).mono ?_; rintro e wq ⟨rfl, hwq⟩; have hwq := hwq.symm; subst hwq; first | rw [ext_size] | skip) | (go_at_call 13; refine (speaks_any _).mono ?_; rintro e w9 ⟨rfl, b9⟩))
  go_ret
  exact ⟨rfl, (((b1.trans (b2.mono b1.size)).trans (k3.below (by omega) (by omega))).trans (k5.below (by omega) (by omega))).trans (b9.mono (by omega))⟩
theorem one_walk (s : ByteArray) (hs : s.size ≤ maxLen) (w : World) :
    Calls Try.prog 6 #[.string s] w fun e w' => e = .returned (.bool true) ∧ Below w.heap.size w w' := by
  obtain ⟨eu, k, hu⟩ : ∃ eu k, scan 9 127 s.data.toList 0 = (eu, k) := ⟨_, _, rfl⟩
  obtain ⟨ei, k2, hi⟩ : ∃ ei k2, scan 10 1 s.data.toList 0 = (ei, k2) := ⟨_, _, rfl⟩
  by_cases h1 : eu = 0
  · subst h1
    by_cases h2 : ei = 0
    · subst h2; exact one_yy s k k2 hs hu hi w
    · exact one_yn s k k2 hs hu ei hi h2 w
  · by_cases h2 : ei = 0
    · subst h2; exact one_ny s k k2 hs eu hu h1 hi w
    · exact one_nn s k k2 hs eu hu h1 ei hi h2 w
end Go.Proofs.Ytonejnbflkkapab
