import Derived.Test.YtmemelamgldpcaaWc
namespace Go.Proofs.Ytmemelamgldpcaa.Cd
open Go.RowKit

set_option maxRecDepth 100000 in
theorem rd_e (b : ByteArray) (hb : b.size ≤ 150000000000000) (h : (unV b).2 ≠ 0) (w : World) : Calls Try.prog 22 #[.string b] w fun e w' => e = .returned (.tuple #[.int .i64 0, .int .i64 0, .int .i64 4]) ∧ Below w.heap.size w w' := by
  have HU := hid (fun w => refUnblock b hb w)
  obtain ⟨t, ht⟩ : ∃ t, t = (unV b).1 := ⟨_, rfl⟩
  obtain ⟨e, he⟩ : ∃ e, e = (unV b).2 := ⟨_, rfl⟩
  rw [← ht, ← he] at HU
  rw [← he] at h
  have he' : (e != 0) = true := by simp [h]
  clear ht he h
  go_enter Try.func22, Try.ntmps22
  go_wp2_with (first
    | (go_at_call 44; refine (HU.out _).mono ?_; rintro e w1 ⟨rfl, hb1⟩))
  refine bodyPost_ret (v := .tuple #[.int .i64 0, .int .i64 0, .int .i64 4]) (by simp [results, Try.results22, go_sem]) rfl ⟨rfl, hb1⟩
set_option maxRecDepth 100000 in
theorem rd_len (b t : ByteArray) (hb : b.size ≤ 150000000000000) (h : unV b = (t, 0)) (ht : t.size ≠ 17) (w : World) : Calls Try.prog 22 #[.string b] w fun e w' => e = .returned (.tuple #[.int .i64 0, .int .i64 0, .int .i64 4]) ∧ Below w.heap.size w w' := by
  have HU := hid (fun w => refUnblock b hb w)
  have hts : t.size ≤ 150000000000000 := by have := unV_size b; rw [h] at this; exact Nat.le_trans this hb
  rw [h] at HU
  simp only at HU
  have ht' : ((t.size : Int) != 17) = true := by simp; omega
  clear h ht
  go_enter Try.func22, Try.ntmps22
  go_wp2_with (first
    | (go_at_call 44; refine (HU.out _).mono ?_; rintro e w1 ⟨rfl, hb1⟩))
  refine bodyPost_ret (v := .tuple #[.int .i64 0, .int .i64 0, .int .i64 4]) (by simp [results, Try.results22, go_sem]) rfl ⟨rfl, hb1⟩
set_option maxRecDepth 100000 in
set_option maxHeartbeats 2000000 in
theorem rd_end (b t n n1 n2 A : ByteArray) (e1 e2 f : Int) (x1 x2 : Nat) (hb : b.size ≤ 150000000000000) (h : unV b = (t, 0)) (ht : t.size = 17) (hN : n = t.extract 1 17)
    (h1 : n1 = qS n 0) (g1 : e1 = qE n 0) (f1 : x1 = qN n 0) (h2 : n2 = qS n1 e1) (g2 : e2 = qE n1 e1) (f2 : x2 = qN n1 e1) (HEn : Hid (∀ W, Calls Try.prog 20 #[.int .i64 x1, .int .i64 x2] W fun e w' => e = .returned (.tuple #[.string A, .int .i64 f]) ∧ Below W.heap.size W w')) (hz : e2 ≠ 0)
    (w : World) : Calls Try.prog 22 #[.string b] w fun e w' => e = .returned (.tuple #[.int .i64 0, .int .i64 0, .int .i64 4]) ∧ Below w.heap.size w w' := by
  have HU := hid (fun w => refUnblock b hb w)
  rw [h] at HU
  simp only at HU
  have sn : n.size = 16 := by rw [hN, ByteArray.size_extract]; omega
  have he1 : e1 = 0 ∨ e1 = 4 := by rw [g1]; unfold qE; split; exact .inr rfl; split; exact .inl rfl; exact .inr rfl
  have s1 : 8 ≤ n1.size ∨ e1 ≠ 0 := by
    by_cases hh : fval (n.data.toList.take 8) < 9223372036854775808
    · refine .inl ?_
      rw [h1]; unfold qS
      rw [if_neg (by decide), if_pos hh, ext_size]; omega
    · refine .inr ?_
      rw [g1]; unfold qE
      rw [if_neg (by decide), if_neg hh]; decide
  have s2 : n1.size ≤ maxLen := by
    have : n1.size ≤ n.size := by
      rw [h1]; unfold qS
      split
      · exact Nat.le_refl _
      · split
        · rw [ext_size]; omega
        · exact Nat.le_refl _
    unfold maxLen; omega
  have HF1 := hid (fun g w hr => q_any g n 0 (.inl rfl) (.inl (by omega)) (by unfold maxLen; omega) w hr)
  have HF2 := hid (fun g w hr => q_any g n1 e1 he1 s1 s2 w hr)
  rw [← h1, ← g1, ← f1] at HF1
  rw [← h2, ← g2, ← f2] at HF2
  have hN' := hN.symm
  have hz' : (e2 != 0) = true := by simp [hz]
  clear hz
  clear h1 h2 g1 g2 f1 f2 hN h s1 s2 he1 sn
  go_enter Try.func22, Try.ntmps22
  go_wp2_with (first
    | (go_at_call 44; refine (HU.out _).mono ?_; rintro e w1 ⟨rfl, hb1⟩; have HB := hid hb1; have HR0 := hid (QIs.new n w1); have HB0 := hid (nxt hb1 (below_alloc w1 (.cells #[.string n, .int .i64 0] 81))); have hs1 := hb1.size; clear hb1)
    | (go_at_call 45; have hk := HR1; clear hk; refine (HF2.out _ _ HR1.out).mono ?_; rintro e w5 ⟨⟨y2, rfl⟩, hk5, hr5⟩; have HR2 := hid hr5; have HB2 := hid (bel_kept HB1.out hk5 (by omega)); clear hr5 hk5)
    | (go_at_call 45; refine (HF1.out _ _ HR0.out).mono ?_; rintro e w4 ⟨⟨y1, rfl⟩, hk4, hr4⟩; have HR1 := hid hr4; have HB1 := hid (bel_kept HB0.out hk4 (by omega)); clear hr4 hk4)
    | (go_at_call 20; refine (HEn.out _).mono ?_; rintro e w6 ⟨rfl, hb6⟩; have q1 := (HR2.out.below hb6).c1; have HB6 := hid (nxt HB2.out hb6); clear hb6))
  refine bodyPost_ret (v := .tuple #[.int .i64 0, .int .i64 0, .int .i64 4]) (by simp [results, Try.results22, go_sem]) rfl ⟨rfl, HB6.out⟩
set_option maxRecDepth 100000 in
set_option maxHeartbeats 2000000 in
theorem rd_f (b t n n1 n2 A : ByteArray) (e1 e2 f : Int) (x1 x2 : Nat) (hb : b.size ≤ 150000000000000) (h : unV b = (t, 0)) (ht : t.size = 17) (hN : n = t.extract 1 17)
    (h1 : n1 = qS n 0) (g1 : e1 = qE n 0) (f1 : x1 = qN n 0) (h2 : n2 = qS n1 e1) (g2 : e2 = qE n1 e1) (f2 : x2 = qN n1 e1) (HEn : Hid (∀ W, Calls Try.prog 20 #[.int .i64 x1, .int .i64 x2] W fun e w' => e = .returned (.tuple #[.string A, .int .i64 f]) ∧ Below W.heap.size W w')) (hz : e2 = 0) (hf : f = 1)
    (w : World) : Calls Try.prog 22 #[.string b] w fun e w' => e = .returned (.tuple #[.int .i64 0, .int .i64 0, .int .i64 4]) ∧ Below w.heap.size w w' := by
  have HU := hid (fun w => refUnblock b hb w)
  rw [h] at HU
  simp only at HU
  have sn : n.size = 16 := by rw [hN, ByteArray.size_extract]; omega
  have he1 : e1 = 0 ∨ e1 = 4 := by rw [g1]; unfold qE; split; exact .inr rfl; split; exact .inl rfl; exact .inr rfl
  have s1 : 8 ≤ n1.size ∨ e1 ≠ 0 := by
    by_cases hh : fval (n.data.toList.take 8) < 9223372036854775808
    · refine .inl ?_
      rw [h1]; unfold qS
      rw [if_neg (by decide), if_pos hh, ext_size]; omega
    · refine .inr ?_
      rw [g1]; unfold qE
      rw [if_neg (by decide), if_neg hh]; decide
  have s2 : n1.size ≤ maxLen := by
    have : n1.size ≤ n.size := by
      rw [h1]; unfold qS
      split
      · exact Nat.le_refl _
      · split
        · rw [ext_size]; omega
        · exact Nat.le_refl _
    unfold maxLen; omega
  have HF1 := hid (fun g w hr => q_any g n 0 (.inl rfl) (.inl (by omega)) (by unfold maxLen; omega) w hr)
  have HF2 := hid (fun g w hr => q_any g n1 e1 he1 s1 s2 w hr)
  rw [← h1, ← g1, ← f1] at HF1
  rw [← h2, ← g2, ← f2] at HF2
  have hN' := hN.symm
  subst hz hf
  clear h1 h2 g1 g2 f1 f2 hN h s1 s2 he1 sn
  go_enter Try.func22, Try.ntmps22
  go_wp2_with (first
    | (go_at_call 44; refine (HU.out _).mono ?_; rintro e w1 ⟨rfl, hb1⟩; have HB := hid hb1; have HR0 := hid (QIs.new n w1); have HB0 := hid (nxt hb1 (below_alloc w1 (.cells #[.string n, .int .i64 0] 81))); have hs1 := hb1.size; clear hb1)
    | (go_at_call 45; have hk := HR1; clear hk; refine (HF2.out _ _ HR1.out).mono ?_; rintro e w5 ⟨⟨y2, rfl⟩, hk5, hr5⟩; have HR2 := hid hr5; have HB2 := hid (bel_kept HB1.out hk5 (by omega)); clear hr5 hk5)
    | (go_at_call 45; refine (HF1.out _ _ HR0.out).mono ?_; rintro e w4 ⟨⟨y1, rfl⟩, hk4, hr4⟩; have HR1 := hid hr4; have HB1 := hid (bel_kept HB0.out hk4 (by omega)); clear hr4 hk4)
    | (go_at_call 20; refine (HEn.out _).mono ?_; rintro e w6 ⟨rfl, hb6⟩; have q1 := (HR2.out.below hb6).c1; have HB6 := hid (nxt HB2.out hb6); clear hb6))
  refine bodyPost_ret (v := .tuple #[.int .i64 0, .int .i64 0, .int .i64 4]) (by simp [results, Try.results22, go_sem]) rfl ⟨rfl, HB6.out⟩
set_option maxRecDepth 100000 in
set_option maxHeartbeats 2000000 in
theorem rd_ne (b t n n1 n2 A : ByteArray) (e1 e2 f : Int) (x1 x2 : Nat) (hb : b.size ≤ 150000000000000) (h : unV b = (t, 0)) (ht : t.size = 17) (hN : n = t.extract 1 17)
    (h1 : n1 = qS n 0) (g1 : e1 = qE n 0) (f1 : x1 = qN n 0) (h2 : n2 = qS n1 e1) (g2 : e2 = qE n1 e1) (f2 : x2 = qN n1 e1) (HEn : Hid (∀ W, Calls Try.prog 20 #[.int .i64 x1, .int .i64 x2] W fun e w' => e = .returned (.tuple #[.string A, .int .i64 f]) ∧ Below W.heap.size W w')) (hz : e2 = 0) (hf : f = 0) (hne : ¬ A = b)
    (w : World) : Calls Try.prog 22 #[.string b] w fun e w' => e = .returned (.tuple #[.int .i64 0, .int .i64 0, .int .i64 4]) ∧ Below w.heap.size w w' := by
  have HU := hid (fun w => refUnblock b hb w)
  rw [h] at HU
  simp only at HU
  have sn : n.size = 16 := by rw [hN, ByteArray.size_extract]; omega
  have he1 : e1 = 0 ∨ e1 = 4 := by rw [g1]; unfold qE; split; exact .inr rfl; split; exact .inl rfl; exact .inr rfl
  have s1 : 8 ≤ n1.size ∨ e1 ≠ 0 := by
    by_cases hh : fval (n.data.toList.take 8) < 9223372036854775808
    · refine .inl ?_
      rw [h1]; unfold qS
      rw [if_neg (by decide), if_pos hh, ext_size]; omega
    · refine .inr ?_
      rw [g1]; unfold qE
      rw [if_neg (by decide), if_neg hh]; decide
  have s2 : n1.size ≤ maxLen := by
    have : n1.size ≤ n.size := by
      rw [h1]; unfold qS
      split
      · exact Nat.le_refl _
      · split
        · rw [ext_size]; omega
        · exact Nat.le_refl _
    unfold maxLen; omega
  have HF1 := hid (fun g w hr => q_any g n 0 (.inl rfl) (.inl (by omega)) (by unfold maxLen; omega) w hr)
  have HF2 := hid (fun g w hr => q_any g n1 e1 he1 s1 s2 w hr)
  rw [← h1, ← g1, ← f1] at HF1
  rw [← h2, ← g2, ← f2] at HF2
  have hN' := hN.symm
  subst hz hf
  have hne' := str_ne hne
  clear hne
  clear h1 h2 g1 g2 f1 f2 hN h s1 s2 he1 sn
  go_enter Try.func22, Try.ntmps22
  go_wp2_with (first
    | (go_at_call 44; refine (HU.out _).mono ?_; rintro e w1 ⟨rfl, hb1⟩; have HB := hid hb1; have HR0 := hid (QIs.new n w1); have HB0 := hid (nxt hb1 (below_alloc w1 (.cells #[.string n, .int .i64 0] 81))); have hs1 := hb1.size; clear hb1)
    | (go_at_call 45; have hk := HR1; clear hk; refine (HF2.out _ _ HR1.out).mono ?_; rintro e w5 ⟨⟨y2, rfl⟩, hk5, hr5⟩; have HR2 := hid hr5; have HB2 := hid (bel_kept HB1.out hk5 (by omega)); clear hr5 hk5)
    | (go_at_call 45; refine (HF1.out _ _ HR0.out).mono ?_; rintro e w4 ⟨⟨y1, rfl⟩, hk4, hr4⟩; have HR1 := hid hr4; have HB1 := hid (bel_kept HB0.out hk4 (by omega)); clear hr4 hk4)
    | (go_at_call 20; refine (HEn.out _).mono ?_; rintro e w6 ⟨rfl, hb6⟩; have q1 := (HR2.out.below hb6).c1; have HB6 := hid (nxt HB2.out hb6); clear hb6))
  refine bodyPost_ret (v := .tuple #[.int .i64 0, .int .i64 0, .int .i64 4]) (by simp [results, Try.results22, go_sem]) rfl ⟨rfl, HB6.out⟩
set_option maxRecDepth 100000 in
set_option maxHeartbeats 2000000 in
theorem rd_ok (b t n n1 n2 A : ByteArray) (e1 e2 f : Int) (x1 x2 : Nat) (hb : b.size ≤ 150000000000000) (h : unV b = (t, 0)) (ht : t.size = 17) (hN : n = t.extract 1 17)
    (h1 : n1 = qS n 0) (g1 : e1 = qE n 0) (f1 : x1 = qN n 0) (h2 : n2 = qS n1 e1) (g2 : e2 = qE n1 e1) (f2 : x2 = qN n1 e1) (HEn : Hid (∀ W, Calls Try.prog 20 #[.int .i64 x1, .int .i64 x2] W fun e w' => e = .returned (.tuple #[.string A, .int .i64 f]) ∧ Below W.heap.size W w')) (hz : e2 = 0) (hf : f = 0) (hne : A = b)
    (w : World) : Calls Try.prog 22 #[.string b] w fun e w' => e = .returned (.tuple #[.int .i64 x1, .int .i64 x2, .int .i64 0]) ∧ Below w.heap.size w w' := by
  have HU := hid (fun w => refUnblock b hb w)
  rw [h] at HU
  simp only at HU
  have sn : n.size = 16 := by rw [hN, ByteArray.size_extract]; omega
  have he1 : e1 = 0 ∨ e1 = 4 := by rw [g1]; unfold qE; split; exact .inr rfl; split; exact .inl rfl; exact .inr rfl
  have s1 : 8 ≤ n1.size ∨ e1 ≠ 0 := by
    by_cases hh : fval (n.data.toList.take 8) < 9223372036854775808
    · refine .inl ?_
      rw [h1]; unfold qS
      rw [if_neg (by decide), if_pos hh, ext_size]; omega
    · refine .inr ?_
      rw [g1]; unfold qE
      rw [if_neg (by decide), if_neg hh]; decide
  have s2 : n1.size ≤ maxLen := by
    have : n1.size ≤ n.size := by
      rw [h1]; unfold qS
      split
      · exact Nat.le_refl _
      · split
        · rw [ext_size]; omega
        · exact Nat.le_refl _
    unfold maxLen; omega
  have HF1 := hid (fun g w hr => q_any g n 0 (.inl rfl) (.inl (by omega)) (by unfold maxLen; omega) w hr)
  have HF2 := hid (fun g w hr => q_any g n1 e1 he1 s1 s2 w hr)
  rw [← h1, ← g1, ← f1] at HF1
  rw [← h2, ← g2, ← f2] at HF2
  have hN' := hN.symm
  subst hz hf hne
  clear h1 h2 g1 g2 f1 f2 hN h s1 s2 he1 sn
  go_enter Try.func22, Try.ntmps22
  go_wp2_with (first
    | (go_at_call 44; refine (HU.out _).mono ?_; rintro e w1 ⟨rfl, hb1⟩; have HB := hid hb1; have HR0 := hid (QIs.new n w1); have HB0 := hid (nxt hb1 (below_alloc w1 (.cells #[.string n, .int .i64 0] 81))); have hs1 := hb1.size; clear hb1)
    | (go_at_call 45; have hk := HR1; clear hk; refine (HF2.out _ _ HR1.out).mono ?_; rintro e w5 ⟨⟨y2, rfl⟩, hk5, hr5⟩; have HR2 := hid hr5; have HB2 := hid (bel_kept HB1.out hk5 (by omega)); clear hr5 hk5)
    | (go_at_call 45; refine (HF1.out _ _ HR0.out).mono ?_; rintro e w4 ⟨⟨y1, rfl⟩, hk4, hr4⟩; have HR1 := hid hr4; have HB1 := hid (bel_kept HB0.out hk4 (by omega)); clear hr4 hk4)
    | (go_at_call 20; refine (HEn.out _).mono ?_; rintro e w6 ⟨rfl, hb6⟩; have q1 := (HR2.out.below hb6).c1; have HB6 := hid (nxt HB2.out hb6); clear hb6))
  refine bodyPost_ret (v := .tuple #[.int .i64 x1, .int .i64 x2, .int .i64 0]) (by simp [results, Try.results22, go_sem]) rfl ⟨rfl, HB6.out⟩
theorem fval_fEnc (x : Nat) (hx : x < 256 ^ 8) (r : List UInt8) : fval ((fEnc x 8 ++ r).take 8) = x := by
  rw [List.take_append_of_le_length (by rw [fEnc_len]; exact Nat.le_refl _), List.take_of_length_le (by rw [fEnc_len]; exact Nat.le_refl _), fval_big, big_fEnc 8 x hx]
theorem renc_ok {x y : Nat} (h : rgt x y = true) : Hid (∀ W, Calls Try.prog 20 #[.int .i64 x, .int .i64 y] W fun e w' => e = .returned (.tuple #[.string (vB x y), .int .i64 0]) ∧ Below W.heap.size W w') := hid fun W => rencode_ok h W
theorem renc_no {x y : Nat} (h : rgt x y = false) : Hid (∀ W, Calls Try.prog 20 #[.int .i64 x, .int .i64 y] W fun e w' => e = .returned (.tuple #[.string ByteArray.empty, .int .i64 1]) ∧ Below W.heap.size W w') := hid fun W => rencode_no h W
theorem rdecode_ok (b : ByteArray) (x y : Nat) (hb : b.size ≤ 150000000000000) (h : okV b x y) (w : World) : Calls Try.prog 22 #[.string b] w fun e w' => e = .returned (.tuple #[.int .i64 x, .int .i64 y, .int .i64 0]) ∧ Below w.heap.size w w' := by
  obtain ⟨h1, h2⟩ := h
  have hx := (rgt_iff x y).1 h2
  have hbk := (un_back b (by rw [h1])).1
  rw [h1] at hbk
  simp only [st_list] at hbk
  obtain ⟨t, ht⟩ : ∃ t, t = st (vL x y) := ⟨_, rfl⟩
  have htl : t.data.toList = 86 :: (fEnc x 8 ++ fEnc y 8) := by rw [ht, st_list, vL]
  have hts : t.size = 17 := by rw [ht, st_size, vL_len]
  rw [← ht] at h1
  have hn : (t.extract 1 17).data.toList = fEnc x 8 ++ fEnc y 8 := by
    rw [ext_list, htl, List.take_of_length_le (by rw [List.length_cons, List.length_append, fEnc_len, fEnc_len]; decide)]
    rfl
  obtain ⟨n, hN⟩ : ∃ n, n = t.extract 1 17 := ⟨_, rfl⟩
  rw [← hN] at hn
  have v1 : fval (n.data.toList.take 8) = x := by rw [hn]; exact fval_fEnc x (by omega) _
  have a1 : qE n 0 = 0 := by unfold qE; rw [if_neg (by decide), if_pos (by rw [v1]; omega)]
  have a2 : qN n 0 = x := by unfold qN; rw [if_neg (by decide), if_pos (by rw [v1]; omega), v1]
  have a3 : qS n 0 = n.extract 8 n.size := by unfold qS; rw [if_neg (by decide), if_pos (by rw [v1]; omega)]
  have hn1 : (n.extract 8 n.size).data.toList = fEnc y 8 := by
    have hl := len_list n
    rw [ext_list, List.take_of_length_le (by omega), hn, List.drop_append_of_le_length (by rw [fEnc_len]; exact Nat.le_refl _), List.drop_of_length_le (by rw [fEnc_len]; exact Nat.le_refl _), List.nil_append]
  have v2 : fval ((n.extract 8 n.size).data.toList.take 8) = y := by
    have := fval_fEnc y (by omega) []
    rw [List.append_nil] at this
    rw [hn1]; exact this
  have b1 : qE (n.extract 8 n.size) 0 = 0 := by unfold qE; rw [if_neg (by decide), if_pos (by rw [v2]; omega)]
  have b2 : qN (n.extract 8 n.size) 0 = y := by unfold qN; rw [if_neg (by decide), if_pos (by rw [v2]; omega), v2]
  have k := rd_ok b t n (n.extract 8 n.size) _ (vB x y) 0 0 0 x y hb h1 hts hN a3.symm a1.symm a2.symm rfl b1.symm b2.symm (renc_ok h2) rfl rfl hbk w
  exact k
theorem rdecode_bad (b : ByteArray) (hb : b.size ≤ 150000000000000) (h : ¬ ∃ x y, okV b x y) (w : World) : Calls Try.prog 22 #[.string b] w fun e w' => e = .returned (.tuple #[.int .i64 0, .int .i64 0, .int .i64 4]) ∧ Below w.heap.size w w' := by
  by_cases h1 : (unV b).2 ≠ 0
  · exact rd_e b hb h1 w
  · have h1 : (unV b).2 = 0 := by omega
    obtain ⟨t, ht⟩ : ∃ t, unV b = (t, 0) := ⟨(unV b).1, by rw [← h1]⟩
    by_cases h2 : t.size = 17
    · obtain ⟨x1, hx1⟩ : ∃ x, x = qN (t.extract 1 17) 0 := ⟨_, rfl⟩
      obtain ⟨x2, hx2⟩ : ∃ x, x = qN (qS (t.extract 1 17) 0) (qE (t.extract 1 17) 0) := ⟨_, rfl⟩
      by_cases h3 : qE (qS (t.extract 1 17) 0) (qE (t.extract 1 17) 0) = 0
      · cases ho : rgt x1 x2 with
        | false => exact rd_f b t _ _ _ _ _ _ _ x1 x2 hb ht h2 rfl rfl rfl hx1 rfl rfl hx2 (renc_no ho) h3 rfl w
        | true =>
          refine rd_ne b t _ _ _ _ _ _ _ x1 x2 hb ht h2 rfl rfl rfl hx1 rfl rfl hx2 (renc_ok ho) h3 rfl (fun e => h ⟨x1, x2, ?_, ho⟩) w
          rw [← e]
          exact un_block (vL x1 x2) (by rw [vL_len]; decide)
      · cases ho : rgt x1 x2 with
        | false => exact rd_end b t _ _ _ _ _ _ _ x1 x2 hb ht h2 rfl rfl rfl hx1 rfl rfl hx2 (renc_no ho) h3 w
        | true => exact rd_end b t _ _ _ _ _ _ _ x1 x2 hb ht h2 rfl rfl rfl hx1 rfl rfl hx2 (renc_ok ho) h3 w
    · exact rd_len b t hb ht h2 w
end Go.Proofs.Ytmemelamgldpcaa.Cd
