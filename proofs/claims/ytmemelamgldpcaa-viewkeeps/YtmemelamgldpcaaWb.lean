import Derived.Test.YtmemelamgldpcaaWa
namespace Go.Proofs.Ytmemelamgldpcaa.Cd
open Go.RowKit

set_option maxRecDepth 100000 in
set_option maxHeartbeats 1000000 in
theorem rencode_no {x y : Int} (h : rgt x y = false) (w : World) : Calls Try.prog 20 #[.int .i64 x, .int .i64 y] w fun e w' => e = .returned (.tuple #[.string ByteArray.empty, .int .i64 1]) ∧ Below w.heap.size w w' := by
  have hc : x < 0 ∨ (¬ x < 0 ∧ 1099511627776 < x) ∨ (¬ x < 0 ∧ ¬ 1099511627776 < x ∧ y < 0) ∨ (¬ x < 0 ∧ ¬ 1099511627776 < x ∧ ¬ y < 0 ∧ x < y) := by
    have h' : ¬ rgt x y = true := by simp [h]
    rw [rgt_iff] at h'
    omega
  rcases hc with h1 | ⟨h1, h2⟩ | ⟨h1, h2, h3⟩ | ⟨h1, h2, h3, h4⟩
  all_goals
    clear h
    go_enter Try.func20, Try.ntmps20
    go_wp2
    go_ret2
    exact ⟨rfl, Below.refl _ _⟩
set_option maxRecDepth 100000 in
set_option maxHeartbeats 1000000 in
theorem rencode_ok {x y : Nat} (h : rgt x y = true) (w : World) : Calls Try.prog 20 #[.int .i64 x, .int .i64 y] w fun e w' => e = .returned (.tuple #[.string (vB x y), .int .i64 0]) ∧ Below w.heap.size w w' := by
  have hx := (rgt_iff x y).1 h
  have g1 : decide ((x : Int) < 0) = false := decide_eq_false (by omega)
  have g2 : decide (1099511627776 < (x : Int)) = false := decide_eq_false (by omega)
  have g3 : decide ((y : Int) < 0) = false := decide_eq_false (by omega)
  have g4 : decide ((x : Int) < (y : Int)) = false := decide_eq_false (by omega)
  have g5 : decide (x < y) = false := decide_eq_false (by omega)
  have HF1 := hid (fun W => refFixed x 8 (by omega) (Nat.le_refl _) W)
  have HF2 := hid (fun W => refFixed y 8 (by omega) (Nat.le_refl _) W)
  have HK := hid (fun W => refBlock (st (vL x y)) (by rw [st_size, vL_len]; decide) W)
  rw [st_list] at HK
  change Hid (∀ W, Calls Try.prog 37 #[.string (st (vL x y))] W fun e w' => e = .returned (.tuple #[.string (vB x y), .int .i64 0]) ∧ Below W.heap.size W w') at HK
  have hA : (⟨#[86]⟩ : ByteArray) ++ st (fEnc x 8) ++ st (fEnc y 8) = st (vL x y) := vS2 x y
  obtain ⟨S, hS⟩ : ∃ S, S = st (vL x y) := ⟨_, rfl⟩
  obtain ⟨B, hB⟩ : ∃ B, B = vB x y := ⟨_, rfl⟩
  obtain ⟨P, hP⟩ : ∃ P, P = st (fEnc x 8) := ⟨_, rfl⟩
  obtain ⟨R, hR⟩ : ∃ P, P = st (fEnc y 8) := ⟨_, rfl⟩
  have p1 : P.size ≤ 8 := by rw [hP, st_size, fEnc_len]; exact Nat.le_refl _
  have p2 : R.size ≤ 8 := by rw [hR, st_size, fEnc_len]; exact Nat.le_refl _
  obtain ⟨Q, hQ⟩ : ∃ Q, Q = (⟨#[86]⟩ : ByteArray) ++ P := ⟨_, rfl⟩
  have p3 : Q.size ≤ 9 := by rw [hQ, ByteArray.size_append]; show 1 + _ ≤ _; omega
  have hQ' := hQ.symm
  rw [← hP, ← hR, ← hS, ← hQ] at hA
  rw [← hP] at HF1
  rw [← hR] at HF2
  rw [← hS, ← hB] at HK
  rw [← hB]
  clear hS hB hP hR h hx hQ
  go_enter Try.func20, Try.ntmps20
  go_wp2_with (go_at_call 38; fail)
  refine (HF1.out _).mono ?_
  rintro e w1 ⟨rfl, hb1⟩
  clear HF1
  go_wp2_with (first
    | (go_at_call 38; refine (HF2.out _).mono ?_; rintro e w2 ⟨rfl, hb2⟩)
    | (go_at_call 37; refine (HK.out _).mono ?_; rintro e w3 ⟨rfl, hb3⟩))
  go_ret2
  exact ⟨rfl, nxt (nxt hb1 hb2) hb3⟩
theorem unV_size (b : ByteArray) : (unV b).1.size ≤ b.size := by
  unfold unV
  split
  · exact Nat.zero_le _
  · split
    · exact Nat.zero_le _
    · split
      · exact Nat.zero_le _
      · split
        · exact Nat.zero_le _
        · show (b.extract _ _).size ≤ _
          rw [ByteArray.size_extract]
          omega
theorem cut_any (t : ByteArray) (hs : t.size ≤ maxLen) : ∃ n m, ∀ w, Calls Try.prog 40 #[.string t, .string tS] w fun e w' => e = .returned (.tuple #[.string n, .bool m]) ∧ w' = w := by
  by_cases h : isT t
  · exact ⟨_, _, cut_yes t hs h⟩
  · exact ⟨_, _, cut_no t hs h⟩
def zero2 : Value := .agg #[.int .i64 0, .int .i64 0]
set_option maxRecDepth 100000 in
set_option maxHeartbeats 1000000 in
theorem read_e (b : ByteArray) (hb : b.size ≤ 150000000000000) (h : (unV b).2 ≠ 0) (w : World) : Calls Try.prog 21 #[.string b] w fun e w' => e = .returned (.tuple #[zero2, .int .i64 4]) ∧ Below w.heap.size w w' := by
  have HU := hid (fun w => unblock_any b hb w)
  have hts : (unV b).1.size ≤ maxLen := by have := unV_size b; unfold maxLen; omega
  obtain ⟨t, ht⟩ : ∃ t, t = (unV b).1 := ⟨_, rfl⟩
  obtain ⟨e, he⟩ : ∃ e, e = (unV b).2 := ⟨_, rfl⟩
  rw [← ht] at hts
  rw [← ht, ← he] at HU
  rw [← he] at h
  have he' : (e != 0) = true := by simp [h]
  obtain ⟨n, m, hc⟩ := cut_any t hts
  have HC := hid hc
  clear ht he h hts hc
  unfold zero2
  go_enter Try.func21, Try.ntmps21
  go_wp2_with (first
    | (go_at_call 39; refine (HU.out _).mono ?_; rintro e w1 ⟨rfl, hb1⟩; have HV := hid (var_a hb1); have HB := hid (nxt (below_alloc _ _) hb1); clear hb1)
    | (go_at_call 40; refine (HC.out _).mono ?_; rintro e w2 ⟨rfl, hw⟩; have hw := hw.symm; subst hw; obtain ⟨q0, q1⟩ := two_cells HV.out; have hfr := frees HV.out))
  refine bodyPost_ret (v := .tuple #[.agg #[.int .i64 0, .int .i64 0], .int .i64 4]) (by simp [results, Try.results21, go_sem, q0, q1]) rfl ⟨rfl, set2 HB.out (Nat.le_refl _) _ _⟩
set_option maxRecDepth 100000 in
set_option maxHeartbeats 1000000 in
theorem read_no (b t : ByteArray) (hb : b.size ≤ 150000000000000) (h : unV b = (t, 0)) (hn : ¬ isT t) (w : World) : Calls Try.prog 21 #[.string b] w fun e w' => e = .returned (.tuple #[zero2, .int .i64 4]) ∧ Below w.heap.size w w' := by
  have HU := hid (fun w => unblock_any b hb w)
  have hts : (unV b).1.size ≤ maxLen := by have := unV_size b; unfold maxLen; omega
  rw [h] at HU hts
  have HC := hid (fun w => cut_no t hts hn w)
  simp only at HU
  clear h hts hn
  unfold zero2
  go_enter Try.func21, Try.ntmps21
  go_wp2_with (first
    | (go_at_call 39; refine (HU.out _).mono ?_; rintro e w1 ⟨rfl, hb1⟩; have HV := hid (var_a hb1); have HB := hid (nxt (below_alloc _ _) hb1); clear hb1)
    | (go_at_call 40; refine (HC.out _).mono ?_; rintro e w2 ⟨rfl, hw⟩; have hw := hw.symm; subst hw; obtain ⟨q0, q1⟩ := two_cells HV.out; have hfr := frees HV.out))
  refine bodyPost_ret (v := .tuple #[.agg #[.int .i64 0, .int .i64 0], .int .i64 4]) (by simp [results, Try.results21, go_sem, q0, q1]) rfl ⟨rfl, set2 HB.out (Nat.le_refl _) _ _⟩
set_option maxRecDepth 100000 in
set_option maxHeartbeats 2000000 in
theorem read_end (b t n n1 n2 : ByteArray) (e1 e2 z : Int) (x1 x2 : Nat) (hb : b.size ≤ 150000000000000) (h : unV b = (t, 0)) (hn : isT t) (hN : n = t.extract 1 t.size)
    (h1 : n1 = fxS 8 n 0) (g1 : e1 = fxE 8 n 0) (f1 : x1 = fxN 8 n 0) (h2 : n2 = fxS 8 n1 e1) (g2 : e2 = fxE 8 n1 e1) (f2 : x2 = fxN 8 n1 e1) (hz : z = endV n2 e2) (hz0 : z ≠ 0)
    (w : World) : Calls Try.prog 21 #[.string b] w fun e w' => e = .returned (.tuple #[zero2, .int .i64 4]) ∧ Below w.heap.size w w' := by
  have HU := hid (fun w => unblock_any b hb w)
  have hts : (unV b).1.size ≤ maxLen := by have := unV_size b; unfold maxLen; omega
  rw [h] at HU hts
  simp only at HU hts
  have HC := hid (fun w => cut_yes t hts hn w)
  rw [← hN] at HC
  have s0 : n.size ≤ maxLen := by rw [hN, ext_size]; omega
  have s1 : n1.size ≤ maxLen := by have := fxS_size 8 n 0; rw [← h1] at this; omega
  have HF1 := hid (fun g w hr => fix_r 8 rfl (Nat.le_refl _) g n 0 s0 w hr)
  have HF2 := hid (fun g w hr => fix_r 8 rfl (Nat.le_refl _) g n1 e1 s1 w hr)
  have HE := hid (fun g w hr => end_r g n2 e2 w hr)
  rw [← h1, ← g1, ← f1] at HF1
  rw [← h2, ← g2, ← f2] at HF2
  rw [← hz] at HE
  have hz' : (z != 0) = true := by simp [hz0]
  clear hz0
  clear h1 h2 g1 g2 f1 f2 hz s0 s1 hN hn h hts
  unfold zero2
  go_enter Try.func21, Try.ntmps21
  go_wp2_with (first
    | (go_at_call 39; refine (HU.out _).mono ?_; rintro e w1 ⟨rfl, hb1⟩; have HV := hid (var_a hb1); have HB := hid (nxt (below_alloc _ _) hb1); clear hb1)
    | (go_at_call 40; refine (HC.out _).mono ?_; rintro e w2 ⟨rfl, hw⟩; have hw := hw.symm; subst hw)
    | (go_at_call 41; refine (of_any _ _).mono ?_; rintro e w3 ⟨rfl, rfl⟩; have HR0 := hid (RIs.new n w1); have hlt := lt_of_block HV.out; have HV0 := hid ((Below.heap_alloc w1 (.cells #[.string n, .int .i64 0] 91) _ hlt).trans HV.out); have HB0 := hid (nxt HB.out (below_alloc w1 (.cells #[.string n, .int .i64 0] 91))))
    | (go_at_call 42; have hk := HR1; clear hk; refine (HF2.out _ _ HR1.out).mono ?_; rintro e w5 ⟨⟨y2, rfl⟩, hr5, hk5⟩; have HR2 := hid hr5; have HV2 := hid (keptV hk5 HV1.out (by omega)); have HB2 := hid (bel_kept HB1.out hk5 (by omega)); clear hr5 hk5)
    | (go_at_call 42; refine (HF1.out _ _ HR0.out).mono ?_; rintro e w4 ⟨⟨y1, rfl⟩, hr4, hk4⟩; have HR1 := hid hr4; have HV1 := hid (keptV hk4 HV0.out (by omega)); have HB1 := hid (bel_kept HB0.out hk4 (by omega)); clear hr4 hk4)
    | (go_at_call 43; refine (HE.out _ _ (HR2.out.below (below_alloc _ _))).mono ?_; rintro e w7 ⟨rfl, hw7⟩; have hw7 := hw7.symm; subst hw7; obtain ⟨q0, q1⟩ := two_cells HV2.out; have hfr := frees HV2.out; have hl6 := lt_of_block HV2.out))
  refine bodyPost_ret (v := .tuple #[.agg #[.int .i64 0, .int .i64 0], .int .i64 4]) (by simp [results, Try.results21, go_sem, q0, q1, hl6]) rfl ⟨rfl, ?_⟩
  exact (set2 HB2.out (Nat.le_refl _) _ _).alloc (by simpa using HB2.out.size) _
set_option maxRecDepth 100000 in
set_option maxHeartbeats 2000000 in
theorem read_chk (b t n n1 n2 : ByteArray) (e1 e2 z : Int) (x1 x2 : Nat) (hb : b.size ≤ 150000000000000) (h : unV b = (t, 0)) (hn : isT t) (hN : n = t.extract 1 t.size)
    (h1 : n1 = fxS 8 n 0) (g1 : e1 = fxE 8 n 0) (f1 : x1 = fxN 8 n 0) (h2 : n2 = fxS 8 n1 e1) (g2 : e2 = fxE 8 n1 e1) (f2 : x2 = fxN 8 n1 e1) (hz : z = endV n2 e2) (hz0 : z = 0) (ho : rgt x1 x2 = false)
    (w : World) : Calls Try.prog 21 #[.string b] w fun e w' => e = .returned (.tuple #[zero2, .int .i64 4]) ∧ Below w.heap.size w w' := by
  have HU := hid (fun w => unblock_any b hb w)
  have hts : (unV b).1.size ≤ maxLen := by have := unV_size b; unfold maxLen; omega
  rw [h] at HU hts
  simp only at HU hts
  have HC := hid (fun w => cut_yes t hts hn w)
  rw [← hN] at HC
  have s0 : n.size ≤ maxLen := by rw [hN, ext_size]; omega
  have s1 : n1.size ≤ maxLen := by have := fxS_size 8 n 0; rw [← h1] at this; omega
  have HF1 := hid (fun g w hr => fix_r 8 rfl (Nat.le_refl _) g n 0 s0 w hr)
  have HF2 := hid (fun g w hr => fix_r 8 rfl (Nat.le_refl _) g n1 e1 s1 w hr)
  have HE := hid (fun g w hr => end_r g n2 e2 w hr)
  rw [← h1, ← g1, ← f1] at HF1
  rw [← h2, ← g2, ← f2] at HF2
  rw [← hz] at HE
  subst hz0
  have HK := hid (fun w => right_any x1 x2 w)
  rw [ho] at HK
  clear ho
  clear h1 h2 g1 g2 f1 f2 hz s0 s1 hN hn h hts
  unfold zero2
  go_enter Try.func21, Try.ntmps21
  go_wp2_with (first
    | (go_at_call 39; refine (HU.out _).mono ?_; rintro e w1 ⟨rfl, hb1⟩; have HV := hid (var_a hb1); have HB := hid (nxt (below_alloc _ _) hb1); clear hb1)
    | (go_at_call 40; refine (HC.out _).mono ?_; rintro e w2 ⟨rfl, hw⟩; have hw := hw.symm; subst hw)
    | (go_at_call 41; refine (of_any _ _).mono ?_; rintro e w3 ⟨rfl, rfl⟩; have HR0 := hid (RIs.new n w1); have hlt := lt_of_block HV.out; have HV0 := hid ((Below.heap_alloc w1 (.cells #[.string n, .int .i64 0] 91) _ hlt).trans HV.out); have HB0 := hid (nxt HB.out (below_alloc w1 (.cells #[.string n, .int .i64 0] 91))))
    | (go_at_call 42; have hk := HR1; clear hk; refine (HF2.out _ _ HR1.out).mono ?_; rintro e w5 ⟨⟨y2, rfl⟩, hr5, hk5⟩; have HR2 := hid hr5; have HV2 := hid (keptV hk5 HV1.out (by omega)); have HB2 := hid (bel_kept HB1.out hk5 (by omega)); clear hr5 hk5)
    | (go_at_call 42; refine (HF1.out _ _ HR0.out).mono ?_; rintro e w4 ⟨⟨y1, rfl⟩, hr4, hk4⟩; have HR1 := hid hr4; have HV1 := hid (keptV hk4 HV0.out (by omega)); have HB1 := hid (bel_kept HB0.out hk4 (by omega)); clear hr4 hk4)
    | (go_at_call 43; refine (HE.out _ _ (HR2.out.below (below_alloc _ _))).mono ?_; rintro e w7 ⟨rfl, hw7⟩; have hw7 := hw7.symm; subst hw7)
    | (go_at_call 32; refine (HK.out _).mono ?_; rintro e w8 ⟨rfl, hb8⟩; have HV8 := hid ((hb8.block _ (by show _ < (w5.heap.push _).size; have := lt_of_block HV2.out; simp; omega)).trans ((Below.heap_alloc w5 _ _ (lt_of_block HV2.out)).trans HV2.out)); have HX8 := hid (var_a hb8); have HB8 := hid (nxt HB2.out (nxt (below_alloc _ _) hb8)); obtain ⟨q0, q1⟩ := two_cells HV8.out; have hfr := frees HV8.out; obtain ⟨r0, r1⟩ := two_cells HX8.out; clear hb8))
  refine bodyPost_ret (v := .tuple #[.agg #[.int .i64 0, .int .i64 0], .int .i64 4]) (by simp [results, Try.results21, go_sem, q0, q1]) rfl ⟨rfl, ?_⟩
  exact set2 HB8.out (Nat.le_refl _) _ _
set_option maxRecDepth 100000 in
set_option maxHeartbeats 2000000 in
theorem read_fine (b t n n1 n2 : ByteArray) (e1 e2 z : Int) (x1 x2 : Nat) (hb : b.size ≤ 150000000000000) (h : unV b = (t, 0)) (hn : isT t) (hN : n = t.extract 1 t.size)
    (h1 : n1 = fxS 8 n 0) (g1 : e1 = fxE 8 n 0) (f1 : x1 = fxN 8 n 0) (h2 : n2 = fxS 8 n1 e1) (g2 : e2 = fxE 8 n1 e1) (f2 : x2 = fxN 8 n1 e1) (hz : z = endV n2 e2) (hz0 : z = 0) (ho : rgt x1 x2 = true)
    (w : World) : Calls Try.prog 21 #[.string b] w fun e w' => e = .returned (.tuple #[.agg #[.int .i64 x1, .int .i64 x2], .int .i64 0]) ∧ Below w.heap.size w w' := by
  have HU := hid (fun w => unblock_any b hb w)
  have hts : (unV b).1.size ≤ maxLen := by have := unV_size b; unfold maxLen; omega
  rw [h] at HU hts
  simp only at HU hts
  have HC := hid (fun w => cut_yes t hts hn w)
  rw [← hN] at HC
  have s0 : n.size ≤ maxLen := by rw [hN, ext_size]; omega
  have s1 : n1.size ≤ maxLen := by have := fxS_size 8 n 0; rw [← h1] at this; omega
  have HF1 := hid (fun g w hr => fix_r 8 rfl (Nat.le_refl _) g n 0 s0 w hr)
  have HF2 := hid (fun g w hr => fix_r 8 rfl (Nat.le_refl _) g n1 e1 s1 w hr)
  have HE := hid (fun g w hr => end_r g n2 e2 w hr)
  rw [← h1, ← g1, ← f1] at HF1
  rw [← h2, ← g2, ← f2] at HF2
  rw [← hz] at HE
  subst hz0
  have HK := hid (fun w => right_any x1 x2 w)
  rw [ho] at HK
  clear ho
  clear h1 h2 g1 g2 f1 f2 hz s0 s1 hN hn h hts
  go_enter Try.func21, Try.ntmps21
  go_wp2_with (first
    | (go_at_call 39; refine (HU.out _).mono ?_; rintro e w1 ⟨rfl, hb1⟩; have HV := hid (var_a hb1); have HB := hid (nxt (below_alloc _ _) hb1); clear hb1)
    | (go_at_call 40; refine (HC.out _).mono ?_; rintro e w2 ⟨rfl, hw⟩; have hw := hw.symm; subst hw)
    | (go_at_call 41; refine (of_any _ _).mono ?_; rintro e w3 ⟨rfl, rfl⟩; have HR0 := hid (RIs.new n w1); have hlt := lt_of_block HV.out; have HV0 := hid ((Below.heap_alloc w1 (.cells #[.string n, .int .i64 0] 91) _ hlt).trans HV.out); have HB0 := hid (nxt HB.out (below_alloc w1 (.cells #[.string n, .int .i64 0] 91))))
    | (go_at_call 42; have hk := HR1; clear hk; refine (HF2.out _ _ HR1.out).mono ?_; rintro e w5 ⟨⟨y2, rfl⟩, hr5, hk5⟩; have HR2 := hid hr5; have HV2 := hid (keptV hk5 HV1.out (by omega)); have HB2 := hid (bel_kept HB1.out hk5 (by omega)); clear hr5 hk5)
    | (go_at_call 42; refine (HF1.out _ _ HR0.out).mono ?_; rintro e w4 ⟨⟨y1, rfl⟩, hr4, hk4⟩; have HR1 := hid hr4; have HV1 := hid (keptV hk4 HV0.out (by omega)); have HB1 := hid (bel_kept HB0.out hk4 (by omega)); clear hr4 hk4)
    | (go_at_call 43; refine (HE.out _ _ (HR2.out.below (below_alloc _ _))).mono ?_; rintro e w7 ⟨rfl, hw7⟩; have hw7 := hw7.symm; subst hw7)
    | (go_at_call 32; refine (HK.out _).mono ?_; rintro e w8 ⟨rfl, hb8⟩; have HV8 := hid ((hb8.block _ (by show _ < (w5.heap.push _).size; have := lt_of_block HV2.out; simp; omega)).trans ((Below.heap_alloc w5 _ _ (lt_of_block HV2.out)).trans HV2.out)); have HX8 := hid (var_a hb8); have HB8 := hid (nxt HB2.out (nxt (below_alloc _ _) hb8)); obtain ⟨q0, q1⟩ := two_cells HV8.out; have hfr := frees HV8.out; obtain ⟨r0, r1⟩ := two_cells HX8.out; clear hb8))
  refine bodyPost_ret (v := .tuple #[.agg #[.int .i64 x1, .int .i64 x2], .int .i64 0]) (by simp [results, Try.results21, go_sem, q0, q1]) rfl ⟨rfl, ?_⟩
  exact set2 HB8.out (Nat.le_refl _) _ _
theorem mark_split (t : ByteArray) (hn : isT t) : t.data.toList = 86 :: (t.extract 1 t.size).data.toList := by
  have hl := len_list t
  have e : t.data.toList = [86] ++ (t.extract 1 t.size).data.toList := by
    rw [ext_list, List.take_of_length_le (l := t.data.toList) (by omega), ← hn, List.take_append_drop]
  exact e
/-- is a block one that says so? -/
def okV (b : ByteArray) (x y : Nat) : Prop := unV b = (st (vL x y), 0) ∧ rgt x y = true
theorem nums_of {x y : Nat} (hx : x < 9223372036854775808) (hy : y < 9223372036854775808) (n : ByteArray) (hn : n.data.toList = fEnc x 8 ++ fEnc y 8) : endV (fxS 8 (fxS 8 n 0) (fxE 8 n 0)) (fxE 8 (fxS 8 n 0) (fxE 8 n 0)) = 0 ∧ fxN 8 n 0 = x ∧ fxN 8 (fxS 8 n 0) (fxE 8 n 0) = y := by
  obtain ⟨a1, a2, a3⟩ := fx_of 8 (by omega) hx hn
  rw [a1]
  obtain ⟨b1, b2, b3⟩ := fx_of 8 (s := fxS 8 n 0) (n := y) (r := []) (by omega) hy (by rw [a2, List.append_nil])
  refine ⟨?_, a3, b3⟩
  rw [b1]
  unfold endV
  have hl := len_list (fxS 8 (fxS 8 n 0) 0)
  rw [b2] at hl
  rw [if_neg (by decide), if_pos (show (fxS 8 (fxS 8 n 0) 0).size = 0 from hl.symm)]
theorem nums16 (n : ByteArray) (h : endV (fxS 8 (fxS 8 n 0) (fxE 8 n 0)) (fxE 8 (fxS 8 n 0) (fxE 8 n 0)) = 0) : n.data.toList = fEnc (fxN 8 n 0) 8 ++ fEnc (fxN 8 (fxS 8 n 0) (fxE 8 n 0)) 8 := by
  have he : fxE 8 (fxS 8 n 0) (fxE 8 n 0) = 0 := by
    unfold endV at h
    split at h
    · exact h
    · rename_i hh; simpa using hh
  have hs : (fxS 8 (fxS 8 n 0) (fxE 8 n 0)).size = 0 := by
    rw [he] at h
    unfold endV at h
    rw [if_neg (by decide)] at h
    split at h
    · assumption
    · omega
  obtain ⟨a1, a2, _, _⟩ := fx_back 8 he
  obtain ⟨_, b2, _, _⟩ := fx_back 8 a1
  have hz : (fxS 8 (fxS 8 n 0) (fxE 8 n 0)).data.toList = [] := List.eq_nil_of_length_eq_zero (by rw [len_list, hs])
  rw [b2, a2, hz, List.append_nil]
theorem decode_ok (b : ByteArray) (x y : Nat) (hb : b.size ≤ 150000000000000) (h : okV b x y) (w : World) : Calls Try.prog 21 #[.string b] w fun e w' => e = .returned (.tuple #[.agg #[.int .i64 x, .int .i64 y], .int .i64 0]) ∧ Below w.heap.size w w' := by
  obtain ⟨h1, h2⟩ := h
  have hx := (rgt_iff x y).1 h2
  obtain ⟨t, ht⟩ : ∃ t, t = st (vL x y) := ⟨_, rfl⟩
  have htl : t.data.toList = 86 :: (fEnc x 8 ++ fEnc y 8) := by rw [ht, st_list, vL]
  rw [← ht] at h1
  have hc : isT t := by unfold isT; rw [htl]; rfl
  have hs := mark_split t hc
  rw [htl] at hs
  have hn := (List.cons.inj hs).2.symm
  clear ht htl hs
  obtain ⟨e0, e1, e2⟩ := nums_of (by omega) (by omega) _ hn
  have k := read_fine b t _ _ _ _ _ _ _ _ hb h1 hc rfl rfl rfl rfl rfl rfl rfl rfl e0 (by rw [e1, e2]; exact h2) w
  rw [e1, e2] at k
  exact k
theorem decode_bad (b : ByteArray) (hb : b.size ≤ 150000000000000) (h : ¬ ∃ x y, okV b x y) (w : World) : Calls Try.prog 21 #[.string b] w fun e w' => e = .returned (.tuple #[zero2, .int .i64 4]) ∧ Below w.heap.size w w' := by
  by_cases h1 : (unV b).2 ≠ 0
  · exact read_e b hb h1 w
  · have h1 : (unV b).2 = 0 := by omega
    obtain ⟨t, ht⟩ : ∃ t, unV b = (t, 0) := ⟨(unV b).1, by rw [← h1]⟩
    by_cases h2 : isT t
    · by_cases h3 : endV (fxS 8 (fxS 8 (t.extract 1 t.size) 0) (fxE 8 (t.extract 1 t.size) 0)) (fxE 8 (fxS 8 (t.extract 1 t.size) 0) (fxE 8 (t.extract 1 t.size) 0)) = 0
      · have k1 := nums16 _ h3
        refine read_chk b t _ _ _ _ _ _ _ _ hb ht h2 rfl rfl rfl rfl rfl rfl rfl rfl h3 ?_ w
        cases ho : rgt (fxN 8 (t.extract 1 t.size) 0 : Nat) (fxN 8 (fxS 8 (t.extract 1 t.size) 0) (fxE 8 (t.extract 1 t.size) 0) : Nat) with
        | false => rfl
        | true =>
          refine absurd ⟨_, _, ?_, ho⟩ h
          rw [ht]
          refine Prod.ext ?_ rfl
          show t = _
          rw [vL, ← k1, ← mark_split t h2, st_toList]
      · exact read_end b t _ _ _ _ _ _ _ _ hb ht h2 rfl rfl rfl rfl rfl rfl rfl rfl h3 w
    · exact read_no b t hb ht h2 w
end Go.Proofs.Ytmemelamgldpcaa.Cd
