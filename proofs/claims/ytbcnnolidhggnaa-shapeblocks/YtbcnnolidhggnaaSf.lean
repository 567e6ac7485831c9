import Derived.Test.YtbcnnolidhggnaaSe
namespace Go.Proofs.Ytbcnnolidhggnaa
open Go.RowKit

/-- is a block a shape's superblock? -/
def okR (b : ByteArray) (x y z : Nat) : Prop := unV b = (st (superL x y z), 0) ∧ okS x y z
def zero3 : Value := .agg #[.int .i64 0, .int .i64 0, .int .i64 0]
theorem keptV {v g : Nat} {o : Obj} {w w' : World} (k : Kept w.heap.size g w w') (h : w.heap[v]? = some o) (h2 : v ≠ g) : w'.heap[v]? = some o := (k.block v (lt_of_block h) h2).trans h
theorem bel_kept {w0 w w' : World} {g : Nat} (h : Below w0.heap.size w0 w) (k : Kept w.heap.size g w w') (hg : w0.heap.size ≤ g) : Below w0.heap.size w0 w' := h.trans (k.below h.size hg)
theorem set3 {w0 w : World} {g : Nat} (h : Below w0.heap.size w0 w) (hg : w0.heap.size ≤ g) (a b c : Value) : Below w0.heap.size w0 (((w.setCell ⟨g, 0, none⟩ a).setCell ⟨g, 1, none⟩ b).setCell ⟨g, 2, none⟩ c) := ((h.setCell hg _).setCell hg _).setCell hg _
theorem unV_size (b : ByteArray) : (unV b).1.size ≤ b.size := by
  unfold unV
  split
  · exact Nat.zero_le _
  · split
    · exact Nat.zero_le _
    · split
      · exact Nat.zero_le _
      · split
        · exact Nat.zero_le _
        · show (b.extract _ _).size ≤ _
          rw [ByteArray.size_extract]
          omega
theorem cut_any (t : ByteArray) (hs : t.size ≤ maxLen) : ∃ n m, ∀ w, Calls Try.prog 25 #[.string t, .string cartS] w fun e w' => e = .returned (.tuple #[.string n, .bool m]) ∧ w' = w := by
  by_cases h : isCart t
  · exact ⟨_, _, cut_yes t hs h⟩
  · exact ⟨_, _, cut_no t hs h⟩
set_option maxRecDepth 100000 in
set_option maxHeartbeats 1000000 in
theorem read_e (b : ByteArray) (hb : b.size ≤ 150000000000000) (h : (unV b).2 ≠ 0) (w : World) : Calls Try.prog 13 #[.string b] w fun e w' => e = .returned (.tuple #[zero3, .int .i64 60]) ∧ Below w.heap.size w w' := by
  have HU := hid (fun w => unblock_any b hb w)
  have hts : (unV b).1.size ≤ maxLen := by have := unV_size b; unfold maxLen; omega
  obtain ⟨t, ht⟩ : ∃ t, t = (unV b).1 := ⟨_, rfl⟩
  obtain ⟨e, he⟩ : ∃ e, e = (unV b).2 := ⟨_, rfl⟩
  rw [← ht] at hts
  rw [← ht, ← he] at HU
  rw [← he] at h
  have he' : (e != 0) = true := by simp [h]
  obtain ⟨n, m, hc⟩ := cut_any t hts
  have HC := hid hc
  clear ht he h hts hc
  unfold zero3
  go_enter Try.func13, Try.ntmps13
  go_wp2_with (first
    | (go_at_call 24; refine (HU.out _).mono ?_; rintro e w1 ⟨rfl, hb1⟩; have HV := hid (var_a hb1); have HB := hid ((below_alloc _ _).next hb1); clear hb1)
    | (go_at_call 25; refine (HC.out _).mono ?_; rintro e w2 ⟨rfl, hw⟩; have hw := hw.symm; subst hw; obtain ⟨q0, q1, q2⟩ := three_cells HV.out; have hfr := frees HV.out))
  refine bodyPost_ret (v := .tuple #[.agg #[.int .i64 0, .int .i64 0, .int .i64 0], .int .i64 60]) (by simp [results, Try.results13, go_sem, q0, q1, q2]) rfl ⟨rfl, set3 HB.out (Nat.le_refl _) _ _ _⟩
set_option maxRecDepth 100000 in
set_option maxHeartbeats 1000000 in
theorem read_no (b t : ByteArray) (hb : b.size ≤ 150000000000000) (h : unV b = (t, 0)) (hn : ¬ isCart t) (w : World) : Calls Try.prog 13 #[.string b] w fun e w' => e = .returned (.tuple #[zero3, .int .i64 60]) ∧ Below w.heap.size w w' := by
  have HU := hid (fun w => unblock_any b hb w)
  have hts : (unV b).1.size ≤ maxLen := by have := unV_size b; unfold maxLen; omega
  rw [h] at HU hts
  have HC := hid (fun w => cut_no t hts hn w)
  simp only at HU
  clear h hts hn
  unfold zero3
  go_enter Try.func13, Try.ntmps13
  go_wp2_with (first
    | (go_at_call 24; refine (HU.out _).mono ?_; rintro e w1 ⟨rfl, hb1⟩; have HV := hid (var_a hb1); have HB := hid ((below_alloc _ _).next hb1); clear hb1)
    | (go_at_call 25; refine (HC.out _).mono ?_; rintro e w2 ⟨rfl, hw⟩; have hw := hw.symm; subst hw; obtain ⟨q0, q1, q2⟩ := three_cells HV.out; have hfr := frees HV.out))
  refine bodyPost_ret (v := .tuple #[.agg #[.int .i64 0, .int .i64 0, .int .i64 0], .int .i64 60]) (by simp [results, Try.results13, go_sem, q0, q1, q2]) rfl ⟨rfl, set3 HB.out (Nat.le_refl _) _ _ _⟩
/-- the block's text has the mark: how it goes on -/
theorem fxS_size (s : ByteArray) (e : Int) : (fxS s e).size ≤ s.size := by
  unfold fxS
  split
  · exact Nat.le_refl _
  · split
    · exact Nat.le_refl _
    · rw [ext_size]; omega
set_option maxRecDepth 100000 in
set_option maxHeartbeats 2000000 in
theorem read_end (b t n n1 n2 n3 : ByteArray) (e1 e2 e3 z : Int) (x1 x2 x3 : Nat) (hb : b.size ≤ 150000000000000) (h : unV b = (t, 0)) (hn : isCart t) (hN : n = t.extract 4 t.size)
    (h1 : n1 = fxS n 0) (g1 : e1 = fxE n 0) (f1 : x1 = fxN n 0) (h2 : n2 = fxS n1 e1) (g2 : e2 = fxE n1 e1) (f2 : x2 = fxN n1 e1) (h3 : n3 = fxS n2 e2) (g3 : e3 = fxE n2 e2) (f3 : x3 = fxN n2 e2) (hz : z = endV n3 e3) (hz0 : z ≠ 0)
    (w : World) : Calls Try.prog 13 #[.string b] w fun e w' => e = .returned (.tuple #[zero3, .int .i64 60]) ∧ Below w.heap.size w w' := by
  have HU := hid (fun w => unblock_any b hb w)
  have hts : (unV b).1.size ≤ maxLen := by have := unV_size b; unfold maxLen; omega
  rw [h] at HU hts
  simp only at HU hts
  have HC := hid (fun w => cut_yes t hts hn w)
  rw [← hN] at HC
  have s0 : n.size ≤ maxLen := by rw [hN, ext_size]; omega
  have s1 : n1.size ≤ maxLen := by have := fxS_size n 0; rw [← h1] at this; omega
  have s2 : n2.size ≤ maxLen := by have := fxS_size n1 e1; rw [← h2] at this; omega
  have HF1 := hid (fun g w hr => fix2_r g n 0 s0 w hr)
  have HF2 := hid (fun g w hr => fix2_r g n1 e1 s1 w hr)
  have HF3 := hid (fun g w hr => fix2_r g n2 e2 s2 w hr)
  have HE := hid (fun g w hr => end_r g n3 e3 w hr)
  rw [← h1, ← g1, ← f1] at HF1
  rw [← h2, ← g2, ← f2] at HF2
  rw [← h3, ← g3, ← f3] at HF3
  rw [← hz] at HE
  have hz' : (z != 0) = true := by simp [hz0]
  clear h1 h2 h3 g1 g2 g3 f1 f2 f3 hz s0 s1 s2 hN hn h hts hz0
  unfold zero3
  go_enter Try.func13, Try.ntmps13
  go_wp2_with (first
    | (go_at_call 24; refine (HU.out _).mono ?_; rintro e w1 ⟨rfl, hb1⟩; have HV := hid (var_a hb1); have HB := hid ((below_alloc _ _).next hb1); clear hb1)
    | (go_at_call 25; refine (HC.out _).mono ?_; rintro e w2 ⟨rfl, hw⟩; have hw := hw.symm; subst hw)
    | (go_at_call 26; refine (of_any _ _).mono ?_; rintro e w3 ⟨rfl, rfl⟩; have HR0 := hid (RIs.new n w1); have hlt := lt_of_block HV.out; have HV0 := hid ((Below.heap_alloc w1 (.cells #[.string n, .int .i64 0] 65) _ hlt).trans HV.out); have HB0 := hid (HB.out.next (below_alloc w1 (.cells #[.string n, .int .i64 0] 65))))
    | (go_at_call 27; have hk := HR2; clear hk; refine (HF3.out _ _ HR2.out).mono ?_; rintro e w6 ⟨⟨y3, rfl⟩, hr6, hk6⟩; have HR3 := hid hr6; have HV3 := hid (keptV hk6 HV2.out (by omega)); have HB3 := hid (bel_kept HB2.out hk6 (by omega)); clear hr6 hk6)
    | (go_at_call 27; have hk := HR1; clear hk; refine (HF2.out _ _ HR1.out).mono ?_; rintro e w5 ⟨⟨y2, rfl⟩, hr5, hk5⟩; have HR2 := hid hr5; have HV2 := hid (keptV hk5 HV1.out (by omega)); have HB2 := hid (bel_kept HB1.out hk5 (by omega)); clear hr5 hk5)
    | (go_at_call 27; refine (HF1.out _ _ HR0.out).mono ?_; rintro e w4 ⟨⟨y1, rfl⟩, hr4, hk4⟩; have HR1 := hid hr4; have HV1 := hid (keptV hk4 HV0.out (by omega)); have HB1 := hid (bel_kept HB0.out hk4 (by omega)); clear hr4 hk4)
    | (go_at_call 28; refine (HE.out _ _ (HR3.out.below (below_alloc _ _))).mono ?_; rintro e w7 ⟨rfl, hw7⟩; have hw7 := hw7.symm; subst hw7; obtain ⟨q0, q1, q2⟩ := three_cells HV3.out; have hfr := frees HV3.out; have hl6 := lt_of_block HV3.out))
  refine bodyPost_ret (v := .tuple #[.agg #[.int .i64 0, .int .i64 0, .int .i64 0], .int .i64 60]) (by simp [results, Try.results13, go_sem, q0, q1, q2, hl6]) rfl ⟨rfl, ?_⟩
  exact (set3 HB3.out (Nat.le_refl _) _ _ _).alloc (by simpa using HB3.out.size) _
set_option maxRecDepth 100000 in
set_option maxHeartbeats 2000000 in
theorem read_chk (b t n n1 n2 n3 : ByteArray) (e1 e2 e3 z : Int) (x1 x2 x3 : Nat) (hb : b.size ≤ 150000000000000) (h : unV b = (t, 0)) (hn : isCart t) (hN : n = t.extract 4 t.size)
    (h1 : n1 = fxS n 0) (g1 : e1 = fxE n 0) (f1 : x1 = fxN n 0) (h2 : n2 = fxS n1 e1) (g2 : e2 = fxE n1 e1) (f2 : x2 = fxN n1 e1) (h3 : n3 = fxS n2 e2) (g3 : e3 = fxE n2 e2) (f3 : x3 = fxN n2 e2) (hz : z = endV n3 e3) (hz0 : z = 0) (ho : ¬ okS x1 x2 x3)
    (w : World) : Calls Try.prog 13 #[.string b] w fun e w' => e = .returned (.tuple #[zero3, .int .i64 60]) ∧ Below w.heap.size w w' := by
  have HU := hid (fun w => unblock_any b hb w)
  have hts : (unV b).1.size ≤ maxLen := by have := unV_size b; unfold maxLen; omega
  rw [h] at HU hts
  simp only at HU hts
  have HC := hid (fun w => cut_yes t hts hn w)
  rw [← hN] at HC
  have s0 : n.size ≤ maxLen := by rw [hN, ext_size]; omega
  have s1 : n1.size ≤ maxLen := by have := fxS_size n 0; rw [← h1] at this; omega
  have s2 : n2.size ≤ maxLen := by have := fxS_size n1 e1; rw [← h2] at this; omega
  have HF1 := hid (fun g w hr => fix2_r g n 0 s0 w hr)
  have HF2 := hid (fun g w hr => fix2_r g n1 e1 s1 w hr)
  have HF3 := hid (fun g w hr => fix2_r g n2 e2 s2 w hr)
  have HE := hid (fun g w hr => end_r g n3 e3 w hr)
  rw [← h1, ← g1, ← f1] at HF1
  rw [← h2, ← g2, ← f2] at HF2
  rw [← h3, ← g3, ← f3] at HF3
  rw [← hz] at HE
  subst hz0
  have HK := hid (fun w => check_bad x1 x2 x3 ho w)
  clear ho
  clear h1 h2 h3 g1 g2 g3 f1 f2 f3 hz s0 s1 s2 hN hn h hts
  unfold zero3
  go_enter Try.func13, Try.ntmps13
  go_wp2_with (first
    | (go_at_call 24; refine (HU.out _).mono ?_; rintro e w1 ⟨rfl, hb1⟩; have HV := hid (var_a hb1); have HB := hid ((below_alloc _ _).next hb1); clear hb1)
    | (go_at_call 25; refine (HC.out _).mono ?_; rintro e w2 ⟨rfl, hw⟩; have hw := hw.symm; subst hw)
    | (go_at_call 26; refine (of_any _ _).mono ?_; rintro e w3 ⟨rfl, rfl⟩; have HR0 := hid (RIs.new n w1); have hlt := lt_of_block HV.out; have HV0 := hid ((Below.heap_alloc w1 (.cells #[.string n, .int .i64 0] 65) _ hlt).trans HV.out); have HB0 := hid (HB.out.next (below_alloc w1 (.cells #[.string n, .int .i64 0] 65))))
    | (go_at_call 27; have hk := HR2; clear hk; refine (HF3.out _ _ HR2.out).mono ?_; rintro e w6 ⟨⟨y3, rfl⟩, hr6, hk6⟩; have HR3 := hid hr6; have HV3 := hid (keptV hk6 HV2.out (by omega)); have HB3 := hid (bel_kept HB2.out hk6 (by omega)); clear hr6 hk6)
    | (go_at_call 27; have hk := HR1; clear hk; refine (HF2.out _ _ HR1.out).mono ?_; rintro e w5 ⟨⟨y2, rfl⟩, hr5, hk5⟩; have HR2 := hid hr5; have HV2 := hid (keptV hk5 HV1.out (by omega)); have HB2 := hid (bel_kept HB1.out hk5 (by omega)); clear hr5 hk5)
    | (go_at_call 27; refine (HF1.out _ _ HR0.out).mono ?_; rintro e w4 ⟨⟨y1, rfl⟩, hr4, hk4⟩; have HR1 := hid hr4; have HV1 := hid (keptV hk4 HV0.out (by omega)); have HB1 := hid (bel_kept HB0.out hk4 (by omega)); clear hr4 hk4)
    | (go_at_call 28; refine (HE.out _ _ (HR3.out.below (below_alloc _ _))).mono ?_; rintro e w7 ⟨rfl, hw7⟩; have hw7 := hw7.symm; subst hw7)
    | (go_at_call 8; refine (HK.out _).mono ?_; rintro e w8 ⟨rfl, hb8⟩; have HV8 := hid ((hb8.block _ (by show _ < (w6.heap.push _).size; have := lt_of_block HV3.out; simp; omega)).trans ((Below.heap_alloc w6 _ _ (lt_of_block HV3.out)).trans HV3.out)); have HX8 := hid (var_a hb8); have HB8 := hid (HB3.out.next ((below_alloc _ _).next hb8)); obtain ⟨q0, q1, q2⟩ := three_cells HV8.out; have hfr := frees HV8.out; obtain ⟨r0, r1, r2⟩ := three_cells HX8.out; clear hb8))
  refine bodyPost_ret (v := .tuple #[.agg #[.int .i64 0, .int .i64 0, .int .i64 0], .int .i64 60]) (by simp [results, Try.results13, go_sem, q0, q1, q2]) rfl ⟨rfl, ?_⟩
  exact set3 HB8.out (Nat.le_refl _) _ _ _
set_option maxRecDepth 100000 in
set_option maxHeartbeats 2000000 in
theorem read_fine (b t n n1 n2 n3 : ByteArray) (e1 e2 e3 z : Int) (x1 x2 x3 : Nat) (hb : b.size ≤ 150000000000000) (h : unV b = (t, 0)) (hn : isCart t) (hN : n = t.extract 4 t.size)
    (h1 : n1 = fxS n 0) (g1 : e1 = fxE n 0) (f1 : x1 = fxN n 0) (h2 : n2 = fxS n1 e1) (g2 : e2 = fxE n1 e1) (f2 : x2 = fxN n1 e1) (h3 : n3 = fxS n2 e2) (g3 : e3 = fxE n2 e2) (f3 : x3 = fxN n2 e2) (hz : z = endV n3 e3) (hz0 : z = 0) (ho : okS x1 x2 x3)
    (w : World) : Calls Try.prog 13 #[.string b] w fun e w' => e = .returned (.tuple #[.agg #[.int .i64 x1, .int .i64 x2, .int .i64 x3], .int .i64 0]) ∧ Below w.heap.size w w' := by
  have HU := hid (fun w => unblock_any b hb w)
  have hts : (unV b).1.size ≤ maxLen := by have := unV_size b; unfold maxLen; omega
  rw [h] at HU hts
  simp only at HU hts
  have HC := hid (fun w => cut_yes t hts hn w)
  rw [← hN] at HC
  have s0 : n.size ≤ maxLen := by rw [hN, ext_size]; omega
  have s1 : n1.size ≤ maxLen := by have := fxS_size n 0; rw [← h1] at this; omega
  have s2 : n2.size ≤ maxLen := by have := fxS_size n1 e1; rw [← h2] at this; omega
  have HF1 := hid (fun g w hr => fix2_r g n 0 s0 w hr)
  have HF2 := hid (fun g w hr => fix2_r g n1 e1 s1 w hr)
  have HF3 := hid (fun g w hr => fix2_r g n2 e2 s2 w hr)
  have HE := hid (fun g w hr => end_r g n3 e3 w hr)
  rw [← h1, ← g1, ← f1] at HF1
  rw [← h2, ← g2, ← f2] at HF2
  rw [← h3, ← g3, ← f3] at HF3
  rw [← hz] at HE
  subst hz0
  have HK := hid (fun w => check_ok x1 x2 x3 ho w)
  clear ho
  clear h1 h2 h3 g1 g2 g3 f1 f2 f3 hz s0 s1 s2 hN hn h hts
  go_enter Try.func13, Try.ntmps13
  go_wp2_with (first
    | (go_at_call 24; refine (HU.out _).mono ?_; rintro e w1 ⟨rfl, hb1⟩; have HV := hid (var_a hb1); have HB := hid ((below_alloc _ _).next hb1); clear hb1)
    | (go_at_call 25; refine (HC.out _).mono ?_; rintro e w2 ⟨rfl, hw⟩; have hw := hw.symm; subst hw)
    | (go_at_call 26; refine (of_any _ _).mono ?_; rintro e w3 ⟨rfl, rfl⟩; have HR0 := hid (RIs.new n w1); have hlt := lt_of_block HV.out; have HV0 := hid ((Below.heap_alloc w1 (.cells #[.string n, .int .i64 0] 65) _ hlt).trans HV.out); have HB0 := hid (HB.out.next (below_alloc w1 (.cells #[.string n, .int .i64 0] 65))))
    | (go_at_call 27; have hk := HR2; clear hk; refine (HF3.out _ _ HR2.out).mono ?_; rintro e w6 ⟨⟨y3, rfl⟩, hr6, hk6⟩; have HR3 := hid hr6; have HV3 := hid (keptV hk6 HV2.out (by omega)); have HB3 := hid (bel_kept HB2.out hk6 (by omega)); clear hr6 hk6)
    | (go_at_call 27; have hk := HR1; clear hk; refine (HF2.out _ _ HR1.out).mono ?_; rintro e w5 ⟨⟨y2, rfl⟩, hr5, hk5⟩; have HR2 := hid hr5; have HV2 := hid (keptV hk5 HV1.out (by omega)); have HB2 := hid (bel_kept HB1.out hk5 (by omega)); clear hr5 hk5)
    | (go_at_call 27; refine (HF1.out _ _ HR0.out).mono ?_; rintro e w4 ⟨⟨y1, rfl⟩, hr4, hk4⟩; have HR1 := hid hr4; have HV1 := hid (keptV hk4 HV0.out (by omega)); have HB1 := hid (bel_kept HB0.out hk4 (by omega)); clear hr4 hk4)
    | (go_at_call 28; refine (HE.out _ _ (HR3.out.below (below_alloc _ _))).mono ?_; rintro e w7 ⟨rfl, hw7⟩; have hw7 := hw7.symm; subst hw7)
    | (go_at_call 8; refine (HK.out _).mono ?_; rintro e w8 ⟨rfl, hb8⟩; have HV8 := hid ((hb8.block _ (by show _ < (w6.heap.push _).size; have := lt_of_block HV3.out; simp; omega)).trans ((Below.heap_alloc w6 _ _ (lt_of_block HV3.out)).trans HV3.out)); have HX8 := hid (var_a hb8); have HB8 := hid (HB3.out.next ((below_alloc _ _).next hb8)); obtain ⟨q0, q1, q2⟩ := three_cells HV8.out; have hfr := frees HV8.out; obtain ⟨r0, r1, r2⟩ := three_cells HX8.out; clear hb8))
  refine bodyPost_ret (v := .tuple #[.agg #[.int .i64 x1, .int .i64 x2, .int .i64 x3], .int .i64 0]) (by simp [results, Try.results13, go_sem, q0, q1, q2]) rfl ⟨rfl, ?_⟩
  exact set3 HB8.out (Nat.le_refl _) _ _ _
theorem cart_split (t : ByteArray) (hn : isCart t) : t.data.toList = [99, 97, 114, 116] ++ (t.extract 4 t.size).data.toList := by
  have hl := len_list t
  rw [ext_list, List.take_of_length_le (l := t.data.toList) (by omega), ← hn, List.take_append_drop]
theorem read_ok (b : ByteArray) (x y z : Nat) (hb : b.size ≤ 150000000000000) (h : okR b x y z) (w : World) : Calls Try.prog 13 #[.string b] w fun e w' => e = .returned (.tuple #[.agg #[.int .i64 x, .int .i64 y, .int .i64 z], .int .i64 0]) ∧ Below w.heap.size w w' := by
  obtain ⟨h1, h2⟩ := h
  have hx : x < 65536 := by have := h2.1.1.2; omega
  have hy : y < 65536 := by have := h2.1.2.1.2; omega
  have hz : z < 65536 := by have := h2.1.2.2.2; omega
  obtain ⟨t, ht⟩ : ∃ t, t = st (superL x y z) := ⟨_, rfl⟩
  have htl : t.data.toList = [99, 97, 114, 116] ++ (fEnc x 2 ++ fEnc y 2 ++ fEnc z 2) := by rw [ht, st_list, superL]
  rw [← ht] at h1
  have hc : isCart t := by unfold isCart; rw [htl]; rfl
  have hs := cart_split t hc
  rw [htl] at hs
  have hn := (List.append_cancel_left hs).symm
  clear ht htl hs
  obtain ⟨e0, e1, e2, e3⟩ := nums_of x y z hx hy hz _ hn
  have k := read_fine b t _ _ _ _ _ _ _ _ _ _ _ hb h1 hc rfl rfl rfl rfl rfl rfl rfl rfl rfl rfl rfl e0 (by rw [e1, e2, e3]; exact h2) w
  rw [e1, e2, e3] at k
  exact k
theorem read_bad (b : ByteArray) (hb : b.size ≤ 150000000000000) (h : ¬ ∃ x y z, okR b x y z) (w : World) : Calls Try.prog 13 #[.string b] w fun e w' => e = .returned (.tuple #[zero3, .int .i64 60]) ∧ Below w.heap.size w w' := by
  by_cases h1 : (unV b).2 ≠ 0
  · exact read_e b hb h1 w
  · have h1 : (unV b).2 = 0 := by omega
    obtain ⟨t, ht⟩ : ∃ t, unV b = (t, 0) := ⟨(unV b).1, by rw [← h1]⟩
    by_cases h2 : isCart t
    · by_cases h3 : endV (fxS (fxS (fxS (t.extract 4 t.size) 0) (fxE (t.extract 4 t.size) 0)) (fxE (fxS (t.extract 4 t.size) 0) (fxE (t.extract 4 t.size) 0))) (fxE (fxS (fxS (t.extract 4 t.size) 0) (fxE (t.extract 4 t.size) 0)) (fxE (fxS (t.extract 4 t.size) 0) (fxE (t.extract 4 t.size) 0))) = 0
      · obtain ⟨k1, k2, k3, k4⟩ := nums6 _ h3
        refine read_chk b t _ _ _ _ _ _ _ _ _ _ _ hb ht h2 rfl rfl rfl rfl rfl rfl rfl rfl rfl rfl rfl h3 (fun ho => h ⟨_, _, _, ?_, ho⟩) w
        rw [ht]
        refine Prod.ext ?_ rfl
        show t = _
        rw [superL, ← k1, ← cart_split t h2, st_toList]
      · exact read_end b t _ _ _ _ _ _ _ _ _ _ _ hb ht h2 rfl rfl rfl rfl rfl rfl rfl rfl rfl rfl rfl h3 w
    · exact read_no b t hb ht h2 w
end Go.Proofs.Ytbcnnolidhggnaa
