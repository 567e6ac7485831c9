import Derived.Test.YtbcnnolidhggnaaSc
namespace Go.Proofs.Ytbcnnolidhggnaa
open Go.RowKit

theorem right_ok (B J I : Int) (h : okS B J I) (w : World) : Calls Try.prog 7 #[.agg #[.int .i64 B, .int .i64 J, .int .i64 I]] w fun e w' => e = .returned (.bool true) ∧ Below w.heap.size w w' := by
  have k := right_in B J I h.1 w
  rw [decide_eq_true h.2] at k
  exact k
theorem right_bad (B J I : Int) (h : ¬ okS B J I) (w : World) : Calls Try.prog 7 #[.agg #[.int .i64 B, .int .i64 J, .int .i64 I]] w fun e w' => e = .returned (.bool false) ∧ Below w.heap.size w w' := by
  by_cases h0 : 16 ≤ B
  · by_cases h1 : B ≤ 1024
    · by_cases h2 : 8 ≤ J
      · by_cases h3 : J ≤ 256
        · by_cases h4 : 1 ≤ I
          · by_cases h5 : I ≤ 64
            · have hi : inS B J I := ⟨⟨h0, h1⟩, ⟨h2, h3⟩, h4, h5⟩
              have k := right_in B J I hi w
              rw [decide_eq_false (fun hh => h ⟨hi, hh⟩)] at k
              exact k
            · exact right_f B J I h0 h1 h2 h3 h4 h5 w
          · exact right_e B J I h0 h1 h2 h3 h4 w
        · exact right_d B J I h0 h1 h2 h3 w
      · exact right_c B J I h0 h1 h2 w
    · exact right_b B J I h0 h1 w
  · exact right_a B J I h0 w

/-- a shape's text, its superblock -/
def superL (b j i : Nat) : List UInt8 := [99, 97, 114, 116] ++ (fEnc b 2 ++ fEnc j 2 ++ fEnc i 2)
def superS (b j i : Nat) : ByteArray := st (sealL (bodyL (superL b j i)))
theorem superL_len (b j i : Nat) : (superL b j i).length = 10 := by
  unfold superL; simp [fEnc_len]
theorem kept3 {base g v : Nat} {o : Obj} {w w' : World} (k : Kept base g w w') (h : w.heap[v]? = some o) (h1 : v < base) (h2 : v ≠ g) : w'.heap[v]? = some o := (k.block v h1 h2).trans h
theorem super_bad (B J I : Int) (h : ¬ okS B J I) (w : World) : Calls Try.prog 11 #[.agg #[.int .i64 B, .int .i64 J, .int .i64 I]] w fun e w' => e = .returned (.tuple #[.string ByteArray.empty, .int .i64 60]) ∧ Below w.heap.size w w' := by
  have HC := hid (fun w => check_bad B J I h w)
  clear h
  go_enter Try.func11, Try.ntmps11
  go_wp2_with (first
    | (go_at_call 8; refine (HC.out _).mono ?_; rintro e w1 ⟨rfl, hb1⟩))
  go_ret2
  exact ⟨rfl, (below_alloc _ _).next hb1⟩
theorem refSuper_bad (B J I : Int) (h : ¬ okS B J I) (w : World) : Calls Try.prog 12 #[.agg #[.int .i64 B, .int .i64 J, .int .i64 I]] w fun e w' => e = .returned (.tuple #[.string ByteArray.empty, .int .i64 60]) ∧ Below w.heap.size w w' := by
  have HC := hid (fun w => right_bad B J I h w)
  clear h
  go_enter Try.func12, Try.ntmps12
  go_wp2_with (first
    | (go_at_call 7; refine (HC.out _).mono ?_; rintro e w1 ⟨rfl, hb1⟩))
  go_ret2
  exact ⟨rfl, (below_alloc _ _).next hb1⟩
set_option maxRecDepth 100000 in
set_option maxHeartbeats 1000000 in
theorem super_ok (b j i : Nat) (h : okS b j i) (w : World) : Calls Try.prog 11 #[.agg #[.int .i64 b, .int .i64 j, .int .i64 i]] w fun e w' => e = .returned (.tuple #[.string (superS b j i), .int .i64 0]) ∧ Below w.heap.size w w' := by
  have HC := hid (fun w => check_ok b j i h w)
  have hb : b < 65536 := by have := h.1.1.2; omega
  have hj : j < 65536 := by have := h.1.2.1.2; omega
  have hi : i < 65536 := by have := h.1.2.2.2; omega
  have HK := hid (fun w => block_any (st (superL b j i)) (by rw [st_size, superL_len]; omega) w)
  rw [st_list] at HK
  obtain ⟨r, hr⟩ : ∃ r, r = superS b j i := ⟨_, rfl⟩
  have HK : Hid (∀ w, Calls Try.prog 20 #[.string (st (superL b j i))] w fun e w' => e = .returned (.tuple #[.string r, .int .i64 0]) ∧ Below w.heap.size w w') := by rw [hr]; exact HK
  rw [← hr]
  obtain ⟨l3, hl3⟩ : ∃ l, l = fEnc b 2 ++ fEnc j 2 ++ fEnc i 2 := ⟨_, rfl⟩
  obtain ⟨l2, hl2⟩ : ∃ l, l = fEnc b 2 ++ fEnc j 2 := ⟨_, rfl⟩
  obtain ⟨l1, hl1⟩ : ∃ l, l = fEnc b 2 := ⟨_, rfl⟩
  have n1 : l1.length ≤ 100 := by rw [hl1, fEnc_len]; omega
  have n2 : l2.length ≤ 100 := by rw [hl2, List.length_append, fEnc_len, fEnc_len]; omega
  have HF1 := hid (fun (base g : Nat) w h1 h2 => fixed_w base g b 2 [] (by omega) (by decide) (fits2 _ hb) (by decide) w h1 h2)
  have HF2 := hid (fun (base g : Nat) w h1 h2 => fixed_w base g j 2 l1 (by omega) (by decide) (fits2 _ hj) (by omega) w h1 h2)
  have HF3 := hid (fun (base g : Nat) w h1 h2 => fixed_w base g i 2 l2 (by omega) (by decide) (fits2 _ hi) (by omega) w h1 h2)
  rw [List.nil_append, ← hl1] at HF1
  have e2 : l1 ++ fEnc j 2 = l2 := by rw [hl1, hl2]
  have e3 : l2 ++ fEnc i 2 = l3 := by rw [hl2, hl3]
  rw [e2] at HF2
  rw [e3] at HF3
  obtain ⟨o, ho⟩ : ∃ o, o = st l3 := ⟨_, rfl⟩
  have hos : o.size = 6 := by rw [ho, st_size, hl3, List.length_append, List.length_append, fEnc_len, fEnc_len, fEnc_len]
  have HO := hid (fun base g w h => out_w base g l3 w h)
  rw [← ho] at HO
  have HE : Hid ({ data := #[99, 97, 114, 116] } ++ o = st (superL b j i)) := by
    show _ = _
    rw [ho, superL, ← hl3]; apply ByteArray.ext; simp [st]
  clear hr hl1 hl2 hl3 e2 e3 ho n1 n2 h
  go_enter Try.func11, Try.ntmps11
  go_wp2_with (first
    | (go_at_call 8; refine (HC.out _).mono ?_; rintro e w1 ⟨rfl, hb1⟩; have HV := hid (var_a hb1); have HB1 := hid ((below_alloc _ _).next hb1); obtain ⟨q0, q1, q2⟩ := three_cells (var_a hb1); clear hb1)
    | (go_at_call 18; refine (new_any _).mono ?_; rintro e w2 ⟨rfl, rfl⟩; have HW0 := hid (WIs.new w1 w1.heap.size); have hlt := lt_of_block HV.out)
    | (go_at_call 19; refine (HF3.out _ _ _ HW2.out (by omega)).mono ?_; rintro e w5 ⟨rfl, hw5, hk5⟩; have HV5 := hid (kept3 hk5 HV4.out hlt (by omega)); have HW3 := hid hw5; have HK5 := hid hk5; have hz5 := hk5.size; clear hw5 hk5 q0 q1 q2; obtain ⟨q0, q1, q2⟩ := three_cells HV5.out)
    | (go_at_call 19; refine (HF2.out _ _ _ HW1.out (by omega)).mono ?_; rintro e w4 ⟨rfl, hw4, hk4⟩; have HV4 := hid (kept3 hk4 HV3.out hlt (by omega)); have HW2 := hid hw4; have HK4 := hid hk4; have hz4 := hk4.size; clear hw4 hk4 q0 q1 q2; obtain ⟨q0, q1, q2⟩ := three_cells HV4.out)
    | (go_at_call 19; refine (HF1.out _ _ _ HW0.out (by simp)).mono ?_; rintro e w3 ⟨rfl, hw3, hk3⟩; have HV3 := hid (kept3 hk3 ((Below.heap_alloc _ _ _ hlt).trans HV.out) hlt (by omega)); have HW1 := hid hw3; have HK3 := hid hk3; have hz3 := hk3.size; simp at hz3; clear hw3 hk3 q0 q1 q2; obtain ⟨q0, q1, q2⟩ := three_cells HV3.out)
    | (go_at_call 21; refine (HO.out _ _ _ HW3.out).mono ?_; rintro e w6 ⟨rfl, hw6⟩; have hw6 := hw6.symm; subst hw6)
    | (go_at_call 20; rw [HE.out]; refine (HK.out _).mono ?_; rintro e w7 ⟨rfl, hb7⟩))
  go_ret2
  have k15 : Below w1.heap.size w1 w5 := (((below_alloc w1 _).trans (HK3.out.below (Nat.le_refl _) (Nat.le_refl _))).trans (HK4.out.below (Nat.le_refl _) (Nat.le_refl _))).trans (HK5.out.below (Nat.le_refl _) (Nat.le_refl _))
  exact ⟨rfl, (HB1.out.next k15).next hb7⟩
set_option maxRecDepth 100000 in
set_option maxHeartbeats 2000000 in
theorem refSuper_ok (b j i : Nat) (h : okS b j i) (w : World) : Calls Try.prog 12 #[.agg #[.int .i64 b, .int .i64 j, .int .i64 i]] w fun e w' => e = .returned (.tuple #[.string (superS b j i), .int .i64 0]) ∧ Below w.heap.size w w' := by
  have HC := hid (fun w => right_ok b j i h w)
  have hb : b < 65536 := by have := h.1.1.2; omega
  have hj : j < 65536 := by have := h.1.2.1.2; omega
  have hi : i < 65536 := by have := h.1.2.2.2; omega
  have HK := hid (fun w => refBlock (st (superL b j i)) (by rw [st_size, superL_len]; omega) w)
  rw [st_list] at HK
  obtain ⟨r, hr⟩ : ∃ r, r = superS b j i := ⟨_, rfl⟩
  have HK : Hid (∀ w, Calls Try.prog 22 #[.string (st (superL b j i))] w fun e w' => e = .returned (.tuple #[.string r, .int .i64 0]) ∧ Below w.heap.size w w') := by rw [hr]; exact HK
  rw [← hr]
  have HF1 := hid (fun w => refFixed b 2 (by omega) (by decide) w)
  have HF2 := hid (fun w => refFixed j 2 (by omega) (by decide) w)
  have HF3 := hid (fun w => refFixed i 2 (by omega) (by decide) w)
  obtain ⟨x1, hx1⟩ : ∃ x, x = st (fEnc b 2) := ⟨_, rfl⟩
  obtain ⟨x2, hx2⟩ : ∃ x, x = st (fEnc j 2) := ⟨_, rfl⟩
  obtain ⟨x3, hx3⟩ : ∃ x, x = st (fEnc i 2) := ⟨_, rfl⟩
  have s1 : x1.size = 2 := by rw [hx1, st_size, fEnc_len]
  have s2 : x2.size = 2 := by rw [hx2, st_size, fEnc_len]
  have s3 : x3.size = 2 := by rw [hx3, st_size, fEnc_len]
  rw [← hx1] at HF1
  rw [← hx2] at HF2
  rw [← hx3] at HF3
  have HE : Hid ({ data := #[99, 97, 114, 116] } ++ x1 ++ x2 ++ x3 = st (superL b j i)) := by
    show _ = _
    rw [hx1, hx2, hx3, superL]; apply ByteArray.ext; simp [st]
  clear hr hx1 hx2 hx3 h
  go_enter Try.func12, Try.ntmps12
  go_wp2_with (first
    | (go_at_call 7; refine (HC.out _).mono ?_; rintro e w1 ⟨rfl, hb1⟩; have HV := hid (var_a hb1); have HB1 := hid ((below_alloc _ _).next hb1); obtain ⟨q0, q1, q2⟩ := three_cells (var_a hb1); clear hb1))
  go_region_held3 (fun w' => w'.cell? ⟨w.heap.size, 0, none⟩ = some (.int .i64 b) ∧ w'.cell? ⟨w.heap.size, 1, none⟩ = some (.int .i64 j) ∧ w'.cell? ⟨w.heap.size, 2, none⟩ = some (.int .i64 i)) (first | exact ⟨q0, q1, q2⟩ | go_keep) (first
    | (go_at_call 22; rw [HE.out]; refine (HK.out _).mono ?_; rintro e w7 ⟨rfl, hb7⟩; have HV7 := hid ((hb7.block _ (lt_of_block HV4.out)).trans HV4.out); have HB7 := hid (HB4.out.next hb7); clear hb7 q0 q1 q2; obtain ⟨q0, q1, q2⟩ := three_cells HV7.out)
    | (go_at_call 23; have hk := HV3; clear hk; refine (HF3.out _).mono ?_; rintro e w4 ⟨rfl, hb4⟩; have HV4 := hid ((hb4.block _ (lt_of_block HV3.out)).trans HV3.out); have HB4 := hid (HB3.out.next hb4); clear hb4 q0 q1 q2; obtain ⟨q0, q1, q2⟩ := three_cells HV4.out)
    | (go_at_call 23; have hk := HV2; clear hk; refine (HF2.out _).mono ?_; rintro e w3 ⟨rfl, hb3⟩; have HV3 := hid ((hb3.block _ (lt_of_block HV2.out)).trans HV2.out); have HB3 := hid (HB2.out.next hb3); clear hb3 q0 q1 q2; obtain ⟨q0, q1, q2⟩ := three_cells HV3.out)
    | (go_at_call 23; refine (HF1.out _).mono ?_; rintro e w2 ⟨rfl, hb2⟩; have HV2 := hid (((undrew hb2).block _ (lt_of_block HV.out)).trans HV.out); have HB2 := hid (HB1.out.next (undrew hb2)); clear hb2 q0 q1 q2; obtain ⟨q0, q1, q2⟩ := three_cells HV2.out))
  all_goals
    go_wp2
    go_ret2
    exact ⟨rfl, HB7.out⟩
end Go.Proofs.Ytbcnnolidhggnaa
