import Derived.Test.YtonejnbflkkapabSp
namespace Go.Proofs.Ytonejnbflkkapab
open Go.RowKit

theorem uEnc_mono : ∀ (b a : Nat), a ≤ b → (uEnc a).length ≤ (uEnc b).length := by
  intro b
  induction b using Nat.strongRecOn with
  | ind b ih =>
    intro a h
    by_cases hb : b < 128
    · rw [uEnc_lo hb, uEnc_lo (show a < 128 by omega)]; simp
    · by_cases ha : a < 128
      · rw [uEnc_lo ha, uEnc_hi hb]; simp
      · rw [uEnc_hi ha, uEnc_hi hb]
        have := ih (b / 128) (by omega) (a / 128) (by omega)
        simpa using this
theorem ofNat_inj {a b : Nat} (ha : a < 256) (hb : b < 256) (h : UInt8.ofNat a = UInt8.ofNat b) : a = b := by
  have := congrArg UInt8.toNat h
  rw [UInt8.toNat_ofNat', UInt8.toNat_ofNat'] at this
  omega
theorem uEnc_pre : ∀ (a b : Nat), (uEnc b).take (uEnc a).length = uEnc a → a = b := by
  intro a
  induction a using Nat.strongRecOn with
  | ind a ih =>
    intro b h
    by_cases ha : a < 128
    · rw [uEnc_lo ha] at h
      by_cases hb : b < 128
      · rw [uEnc_lo hb] at h
        simp at h
        exact (ofNat_inj (by omega) (by omega) h).symm
      · rw [uEnc_hi hb] at h
        simp only [List.length_cons, List.length_nil, List.take_succ_cons, List.take_zero] at h
        have := ofNat_inj (by omega) (by omega) (List.cons.inj h).1
        omega
    · rw [uEnc_hi ha] at h
      by_cases hb : b < 128
      · rw [uEnc_lo hb] at h
        simp only [List.length_cons, List.take_succ_cons] at h
        have := ofNat_inj (by omega) (by omega) (List.cons.inj h).1
        omega
      · rw [uEnc_hi hb] at h
        simp only [List.length_cons, List.take_succ_cons] at h
        have h1 := ofNat_inj (by omega) (by omega) (List.cons.inj h).1
        have h2 := ih (a / 128) (by omega) (b / 128) (List.cons.inj h).2
        omega
theorem str_pre (a b : Nat) (hne : a ≠ b) : (((st (uEnc b)).extract 0 (st (uEnc a)).size).toList == (st (uEnc a)).toList) = false := by
  rw [Lib.extract_toList, Lib.toList_data, st_list, st_list, st_size, List.drop_zero, Nat.sub_zero]
  cases h : ((uEnc b).take (uEnc a).length == uEnc a) with
  | false => rfl
  | true => exact absurd (uEnc_pre a b (by simpa using h)) hne

/-- a writer that has written nothing -/
def WNil (g : Nat) (w : World) : Prop := w.heap[g]? = some (.cells #[.slice none 0 0] 59 (0, 0))
theorem WNil.new (w : World) : WNil w.heap.size (w.alloc (.cells #[.slice none 0 0] 59)) := by unfold WNil; show (w.heap.push _)[w.heap.size]? = _; simp
theorem WNil.is {g : Nat} {w : World} (h : WNil g w) (base : Nat) : WIs base g w [] := ⟨_, h, World.ownsRow_nil _ _ _ _⟩
theorem WNil.below {g : Nat} {w w' : World} (h : WNil g w) (k : Below w.heap.size w w') : WNil g w' := (k.block g (lt_of_block h)).trans h
theorem WNil.kept {g base g' : Nat} {w w' : World} (h : WNil g w) (k : Kept base g' w w') (hb : g < base) (hg : g ≠ g') : WNil g w' := (k.block g hb hg).trans h
theorem WIs.kept2 {base g base' g' : Nat} {w w' : World} {bs : List UInt8} (h : WIs base g w bs) (k : Kept base' g' w w') (hb : w.heap.size ≤ base') (hg : g ≠ g') (hr : g' < base) : WIs base g w' bs := by
  refine h.kept k hb hg fun v hv => ?_
  obtain ⟨u, h1, h2⟩ := h
  rw [hv] at h1
  simp at h1
  subst h1
  intro e
  have := (h2.lt g' e).1
  omega

set_option maxRecDepth 100000 in
set_option maxHeartbeats 4000000 in
theorem short_pos (a b : Nat) (ha : a ≤ 9223372036854775807) (hb : b ≤ 9223372036854775807) (w : World) :
    Calls Try.prog 8 #[.int .i64 a, .int .i64 b] w fun e w' => e = .returned (.bool true) ∧ Below w.heap.size w w' := by
  obtain ⟨sa, hsa⟩ : ∃ sa, sa = st (uEnc a) := ⟨_, rfl⟩
  obtain ⟨sb, hsb⟩ : ∃ sb, sb = st (uEnc b) := ⟨_, rfl⟩
  have hla : 1 ≤ sa.size ∧ sa.size ≤ 9 := by rw [hsa, st_size]; exact uEnc_len63 a (by omega)
  have hlb : 1 ≤ sb.size ∧ sb.size ≤ 9 := by rw [hsb, st_size]; exact uEnc_len63 b (by omega)
  have HSA : Hid (sa = st (uEnc a)) := hsa
  have HSB : Hid (sb = st (uEnc b)) := hsb
  have hmono : a ≤ b → sa.size ≤ sb.size := fun h => by rw [hsa, hsb, st_size, st_size]; exact uEnc_mono b a h
  have hpre : a ≠ b → ((sb.extract 0 sa.size).toList == sa.toList) = false := fun h => by rw [hsa, hsb]; exact str_pre a b h
  clear hsa hsb
  by_cases hab : a = b
  · subst hab
    have hs : sa = sb := HSA.out.trans HSB.out.symm
    subst hs
    clear hmono hpre
    go_enter Try.func8, Try.ntmps8
    go_wp2_with (first | (go_at_call 9; have hq := b1; clear hq; refine (new_any _).mono ?_; rintro e w2 ⟨rfl, hw2⟩; have b2 := hw2 ▸ below_alloc w1 _; have n2 := hw2 ▸ WNil.new w1; have n1' := n1.below b2; have z2 : w1.heap.size < w2.heap.size := by { have := lt_of_block n2; exact this }; clear hw2) | (go_at_call 9; refine (new_any _).mono ?_; rintro e w1 ⟨rfl, hw1⟩; have b1 := hw1 ▸ below_alloc w _; have n1 := hw1 ▸ WNil.new w; have z1 : w.heap.size < w1.heap.size := by { have := lt_of_block n1; exact this }; clear hw1) | (go_at_call 13; refine (speaks_any _).mono ?_; rintro e w9 ⟨rfl, b9⟩) | (go_at_call 29; have hq := k3; clear hq; refine (uint_w w3.heap.size w1.heap.size a [] (by omega) (by decide) _ (n3.is _) (Nat.le_refl _)).mono ?_; rintro e w4 ⟨rfl, i4, k4⟩; rw [List.nil_append] at i4; have i3' := i3.kept2 k4 (Nat.le_refl _) (by omega) z2; have z4 := k4.size) | (go_at_call 29; refine (uint_w w2.heap.size w.heap.size a [] (by omega) (by decide) _ (n1'.is _) (Nat.le_refl _)).mono ?_; rintro e w3 ⟨rfl, i3, k3⟩; rw [List.nil_append] at i3; have n3 := n2.kept k3 z2 (by omega); have z3 := k3.size) | (go_at_call 12; have hq := dn; clear hq; refine (out_w _ _ _ _ i4).mono ?_; rintro e wq ⟨rfl, hwq⟩; have hwq := hwq.symm; subst hwq; rw [← HSA.out]) | (go_at_call 12; refine (out_w _ _ _ _ i3').mono ?_; rintro e wq ⟨rfl, hwq⟩; have hwq := hwq.symm; subst hwq; rw [← HSA.out]; have dn : True := trivial))
    go_ret
    exact ⟨rfl, ((((b1.trans (b2.mono b1.size)).trans (k3.below (by omega) (Nat.le_refl _))).trans (k4.below (by omega) (by omega))).trans (b9.mono (by omega)))⟩
  · have hp := hpre hab
    clear hpre
    have hab' : ((a : Int) == (b : Int)) = false := by simp; omega
    by_cases hl : sb.size < sa.size
    · have hba : b < a := by by_cases h : a ≤ b; · have := hmono h; omega
                             · omega
      clear hmono hab
      go_enter Try.func8, Try.ntmps8
      go_wp2_with (first | (go_at_call 9; have hq := b1; clear hq; refine (new_any _).mono ?_; rintro e w2 ⟨rfl, hw2⟩; have b2 := hw2 ▸ below_alloc w1 _; have n2 := hw2 ▸ WNil.new w1; have n1' := n1.below b2; have z2 : w1.heap.size < w2.heap.size := by { have := lt_of_block n2; exact this }; clear hw2) | (go_at_call 9; refine (new_any _).mono ?_; rintro e w1 ⟨rfl, hw1⟩; have b1 := hw1 ▸ below_alloc w _; have n1 := hw1 ▸ WNil.new w; have z1 : w.heap.size < w1.heap.size := by { have := lt_of_block n1; exact this }; clear hw1) | (go_at_call 13; refine (speaks_any _).mono ?_; rintro e w9 ⟨rfl, b9⟩) | (go_at_call 29; have hq := k3; clear hq; refine (uint_w w3.heap.size w1.heap.size b [] (by omega) (by decide) _ (n3.is _) (Nat.le_refl _)).mono ?_; rintro e w4 ⟨rfl, i4, k4⟩; rw [List.nil_append] at i4; have i3' := i3.kept2 k4 (Nat.le_refl _) (by omega) z2; have z4 := k4.size) | (go_at_call 29; refine (uint_w w2.heap.size w.heap.size a [] (by omega) (by decide) _ (n1'.is _) (Nat.le_refl _)).mono ?_; rintro e w3 ⟨rfl, i3, k3⟩; rw [List.nil_append] at i3; have n3 := n2.kept k3 z2 (by omega); have z3 := k3.size) | (go_at_call 12; have hq := dn; clear hq; refine (out_w _ _ _ _ i4).mono ?_; rintro e wq ⟨rfl, hwq⟩; have hwq := hwq.symm; subst hwq; rw [← HSB.out]) | (go_at_call 12; refine (out_w _ _ _ _ i3').mono ?_; rintro e wq ⟨rfl, hwq⟩; have hwq := hwq.symm; subst hwq; rw [← HSA.out]; have dn : True := trivial))
      go_ret
      exact ⟨rfl, ((((b1.trans (b2.mono b1.size)).trans (k3.below (by omega) (Nat.le_refl _))).trans (k4.below (by omega) (by omega))).trans (b9.mono (by omega)))⟩
    · by_cases hle : a ≤ b
      · clear hmono hab
        go_enter Try.func8, Try.ntmps8
        go_wp2_with (first | (go_at_call 9; have hq := b1; clear hq; refine (new_any _).mono ?_; rintro e w2 ⟨rfl, hw2⟩; have b2 := hw2 ▸ below_alloc w1 _; have n2 := hw2 ▸ WNil.new w1; have n1' := n1.below b2; have z2 : w1.heap.size < w2.heap.size := by { have := lt_of_block n2; exact this }; clear hw2) | (go_at_call 9; refine (new_any _).mono ?_; rintro e w1 ⟨rfl, hw1⟩; have b1 := hw1 ▸ below_alloc w _; have n1 := hw1 ▸ WNil.new w; have z1 : w.heap.size < w1.heap.size := by { have := lt_of_block n1; exact this }; clear hw1) | (go_at_call 13; refine (speaks_any _).mono ?_; rintro e w9 ⟨rfl, b9⟩) | (go_at_call 29; have hq := k3; clear hq; refine (uint_w w3.heap.size w1.heap.size b [] (by omega) (by decide) _ (n3.is _) (Nat.le_refl _)).mono ?_; rintro e w4 ⟨rfl, i4, k4⟩; rw [List.nil_append] at i4; have i3' := i3.kept2 k4 (Nat.le_refl _) (by omega) z2; have z4 := k4.size) | (go_at_call 29; refine (uint_w w2.heap.size w.heap.size a [] (by omega) (by decide) _ (n1'.is _) (Nat.le_refl _)).mono ?_; rintro e w3 ⟨rfl, i3, k3⟩; rw [List.nil_append] at i3; have n3 := n2.kept k3 z2 (by omega); have z3 := k3.size) | (go_at_call 12; have hq := dn; clear hq; refine (out_w _ _ _ _ i4).mono ?_; rintro e wq ⟨rfl, hwq⟩; have hwq := hwq.symm; subst hwq; rw [← HSB.out]) | (go_at_call 12; refine (out_w _ _ _ _ i3').mono ?_; rintro e wq ⟨rfl, hwq⟩; have hwq := hwq.symm; subst hwq; rw [← HSA.out]; have dn : True := trivial))
        go_ret
        exact ⟨rfl, ((((b1.trans (b2.mono b1.size)).trans (k3.below (by omega) (Nat.le_refl _))).trans (k4.below (by omega) (by omega))).trans (b9.mono (by omega)))⟩
      · clear hmono hab
        go_enter Try.func8, Try.ntmps8
        go_wp2_with (first | (go_at_call 9; have hq := b1; clear hq; refine (new_any _).mono ?_; rintro e w2 ⟨rfl, hw2⟩; have b2 := hw2 ▸ below_alloc w1 _; have n2 := hw2 ▸ WNil.new w1; have n1' := n1.below b2; have z2 : w1.heap.size < w2.heap.size := by { have := lt_of_block n2; exact this }; clear hw2) | (go_at_call 9; refine (new_any _).mono ?_; rintro e w1 ⟨rfl, hw1⟩; have b1 := hw1 ▸ below_alloc w _; have n1 := hw1 ▸ WNil.new w; have z1 : w.heap.size < w1.heap.size := by { have := lt_of_block n1; exact this }; clear hw1) | (go_at_call 13; refine (speaks_any _).mono ?_; rintro e w9 ⟨rfl, b9⟩) | (go_at_call 29; have hq := k3; clear hq; refine (uint_w w3.heap.size w1.heap.size b [] (by omega) (by decide) _ (n3.is _) (Nat.le_refl _)).mono ?_; rintro e w4 ⟨rfl, i4, k4⟩; rw [List.nil_append] at i4; have i3' := i3.kept2 k4 (Nat.le_refl _) (by omega) z2; have z4 := k4.size) | (go_at_call 29; refine (uint_w w2.heap.size w.heap.size a [] (by omega) (by decide) _ (n1'.is _) (Nat.le_refl _)).mono ?_; rintro e w3 ⟨rfl, i3, k3⟩; rw [List.nil_append] at i3; have n3 := n2.kept k3 z2 (by omega); have z3 := k3.size) | (go_at_call 12; have hq := dn; clear hq; refine (out_w _ _ _ _ i4).mono ?_; rintro e wq ⟨rfl, hwq⟩; have hwq := hwq.symm; subst hwq; rw [← HSB.out]) | (go_at_call 12; refine (out_w _ _ _ _ i3').mono ?_; rintro e wq ⟨rfl, hwq⟩; have hwq := hwq.symm; subst hwq; rw [← HSA.out]; have dn : True := trivial))
        go_ret
        exact ⟨rfl, ((((b1.trans (b2.mono b1.size)).trans (k3.below (by omega) (Nat.le_refl _))).trans (k4.below (by omega) (by omega))).trans (b9.mono (by omega)))⟩

set_option maxRecDepth 100000 in
set_option maxHeartbeats 4000000 in
theorem short_neg (a b : Int) (ha : -9223372036854775808 ≤ a ∧ a ≤ 9223372036854775807) (hb : -9223372036854775808 ≤ b ∧ b ≤ 9223372036854775807) (h : a < 0 ∨ b < 0) (w : World) :
    Calls Try.prog 8 #[.int .i64 a, .int .i64 b] w fun e w' => e = .returned (.bool true) ∧ Below w.heap.size w w' := by
  by_cases ha0 : a < 0
  · have hda : decide (0 ≤ a) = false := by simp; omega
    by_cases hb0 : b < 0
    · have hdb : decide (0 ≤ b) = false := by simp; omega
      clear h
      go_enter Try.func8, Try.ntmps8
      go_wp2_with (first | (go_at_call 9; have hq := b1; clear hq; refine (new_any _).mono ?_; rintro e w2 ⟨rfl, hw2⟩; have b2 := hw2 ▸ below_alloc w1 _; have n2 := hw2 ▸ WNil.new w1; have n1' := n1.below b2; have z2 : w1.heap.size < w2.heap.size := by { have := lt_of_block n2; exact this }; clear hw2) | (go_at_call 9; refine (new_any _).mono ?_; rintro e w1 ⟨rfl, hw1⟩; have b1 := hw1 ▸ below_alloc w _; have n1 := hw1 ▸ WNil.new w; have z1 : w.heap.size < w1.heap.size := by { have := lt_of_block n1; exact this }; clear hw1) | (go_at_call 13; refine (speaks_any _).mono ?_; rintro e w9 ⟨rfl, b9⟩) | (go_at_call 29; refine (uint_neg _ _ (by first | exact ha0 | exact hb0) _).mono ?_; rintro e wq ⟨rfl, hwq⟩; have hwq := hwq.symm; subst hwq))
      go_ret
      exact ⟨rfl, (b1.trans (b2.mono b1.size)).trans (b9.mono (Nat.le_trans b1.size b2.size))⟩
    · have hdb : decide (0 ≤ b) = true := by simp; omega
      obtain ⟨m, rfl⟩ := Int.eq_ofNat_of_zero_le (show 0 ≤ b by omega)
      clear h
      go_enter Try.func8, Try.ntmps8
      go_wp2_with (first | (go_at_call 9; have hq := b1; clear hq; refine (new_any _).mono ?_; rintro e w2 ⟨rfl, hw2⟩; have b2 := hw2 ▸ below_alloc w1 _; have n2 := hw2 ▸ WNil.new w1; have n1' := n1.below b2; have z2 : w1.heap.size < w2.heap.size := by { have := lt_of_block n2; exact this }; clear hw2) | (go_at_call 9; refine (new_any _).mono ?_; rintro e w1 ⟨rfl, hw1⟩; have b1 := hw1 ▸ below_alloc w _; have n1 := hw1 ▸ WNil.new w; have z1 : w.heap.size < w1.heap.size := by { have := lt_of_block n1; exact this }; clear hw1) | (go_at_call 13; refine (speaks_any _).mono ?_; rintro e w9 ⟨rfl, b9⟩) | (go_at_call 29; have hq := p1; clear hq; refine (uint_w w2.heap.size w1.heap.size m [] (by omega) (by decide) _ (n2.is _) (Nat.le_refl _)).mono ?_; rintro e w3 ⟨rfl, i3, k3⟩) | (go_at_call 29; refine (uint_neg _ _ ha0 _).mono ?_; rintro e wq ⟨rfl, hwq⟩; have hwq := hwq.symm; subst hwq; have p1 : True := trivial))
      go_ret
      exact ⟨rfl, ((b1.trans (b2.mono b1.size)).trans (k3.below (by omega) (by omega))).trans (b9.mono (by have := k3.size; omega))⟩
  · have hb0 : b < 0 := by omega
    have hda : decide (0 ≤ a) = true := by simp; omega
    have hdb : decide (0 ≤ b) = false := by simp; omega
    obtain ⟨m, rfl⟩ := Int.eq_ofNat_of_zero_le (show 0 ≤ a by omega)
    clear h
    go_enter Try.func8, Try.ntmps8
    go_wp2_with (first | (go_at_call 9; have hq := b1; clear hq; refine (new_any _).mono ?_; rintro e w2 ⟨rfl, hw2⟩; have b2 := hw2 ▸ below_alloc w1 _; have n2 := hw2 ▸ WNil.new w1; have n1' := n1.below b2; have z2 : w1.heap.size < w2.heap.size := by { have := lt_of_block n2; exact this }; clear hw2) | (go_at_call 9; refine (new_any _).mono ?_; rintro e w1 ⟨rfl, hw1⟩; have b1 := hw1 ▸ below_alloc w _; have n1 := hw1 ▸ WNil.new w; have z1 : w.heap.size < w1.heap.size := by { have := lt_of_block n1; exact this }; clear hw1) | (go_at_call 13; refine (speaks_any _).mono ?_; rintro e w9 ⟨rfl, b9⟩) | (go_at_call 29; have hq := k3; clear hq; refine (uint_neg _ _ hb0 _).mono ?_; rintro e wq ⟨rfl, hwq⟩; have hwq := hwq.symm; subst hwq) | (go_at_call 29; refine (uint_w w2.heap.size w.heap.size m [] (by omega) (by decide) _ (n1'.is _) (Nat.le_refl _)).mono ?_; rintro e w3 ⟨rfl, i3, k3⟩; rw [List.nil_append] at i3; have n3 := n2.kept k3 z2 (by omega); have z3 := k3.size))
    go_ret
    exact ⟨rfl, ((b1.trans (b2.mono b1.size)).trans (k3.below (by omega) (by omega))).trans (b9.mono (by have := k3.size; omega))⟩
theorem short_walk (a b : Int) (ha : -9223372036854775808 ≤ a ∧ a ≤ 9223372036854775807) (hb : -9223372036854775808 ≤ b ∧ b ≤ 9223372036854775807) (w : World) :
    Calls Try.prog 8 #[.int .i64 a, .int .i64 b] w fun e w' => e = .returned (.bool true) ∧ Below w.heap.size w w' := by
  by_cases h : a < 0 ∨ b < 0
  · exact short_neg a b ha hb h w
  · obtain ⟨m, rfl⟩ := Int.eq_ofNat_of_zero_le (show 0 ≤ a by omega)
    obtain ⟨n, rfl⟩ := Int.eq_ofNat_of_zero_le (show 0 ≤ b by omega)
    exact short_pos m n (by omega) (by omega) w
end Go.Proofs.Ytonejnbflkkapab
