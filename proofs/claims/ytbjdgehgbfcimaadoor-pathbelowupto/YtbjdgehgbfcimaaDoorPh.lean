import Derived.Test.YtbjdgehgbfcimaaDoorPg
namespace Go.Proofs.YtbjdgehgbfcimaaDoor
open Go.RowKit

set_option maxRecDepth 100000 in
theorem joins_walk (v v' : Value) (a b : List ByteArray) (w : World) (ha : SLie w v a) (hb : SLie w v' b) (hl : a.length ≤ 100000000000000) (hsz : ∀ x ∈ a, x.size ≤ maxLen) : Calls Tryd.prog 4 #[v, v'] w fun e w' => e = .returned (.bool true) ∧ Below w.heap.size w w' := by
  have H17 := hid (join_any v a w ha)
  have H18 := hid (fun w h => rjoin_any v a w h hl hsz)
  have H19 := hid (fun w (h : SLie w v a) (h' : SLie w v' b) => less_any v v' a b w h h')
  have H19' := hid (fun w (h : SLie w v a) (h' : SLie w v' b) => less_any v' v b a w h' h)
  have H20 := hid (fun w (h : SLie w v a) (h' : SLie w v' b) => rless_any v v' a b w h h')
  have H20' := hid (fun w (h : SLie w v a) (h' : SLie w v' b) => rless_any v' v b a w h' h)
  have HSP := hid speaks_any
  have HV := hid ha
  have HV' := hid hb
  obtain ⟨J, hJ⟩ : ∃ J, J = if chkE a = 0 then st (joinP a) else (⟨#[]⟩ : ByteArray) := ⟨_, rfl⟩
  obtain ⟨E, hE⟩ : ∃ E, E = chkE a := ⟨_, rfl⟩
  obtain ⟨l1, h1⟩ : ∃ x, x = lessS a b := ⟨_, rfl⟩
  obtain ⟨l2, h2⟩ : ∃ x, x = lessS b a := ⟨_, rfl⟩
  rw [← hJ, ← hE] at H17 H18
  rw [← h1] at H19 H20
  rw [← h2] at H19' H20'
  clear hJ hE h1 h2 ha hb hl hsz
  go_enter Tryd.func4, Tryd.ntmps4
  go_wp2_with (first
    | (go_at_call 17; refine (H17.out).mono ?_; rintro e w1 ⟨rfl, hb1⟩; have HV1 := hid (HV.out.below hb1); have HV1' := hid (HV'.out.below hb1); have HB1 := hid hb1; clear hb1)
    | (go_at_call 18; refine (H18.out _ HV1.out).mono ?_; rintro e w2 ⟨rfl, hw⟩; have hw := hw.symm; subst hw)
    | (go_at_call 19; have hk := HB2; clear hk; refine (H19'.out _ HV2.out HV2'.out).mono ?_; rintro e w2 ⟨rfl, hw⟩; have hw := hw.symm; subst hw)
    | (go_at_call 19; refine (H19.out _ HV1.out HV1'.out).mono ?_; rintro e w2 ⟨rfl, hw⟩; have hw := hw.symm; subst hw)
    | (go_at_call 20; have hk := HB2; clear hk; refine (H20'.out _ HV2.out HV2'.out).mono ?_; rintro e w3 ⟨rfl, hb3⟩; have HB3 := hid (below_next HB2.out hb3); clear hb3)
    | (go_at_call 20; refine (H20.out _ HV1.out HV1'.out).mono ?_; rintro e w2 ⟨rfl, hb2⟩; have HV2 := hid (HV1.out.below hb2); have HV2' := hid (HV1'.out.below hb2); have HB2 := hid (below_next HB1.out hb2); clear hb2)
    | (go_at_call 16; refine (HSP.out _).mono ?_; rintro e w8 ⟨rfl, hb8⟩; have HB8 := hid (below_next HB3.out hb8); clear hb8))
  all_goals
    go_ret
    exact ⟨rfl, HB8.out⟩
set_option maxRecDepth 100000 in
theorem below_walk (s t : ByteArray) (w : World) (hs : s.size ≤ 1048576) (ht : t.size ≤ 1048576) : Calls Tryd.prog 5 #[.string s, .string t] w fun e w' => e = .returned (.bool true) ∧ Below w.heap.size w w' := by
  have H21 := hid (fun w => below_any s t w hs ht)
  have H22 := hid (fun w => rbelow_any s t w hs ht)
  have HSP := hid speaks_any
  obtain ⟨A, hA⟩ : ∃ x, x = belB s.data.toList t.data.toList := ⟨_, rfl⟩
  obtain ⟨E, hE⟩ : ∃ x, x = belE s.data.toList t.data.toList := ⟨_, rfl⟩
  rw [← hA, ← hE] at H21 H22
  clear hA hE
  go_enter Tryd.func5, Tryd.ntmps5
  go_wp2_with (first
    | (go_at_call 21; refine (H21.out _).mono ?_; rintro e w1 ⟨rfl, hb1⟩; have HB1 := hid hb1; clear hb1)
    | (go_at_call 22; refine (H22.out _).mono ?_; rintro e w2 ⟨rfl, hb2⟩; have HB2 := hid (below_next HB1.out hb2); clear hb2)
    | (go_at_call 16; refine (HSP.out _).mono ?_; rintro e w8 ⟨rfl, hb8⟩; have HB8 := hid (below_next HB2.out hb8); clear hb8))
  all_goals
    go_ret
    exact ⟨rfl, HB8.out⟩
theorem bl_irr : ∀ x : List UInt8, Op.bytesLess x x = false
  | [] => rfl
  | a :: x => by
    have := bl_irr x
    rw [Op.bytesLess]
    simp [this]
theorem bl_trans : ∀ x y z : List UInt8, Op.bytesLess x y = true → Op.bytesLess y z = true → Op.bytesLess x z = true
  | [], [], _, h, _ => by simp [Op.bytesLess] at h
  | _ :: _, [], _, h, _ => by simp [Op.bytesLess] at h
  | _, _ :: _, [], _, h => by simp [Op.bytesLess] at h
  | [], _ :: _, _ :: _, _, _ => by simp [Op.bytesLess]
  | a :: x, b :: y, c :: z, h1, h2 => by
    have ih := bl_trans x y z
    rw [Op.bytesLess] at h1 h2 ⊢
    simp only [Bool.or_eq_true, Bool.and_eq_true, decide_eq_true_eq, beq_iff_eq, UInt8.lt_iff_toNat_lt] at h1 h2 ⊢
    rcases h1 with h1 | ⟨rfl, h1⟩
    · rcases h2 with h2 | ⟨rfl, h2⟩
      · left; omega
      · left; exact h1
    · rcases h2 with h2 | ⟨rfl, h2⟩
      · left; exact h2
      · right; exact ⟨rfl, ih h1 h2⟩
theorem bl_tri : ∀ x y : List UInt8, Op.bytesLess x y = false → Op.bytesLess y x = false → x = y
  | [], [], _, _ => rfl
  | _ :: _, [], _, h => by simp [Op.bytesLess] at h
  | [], _ :: _, h, _ => by simp [Op.bytesLess] at h
  | a :: x, b :: y, h1, h2 => by
    have ih := bl_tri x y
    rw [Op.bytesLess] at h1 h2
    simp only [Bool.or_eq_false_iff, Bool.and_eq_false_iff, decide_eq_false_iff_not, UInt8.lt_iff_toNat_lt] at h1 h2
    have e : a = b := UInt8.toNat_inj.1 (by omega)
    subst e
    simp at h1 h2
    rw [ih h1 h2]
theorem lessS_cons (a b : ByteArray) (x y : List ByteArray) : lessS (a :: x) (b :: y) = true ↔ (a = b ∧ lessS x y = true) ∨ (Op.bytesLess a.data.toList b.data.toList = true) := by
  rw [lessS]
  by_cases h : a = b
  · subst h
    rw [if_pos (by simp), bl_irr]
    simp
  · rw [if_neg (by rw [str_ne h]; simp), Lib.toList_data, Lib.toList_data]
    simp [h]
theorem lessS_irr : ∀ a : List ByteArray, lessS a a = false
  | [] => rfl
  | x :: a => by
    cases h : lessS (x :: a) (x :: a) with
    | false => rfl
    | true =>
      rcases (lessS_cons _ _ _ _).1 h with ⟨_, h⟩ | h
      · rw [lessS_irr a] at h; cases h
      · rw [bl_irr] at h; cases h
theorem lessS_trans : ∀ a b c : List ByteArray, lessS a b = true → lessS b c = true → lessS a c = true
  | [], [], _, h, _ => by simp [lessS] at h
  | _ :: _, [], _, h, _ => by simp [lessS] at h
  | _, _ :: _, [], _, h => by simp [lessS] at h
  | [], _ :: _, _ :: _, _, _ => by simp [lessS]
  | x :: a, y :: b, z :: c, h1, h2 => by
    rw [lessS_cons] at h1 h2 ⊢
    rcases h1 with ⟨rfl, h1⟩ | h1
    · rcases h2 with ⟨rfl, h2⟩ | h2
      · exact .inl ⟨rfl, lessS_trans a b c h1 h2⟩
      · exact .inr h2
    · rcases h2 with ⟨rfl, h2⟩ | h2
      · exact .inr h1
      · exact .inr (bl_trans _ _ _ h1 h2)
theorem lessS_tri : ∀ a b : List ByteArray, lessS a b = false → lessS b a = false → a = b
  | [], [], _, _ => rfl
  | _ :: _, [], _, h => by simp [lessS] at h
  | [], _ :: _, h, _ => by simp [lessS] at h
  | x :: a, y :: b, h1, h2 => by
    have n1 : ¬ (lessS (x :: a) (y :: b) = true) := by rw [h1]; simp
    have n2 : ¬ (lessS (y :: b) (x :: a) = true) := by rw [h2]; simp
    rw [lessS_cons] at n1 n2
    simp only [not_or, not_and, Bool.not_eq_true] at n1 n2
    have e : x = y := ba_ext (bl_tri _ _ n1.2 n2.2)
    subst e
    rw [lessS_tri a b (n1.1 rfl) (n2.1 rfl)]
set_option maxRecDepth 100000 in
set_option maxHeartbeats 2000000 in
theorem order_walk (v0 v1 v2 : Value) (a b c : List ByteArray) (w : World) (ha : SLie w v0 a) (hb : SLie w v1 b) (hc : SLie w v2 c) : Calls Tryd.prog 7 #[v0, v1, v2] w fun e w' => e = .returned (.bool true) ∧ Below w.heap.size w w' := by
  have H0 := hid ha
  have H1 := hid hb
  have H2 := hid hc
  clear ha hb hc
  have HSP := hid speaks_any
  have haa := lessS_irr a
  have F1 := hid (lessS_trans a b c)
  have F2 := hid (lessS_trans a b a)
  have F3 := hid (lessS_tri a b)
  have HT := hid (fun w (h : SLie w v0 a) (h' : SLie w v1 b) => texts_any v0 v1 a b w h h')
  cases hab : lessS a b with
  | true =>
    have hba : lessS b a = false := by
      cases h : lessS b a with
      | false => rfl
      | true => have := F2.out hab h; rw [haa] at this; cases this
    cases hbc : lessS b c with
    | true =>
      have hac := F1.out hab hbc
      clear F1 F2 F3 HT
      go_enter Tryd.func7, Tryd.ntmps7
      go_wp2_with (first
        | (go_at_call 19; refine (less_any _ _ _ _ _ (by with_reducible (first | exact H0.out | exact H1.out | exact H2.out)) (by with_reducible (first | exact H0.out | exact H1.out | exact H2.out))).mono ?_; rintro e w2 ⟨rfl, hw⟩; have hw := hw.symm; subst hw)
        | (go_at_call 16; refine (HSP.out _).mono ?_; rintro e w8 ⟨rfl, hb8⟩; have HB8 := hid hb8; clear hb8))
      go_ret
      exact ⟨rfl, HB8.out⟩
    | false =>
      clear F1 F2 F3 HT
      go_enter Tryd.func7, Tryd.ntmps7
      go_wp2_with (first
        | (go_at_call 19; refine (less_any _ _ _ _ _ (by with_reducible (first | exact H0.out | exact H1.out | exact H2.out)) (by with_reducible (first | exact H0.out | exact H1.out | exact H2.out))).mono ?_; rintro e w2 ⟨rfl, hw⟩; have hw := hw.symm; subst hw)
        | (go_at_call 16; refine (HSP.out _).mono ?_; rintro e w8 ⟨rfl, hb8⟩; have HB8 := hid hb8; clear hb8))
      go_ret
      exact ⟨rfl, HB8.out⟩
  | false =>
    cases hba : lessS b a with
    | true =>
      clear F1 F2 F3 HT
      go_enter Tryd.func7, Tryd.ntmps7
      go_wp2_with (first
        | (go_at_call 19; refine (less_any _ _ _ _ _ (by with_reducible (first | exact H0.out | exact H1.out | exact H2.out)) (by with_reducible (first | exact H0.out | exact H1.out | exact H2.out))).mono ?_; rintro e w2 ⟨rfl, hw⟩; have hw := hw.symm; subst hw)
        | (go_at_call 16; refine (HSP.out _).mono ?_; rintro e w8 ⟨rfl, hb8⟩; have HB8 := hid hb8; clear hb8))
      go_ret
      exact ⟨rfl, HB8.out⟩
    | false =>
      have e := F3.out hab hba
      have hs : sameS a b = true := (sameS_iff a b).2 e
      rw [hs] at HT
      have H0T := hid H0.out
      have H1T := hid H1.out
      clear e hs F1 F2 F3
      go_enter Tryd.func7, Tryd.ntmps7
      go_wp2_with (first
        | (go_at_call 19; have hk := HB1; clear hk; refine (less_any _ _ _ _ _ (by with_reducible (first | exact K0.out | exact K1.out | exact K2.out)) (by with_reducible (first | exact K0.out | exact K1.out | exact K2.out))).mono ?_; rintro e w2 ⟨rfl, hw⟩; have hw := hw.symm; subst hw)
        | (go_at_call 19; refine (less_any _ _ _ _ _ (by with_reducible (first | exact H0.out | exact H1.out | exact H2.out)) (by with_reducible (first | exact H0.out | exact H1.out | exact H2.out))).mono ?_; rintro e w2 ⟨rfl, hw⟩; have hw := hw.symm; subst hw)
        | (go_at_call 13; refine (HT.out _ H0.out H1.out).mono ?_; rintro e w1 ⟨rfl, hb1⟩; have HB1 := hid hb1; have K0 := hid (H0.out.below hb1); have K1 := hid (H1.out.below hb1); have K2 := hid (H2.out.below hb1); clear hb1)
        | (go_at_call 16; refine (HSP.out _).mono ?_; rintro e w8 ⟨rfl, hb8⟩; have HB8 := hid (below_next HB1.out hb8); clear hb8))
      go_ret
      exact ⟨rfl, HB8.out⟩
end Go.Proofs.YtbjdgehgbfcimaaDoor
