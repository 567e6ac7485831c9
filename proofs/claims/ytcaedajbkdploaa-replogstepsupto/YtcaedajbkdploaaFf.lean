import Derived.Test.YtcaedajbkdploaaFe
namespace Go.Proofs.Ytcaedajbkdploaa
open Go.RowKit Go.Maps

def S0 : ByteArray := { data := #[1, 2, 3, 2, 0, 0, 2, 47, 97, 0, 0] }
def S1 : ByteArray := { data := #[1, 2, 3, 2, 0, 0, 2, 47, 97, 0, 0, 120] }
theorem sp_enc (w : World) : Calls Try.prog 9 #[E0.v] w fun e w' => e = .returned (.tuple #[.string S0, .int .i64 0]) ∧ Below w.heap.size w w' := by
  have h := encode_ok E0 e0_rgt e0_ok w
  rw [e0_enc] at h
  exact h
theorem sp_dec (w : World) : Calls Try.prog 11 #[.string S1] w fun e w' => e = .returned (.tuple #[E0.v, .int .i64 11, .int .i64 0]) ∧ Below w.heap.size w w' := by
  have h := dec_back E0 e0_rgt e0_ok [120] (by rw [e0_enc]; decide) w
  rw [e0_enc] at h
  exact h
/-- a log that lies behind a bound -/
structure SL (B g : Nat) (w : World) (l : List Ent) : Prop where
  li : ∃ v, LI 78 B g w v l
  sz : B ≤ w.heap.size
theorem SL.new (w : World) : SL w.heap.size w.heap.size (w.alloc (.cells #[.slice none 0 0] 78)) [] := ⟨⟨_, LI.new 78 w _ (Nat.le_refl _)⟩, (below_alloc w _).size⟩
theorem SL.app {B g : Nat} {w : World} {l : List Ent} (h : SL B g w l) (x : Ent) : Calls Try.prog 15 #[.pointer (some ⟨g, 0, none⟩), x.v] w fun e w' => e = .returned (.tuple #[.int .i64 (apN l x), .int .i64 (apE l x)]) ∧ SL B g w' (apL l x) ∧ Below B w w' := by
  obtain ⟨v, hv⟩ := h.li
  refine (append_any x hv h.sz).mono fun e w' ⟨h1, v', h2, h3, h4⟩ => ⟨h1, ⟨⟨v', h2⟩, Nat.le_trans h.sz h3.size⟩, h3.below hv.gB (fun b hb => (hv.row.own b hb).1) h.sz⟩
theorem SL.ln {B g : Nat} {w : World} {l : List Ent} (h : SL B g w l) : LN (.pointer (some ⟨g, 0, none⟩)) w l := by
  obtain ⟨v, hv⟩ := h.li
  exact .inr ⟨B, g, v, rfl, hv⟩
theorem SL.below {B g : Nat} {w w' : World} {l : List Ent} (h : SL B g w l) (k : Below w.heap.size w w') : SL B g w' l := by
  obtain ⟨v, hv⟩ := h.li
  exact ⟨⟨v, hv.below k⟩, Nat.le_trans h.sz k.size⟩
set_option maxRecDepth 100000 in
set_option maxHeartbeats 2000000 in
theorem speaks_any (w : World) : Calls Try.prog 13 #[] w fun e w' => e = .returned (.bool true) ∧ Below w.heap.size w w' := by
  have HE : Hid (∀ w, Calls Try.prog 9 #[.agg #[.int .i64 1, .int .i64 2, .int .i64 3, .int .i64 1, .int .i64 0, .int .i64 0, .string { data := #[47, 97] }, .string { data := #[] }, .string { data := #[] }]] w fun e w' => e = .returned (.tuple #[.string S0, .int .i64 0]) ∧ Below w.heap.size w w') := hid sp_enc
  have HD : Hid (∀ w, Calls Try.prog 11 #[.string S1] w fun e w' => e = .returned (.tuple #[.agg #[.int .i64 1, .int .i64 2, .int .i64 3, .int .i64 1, .int .i64 0, .int .i64 0, .string { data := #[47, 97] }, .string { data := #[] }, .string { data := #[] }], .int .i64 11, .int .i64 0]) ∧ Below w.heap.size w w') := hid sp_dec
  have heq : ∀ w, (Op.equalIn 10000 25 (.agg #[.int .i64 1, .int .i64 2, .int .i64 3, .int .i64 1, .int .i64 0, .int .i64 0, .string { data := #[47, 97] }, .string { data := #[] }, .string { data := #[] }]) (.agg #[.int .i64 1, .int .i64 2, .int .i64 3, .int .i64 1, .int .i64 0, .int .i64 0, .string { data := #[47, 97] }, .string { data := #[] }, .string { data := #[] }])).run Try.prog w = .ok true w := fun w => (eqE E0 E0 w).trans (by rw [decide_eq_true rfl])
  have HB1 : Hid (bgs [E0, E0] [] = true) := hid (by decide)
  have HB2 : Hid (bgs [] [E0, E0] = false) := hid (by decide)
  have hcat := fun wx => Go.run_string_add_sum (P := Try.prog) (w := wx) S0 { data := #[120] } (by decide)
  have hsum : S0 ++ { data := #[120] } = S1 := by decide
  rw [hsum] at hcat
  have hs0 : S0.toList = [1, 2, 3, 2, 0, 0, 2, 47, 97, 0, 0] := by rw [ByteArray.toList_eq]; rfl
  obtain ⟨X, hX⟩ : ∃ X, X = S0 := ⟨_, rfl⟩
  obtain ⟨Y, hY⟩ : ∃ Y, Y = S1 := ⟨_, rfl⟩
  rw [← hX] at HE hcat hs0
  rw [← hY] at hcat HD
  clear hX hY hsum
  have HA1 : Hid (∀ B g w, SL B g w [] → Calls Try.prog 15 #[.pointer (some ⟨g, 0, none⟩), .agg #[.int .i64 1, .int .i64 2, .int .i64 3, .int .i64 1, .int .i64 0, .int .i64 0, .string { data := #[47, 97] }, .string { data := #[] }, .string { data := #[] }]] w fun e w' => e = .returned (.tuple #[.int .i64 1, .int .i64 0]) ∧ SL B g w' [E0] ∧ Below B w w') := hid fun B g w h => by
    have := h.app E0
    rw [e0_ap1.1, e0_ap1.2.1, e0_ap1.2.2] at this
    exact this
  have HA2 : Hid (∀ B g w, SL B g w [E0] → Calls Try.prog 15 #[.pointer (some ⟨g, 0, none⟩), .agg #[.int .i64 1, .int .i64 2, .int .i64 3, .int .i64 1, .int .i64 0, .int .i64 0, .string { data := #[47, 97] }, .string { data := #[] }, .string { data := #[] }]] w fun e w' => e = .returned (.tuple #[.int .i64 2, .int .i64 0]) ∧ SL B g w' [E0, E0] ∧ Below B w w') := hid fun B g w h => by
    have := h.app E0
    rw [e0_ap2.1, e0_ap2.2.1, e0_ap2.2.2] at this
    exact this
  have HX0 : Hid (∀ (w : World), Box w.heap.size (w.alloc (.cells #[.int .i64 1, .int .i64 2, .int .i64 3, .int .i64 1, .int .i64 0, .int .i64 0, .string { data := #[47, 97] }, .string { data := #[] }, .string { data := #[] }] 25)) E0) := hid fun w => box_at w _
  go_enter Try.func13, Try.ntmps13
  go_wp2_with (first
    | (go_at_call 9; refine (HE.out _).mono ?_; rintro e w1 ⟨rfl, b1⟩; have HQ1 := hid ((HX0.out w).below b1 (by simp)); have HL1 : Hid (Below w.heap.size w w1) := hid ((below_alloc w _).next b1); clear b1 HE)
    | (go_at_call 11; refine (HD.out _).mono ?_; rintro e w2 ⟨rfl, b2⟩; have HQ2 := hid ((HQ1.out.below b2 HQ1.out.lt).below (below_alloc w2 (.cells #[.int .i64 1, .int .i64 2, .int .i64 3, .int .i64 1, .int .i64 0, .int .i64 0, .string { data := #[47, 97] }, .string { data := #[] }, .string { data := #[] }] 25)) (Nat.lt_of_lt_of_le HQ1.out.lt b2.size)); have HR2 := hid (HX0.out w2); have HL2 : Hid (Below w.heap.size w (w2.alloc (.cells #[.int .i64 1, .int .i64 2, .int .i64 3, .int .i64 1, .int .i64 0, .int .i64 0, .string { data := #[47, 97] }, .string { data := #[] }, .string { data := #[] }] 25))) := hid ((HL1.out.next b2).next (below_alloc w2 _)); clear b2 HD HQ1 HL1)
    | (go_at_call 14; fail))
  obtain ⟨W2, hW2⟩ : ∃ W2, W2 = w2.alloc (.cells #[.int .i64 1, .int .i64 2, .int .i64 3, .int .i64 1, .int .i64 0, .int .i64 0, .string { data := #[47, 97] }, .string { data := #[] }, .string { data := #[] }] 25) := ⟨_, rfl⟩
  rw [← hW2] at HQ2 HR2 HL2 ⊢
  have HZ : Hid (w2.heap.size < W2.heap.size ∧ w.heap.size < W2.heap.size) := hid ⟨HR2.out.lt, HQ2.out.lt⟩
  clear hW2
  go_at_call 14
  refine (lnew_any _).mono ?_
  rintro e w3 ⟨rfl, hw3⟩
  have HS3 := hid (SL.new W2)
  have HQ3 := hid (HQ2.out.below (below_alloc W2 (.cells #[.slice none 0 0] 78)) HZ.out.2)
  have HR3 := hid (HR2.out.below (below_alloc W2 (.cells #[.slice none 0 0] 78)) HZ.out.1)
  have HL3 : Hid (Below w.heap.size w (W2.alloc (.cells #[.slice none 0 0] 78))) := hid (HL2.out.next (below_alloc W2 _))
  rw [← hw3] at HS3 HQ3 HR3 HL3
  clear hw3 HQ2 HR2
  obtain ⟨c0, c1, c2, c3, c4, c5, c6, c7, c8⟩ := Box.cells (V := 1) (C := 2) (R := 3) (K := 1) (A := 0) (N := 0) (p := { data := #[47, 97] }) (t := { data := #[] }) (d := { data := #[] }) HQ3.out
  go_wp2_with (go_at_call 15; fail)
  go_at_call 15
  refine (HA1.out _ _ _ HS3.out).mono ?_
  rintro e w4 ⟨rfl, hs4, hb4⟩
  have HS4 := hid hs4
  have HQ4 := hid (HQ3.out.below hb4 HZ.out.2)
  have HR4 := hid (HR3.out.below hb4 HZ.out.1)
  have HL4 : Hid (Below w.heap.size w w4) := hid (HL3.out.trans (hb4.mono HL2.out.size))
  clear hs4 hb4 HS3 HQ3 HR3 HL3 c0 c1 c2 c3 c4 c5 c6 c7 c8
  obtain ⟨c0, c1, c2, c3, c4, c5, c6, c7, c8⟩ := Box.cells (V := 1) (C := 2) (R := 3) (K := 1) (A := 0) (N := 0) (p := { data := #[47, 97] }) (t := { data := #[] }) (d := { data := #[] }) HQ4.out
  go_wp2_with (go_at_call 15; fail)
  go_at_call 15
  refine (HA2.out _ _ _ HS4.out).mono ?_
  rintro e w5 ⟨rfl, hs5, hb5⟩
  have HS5 := hid hs5
  have HQ5 := hid (HQ4.out.below hb5 HZ.out.2)
  have HR5 := hid (HR4.out.below hb5 HZ.out.1)
  have HL5 : Hid (Below w.heap.size w w5) := hid (HL4.out.trans (hb5.mono HL2.out.size))
  clear hs5 hb5 HS4 HQ4 HR4 HL4 c0 c1 c2 c3 c4 c5 c6 c7 c8
  obtain ⟨c0, c1, c2, c3, c4, c5, c6, c7, c8⟩ := Box.cells (V := 1) (C := 2) (R := 3) (K := 1) (A := 0) (N := 0) (p := { data := #[47, 97] }) (t := { data := #[] }) (d := { data := #[] }) HQ5.out
  obtain ⟨d0, d1, d2, d3, d4, d5, d6, d7, d8⟩ := Box.cells (V := 1) (C := 2) (R := 3) (K := 1) (A := 0) (N := 0) (p := { data := #[47, 97] }) (t := { data := #[] }) (d := { data := #[] }) HR5.out
  go_wp2_with (go_at_call 14; fail)
  go_at_call 14
  refine (lnew_any _).mono ?_
  rintro e w6 ⟨rfl, hw6⟩
  have HS6 := hid (HS5.out.below (below_alloc w5 (.cells #[.slice none 0 0] 78)))
  have HT6 := hid (SL.new w5)
  have HL6 : Hid (Below w.heap.size w (w5.alloc (.cells #[.slice none 0 0] 78))) := hid (HL5.out.next (below_alloc w5 _))
  rw [← hw6] at HS6 HT6 HL6
  clear hw6 HS5 HQ5 HR5 HL5 c0 c1 c2 c3 c4 c5 c6 c7 c8 d0 d1 d2 d3 d4 d5 d6 d7 d8
  go_wp2_with (go_at_call 28; fail)
  go_at_call 28
  refine (begins_any HS6.out.ln HT6.out.ln).mono ?_
  rintro e w7 ⟨rfl, n7, hw7⟩
  rw [HB1.out]
  have HS7 := hid (HS6.out.below (drewN_below w6 n7))
  have HL7 : Hid (Below w.heap.size w (w6.drewN n7)) := hid (HL6.out.next (drewN_below _ _))
  rw [← hw7] at HS7 HL7
  clear hw7 HS6 HT6 HL6
  go_wp2_with (go_at_call 14; fail)
  go_at_call 14
  refine (lnew_any _).mono ?_
  rintro e w8 ⟨rfl, hw8⟩
  have HS8 := hid (HS7.out.below (below_alloc w7 (.cells #[.slice none 0 0] 78)))
  have HT8 := hid (SL.new w7)
  have HL8 : Hid (Below w.heap.size w (w7.alloc (.cells #[.slice none 0 0] 78))) := hid (HL7.out.next (below_alloc w7 _))
  rw [← hw8] at HS8 HT8 HL8
  clear hw8 HS7 HL7
  go_wp2_with (go_at_call 28; fail)
  go_at_call 28
  refine (begins_any HT8.out.ln HS8.out.ln).mono ?_
  rintro e w9 ⟨rfl, n9, hw9⟩
  rw [HB2.out]
  have HL9 : Hid (Below w.heap.size w (w8.drewN n9)) := hid (HL8.out.next (drewN_below _ _))
  rw [← hw9] at HL9
  clear hw9 HS8 HT8 HL8
  go_wp2
  go_ret
  exact ⟨rfl, HL9.out⟩
end Go.Proofs.Ytcaedajbkdploaa
