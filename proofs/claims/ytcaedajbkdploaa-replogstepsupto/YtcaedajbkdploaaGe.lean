import Derived.Test.YtcaedajbkdploaaGd
import Derived.Test.YtcaedajbkdploaaFf
namespace Go.Proofs.Ytcaedajbkdploaa
open Go.RowKit Go.Maps

theorem one_lie (w : World) (x : Ent) : ELie (w.alloc (.cells x.cs.toArray 25)) (.slice (some ⟨w.heap.size, 0, none⟩) 1 1) [x] := by
  refine ⟨_, 1, rfl, Nat.le_refl _, by decide, fun i hi => ⟨w.heap.size, 0, rfl, by simp, ?_⟩⟩
  have hi0 : i = 0 := by simpa using hi
  subst hi0
  have hb : Box w.heap.size (w.alloc (.cells x.cs.toArray 25)) x := box_at w _
  obtain ⟨V, C, R, K, A, N, p, t, d⟩ := x
  exact hb.cells
theorem nil_rep (x : Ent) (n : Int) (b : Bool) (hb : rgt x = b) (w : World) (u : Value) (hu : ELie w u [x]) : Calls Try.prog 17 #[.pointer none, .int .i64 n, u] w fun e w' => e = .returned (.int .i64 (if n ≠ 0 then 1 else if b then 7 else 4)) ∧ Below w.heap.size w w' := by
  have hnil : LN (.pointer none) w [] := .inl ⟨rfl, rfl⟩
  by_cases hn : n = 0
  · subst hn
    cases b with
    | false => exact replace_form 0 u hnil hu (Nat.le_refl _) (by simp [hb])
    | true => exact replace_nil_state u hu (by simp) (by simp [hb]) (by have := (rgt_parts hb).1.1; simp [fallB]; omega)
  · rw [if_pos hn]
    exact (replace_arg n u hnil (by simp; omega)).mono fun e w' ⟨h1, h2⟩ => ⟨h1, by rw [h2]; exact Below.refl _ _⟩
theorem nil_app (x : Ent) (b : Bool) (hb : rgt x = b) (w : World) : Calls Try.prog 15 #[.pointer none, x.v] w fun e w' => e = .returned (.tuple #[.int .i64 0, .int .i64 (if b then 5 else 4)]) ∧ Below w.heap.size w w' := by
  cases b with
  | false => exact append_nil_no x hb w
  | true => exact append_nil_ok x hb w
theorem nil_get (n : Int) (w : World) : Calls Try.prog 19 #[.pointer none, .int .i64 n] w fun e w' => e = .returned (.tuple #[Ent.zero.v, .int .i64 6]) ∧ Below w.heap.size w w' := get_no n (.inl ⟨rfl, rfl⟩) (by simp; omega)
theorem nil_from (n : Int) (hn : i64B n) (w : World) : Calls Try.prog 25 #[.pointer none, .int .i64 n, .int .i64 9] w fun e w' => ∃ ao cap, e = .returned (.slice ao 0 cap) ∧ Below w.heap.size w w' := by
  refine (from_any n 9 hn ⟨by decide, by decide⟩ (.inl ⟨rfl, rfl⟩)).mono ?_
  rintro e w' ⟨v', rfl, hr, hb⟩
  obtain ⟨ao, cap, rfl, _⟩ := hr.len
  exact ⟨ao, cap, by simp [fromL], hb⟩
theorem nil_begins (w : World) (q : Value) (h : LN q w []) : Calls Try.prog 28 #[.pointer none, q] w fun e w' => e = .returned (.bool true) ∧ ∃ n, w' = w.drewN n := by
  exact begins_any (.inl ⟨rfl, rfl⟩) h
set_option maxRecDepth 100000 in
set_option maxHeartbeats 2000000 in
theorem nil_go (x : Ent) (n : Int) (hn : i64B n) (b z : Bool) (hb : rgt x = b) (hz : decide (n ≠ 0) = z) (w : World) : Calls Try.prog 7 #[x.v, .int .i64 n] w fun e w' => e = .returned (.bool true) ∧ Below w.heap.size w w' := by
  have HAP := hid (nil_app x b hb)
  have HG := hid (nil_get n)
  have HR := hid (right_any x)
  rw [hb] at HR
  have HF := hid (nil_from n hn)
  have HP := hid (nil_rep x n b hb)
  have HP0 := hid replace_nil_ok
  have HBG := hid nil_begins
  have HS := hid speaks_any
  have HX0 : Hid (Box w.heap.size (w.alloc (.cells x.cs.toArray 25)) x) := hid (box_at w _)
  have HO := hid (fun w => one_lie w x)
  have hz' : (n != 0) = z := by rw [← hz]; by_cases h : n = 0 <;> simp [h]
  have hsel : (if n ≠ 0 then (1 : Int) else if b then 7 else 4) = if z then 1 else if b then 7 else 4 := by rw [← hz]; by_cases h : n = 0 <;> simp [h]
  rw [hsel] at HP
  clear hsel hz hb hn
  obtain ⟨V, C, R, K, A, N, p, t, d⟩ := x
  simp only [Ent.v, Ent.cs] at HAP HR HP HX0 HO ⊢
  have HG2 : Hid (∀ w, Calls Try.prog 19 #[.pointer none, .int .i64 n] w fun e w' => e = .returned (.tuple #[.agg #[.int .i64 0, .int .i64 0, .int .i64 0, .int .i64 0, .int .i64 0, .int .i64 0, .string ⟨#[]⟩, .string ⟨#[]⟩, .string ⟨#[]⟩], .int .i64 6]) ∧ Below w.heap.size w w') := HG
  clear HG
  cases b <;> cases z
  all_goals
    simp only [if_true, if_false, Bool.false_eq_true] at HAP HP
    go_enter Try.func7, Try.ntmps7
    go_wp2_with (first
      | (go_at_call 15; refine (HAP.out _).mono ?_; rintro e w1 ⟨rfl, b1⟩; have HX1 := hid (HX0.out.below b1 (by simp)); have HL1 : Hid (Below w.heap.size w w1) := hid ((below_alloc w _).next b1); clear b1)
      | (go_at_call 19; refine (HG2.out _).mono ?_; rintro e w2 ⟨rfl, b2⟩; have HX2 := hid ((HX1.out.below b2 HX1.out.lt).below (below_alloc w2 (.cells #[.int .i64 0, .int .i64 0, .int .i64 0, .int .i64 0, .int .i64 0, .int .i64 0, .string ⟨#[]⟩, .string ⟨#[]⟩, .string ⟨#[]⟩] 25)) (Nat.lt_of_lt_of_le HX1.out.lt b2.size)); have HL2 : Hid (Below w.heap.size w (w2.alloc (.cells #[.int .i64 0, .int .i64 0, .int .i64 0, .int .i64 0, .int .i64 0, .int .i64 0, .string ⟨#[]⟩, .string ⟨#[]⟩, .string ⟨#[]⟩] 25))) := hid ((HL1.out.next b2).next (below_alloc w2 _)); have hq2 : w.heap.size < w2.heap.size := Nat.lt_of_lt_of_le HX1.out.lt b2.size; obtain ⟨c0, c1, c2, c3, c4, c5, c6, c7, c8⟩ := (HX1.out.below b2 HX1.out.lt).cells; clear b2)
      | (go_at_call 30; refine (HR.out _).mono ?_; rintro e w3 ⟨rfl, b3⟩; have HX3 := hid (HX2.out.below b3 HX2.out.lt); have HL3 : Hid (Below w.heap.size w w3) := hid (HL2.out.next b3); clear b3 c0 c1 c2 c3 c4 c5 c6 c7 c8)
      | (go_at_call 21; refine (len_nil _).mono ?_; rintro e w4 ⟨rfl, hw⟩; subst hw)
      | (go_at_call 22; refine (view_nil _).mono ?_; rintro e w4 ⟨rfl, hw⟩; subst hw)
      | (go_at_call 25; refine (HF.out _).mono ?_; rintro e w5 ⟨ao, cap, rfl, b5⟩; have HX5 := hid (HX3.out.below b5 HX3.out.lt); have HL5 : Hid (Below w.heap.size w w5) := hid (HL3.out.next b5); clear b5; obtain ⟨c0, c1, c2, c3, c4, c5, c6, c7, c8⟩ := HX5.out.cells)
      | (go_at_call 17; have hk := HP; clear hk; refine (HP.out _ _ (HO.out w5)).mono ?_; rintro e w6 ⟨rfl, b6⟩; have HL6 : Hid (Below w.heap.size w w6) := hid ((HL5.out.next (below_alloc w5 _)).next b6); clear b6 HP)
      | (go_at_call 17; refine (HP0.out _).mono ?_; rintro e w7 ⟨rfl, b7⟩; have HL7 : Hid (Below w.heap.size w w7) := hid (HL6.out.next b7); clear b7)
      | (go_at_call 14; refine (lnew_any _).mono ?_; rintro e w8 ⟨rfl, hw8⟩; have HL8 : Hid (Below w.heap.size w (w7.alloc (.cells #[.slice none 0 0] 78))) := hid (HL7.out.next (below_alloc w7 _)); have HT8 := hid (SL.new w7); rw [← hw8] at HL8 HT8; clear hw8)
      | (go_at_call 28; refine (HBG.out _ _ HT8.out.ln).mono ?_; rintro e w9 ⟨rfl, n9, hw9⟩; have HL9 : Hid (Below w.heap.size w (w8.drewN n9)) := hid (HL8.out.next (drewN_below _ _)); rw [← hw9] at HL9; clear hw9)
      | (go_at_call 13; refine (HS.out _).mono ?_; rintro e w10 ⟨rfl, b10⟩))
    go_ret
    exact ⟨rfl, HL9.out.next b10⟩
theorem nil_walk (x : Ent) (n : Int) (hn : i64B n) (w : World) : Calls Try.prog 7 #[x.v, .int .i64 n] w fun e w' => e = .returned (.bool true) ∧ Below w.heap.size w w' := nil_go x n hn _ _ rfl rfl w
end Go.Proofs.Ytcaedajbkdploaa
