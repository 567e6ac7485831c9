import Derived.Test.YtbcnnolidhggnaaSd
import Derived.Test.YtbcnnolidhggnaaUb
namespace Go.Proofs.Ytbcnnolidhggnaa
open Go.RowKit

def endV (s : ByteArray) (e : Int) : Int := if e ≠ 0 then e else if s.size = 0 then 0 else 4
theorem end_r (g : Nat) (s : ByteArray) (e : Int) (w : World) (h : RIs g w s e) : Calls Try.prog 28 #[.pointer (some ⟨g, 0, none⟩)] w fun x w' => x = .returned (.int .i64 (endV s e)) ∧ w' = w := by
  have h0 := h.c0
  have h1 := h.c1
  by_cases he : e = 0
  · subst he
    by_cases hs : s.size = 0
    · have hl : s = ByteArray.empty := by
        apply ByteArray.ext; exact Array.eq_empty_of_size_eq_zero hs
      subst hl
      go_enter Try.func28, Try.ntmps28
      go_wp2
      go_ret
      exact ⟨rfl, rfl⟩
    · have hl : s.toList.isEmpty = false := by
        rw [Lib.toList_data]
        cases hq : s.data.toList with
        | nil => exact absurd (by have := congrArg List.length hq; simpa using this) hs
        | cons a t => rfl
      have hv : endV s 0 = 4 := by unfold endV; rw [if_neg (by decide), if_neg hs]
      rw [hv]
      go_enter Try.func28, Try.ntmps28
      go_wp2
      go_ret
      exact ⟨rfl, rfl⟩
  · have he' : (e != 0) = true := by simp [he]
    have hv : endV s e = e := by unfold endV; rw [if_pos he]
    rw [hv]
    clear he hv
    go_enter Try.func28, Try.ntmps28
    go_wp2
    go_ret
    exact ⟨rfl, rfl⟩
/-- a number of two bytes, read: the number, what is left, what is wrong -/
def fxN (s : ByteArray) (e : Int) : Nat := if e ≠ 0 then 0 else if s.size < 2 then 0 else fval (s.data.toList.take 2)
def fxS (s : ByteArray) (e : Int) : ByteArray := if e ≠ 0 then s else if s.size < 2 then s else s.extract 2 s.size
def fxE (s : ByteArray) (e : Int) : Int := if e ≠ 0 then e else if s.size < 2 then 20 else 0
theorem fval2_lt (l : List UInt8) : fval (l.take 2) < 65536 := by
  rw [fval_big]; exact big2_lt l
theorem fix2_r (g : Nat) (s : ByteArray) (e : Int) (hs : s.size ≤ maxLen) (w : World) (h : RIs g w s e) :
    Calls Try.prog 27 #[.pointer (some ⟨g, 0, none⟩), .int .i64 2] w fun x w' => (∃ y, x = .returned (.tuple #[.int .i64 (fxN s e), .int .i64 y])) ∧ RIs g w' (fxS s e) (fxE s e) ∧ Kept w.heap.size g w w' := by
  unfold fxN fxS fxE
  by_cases he : e ≠ 0
  · rw [if_pos he, if_pos he, if_pos he]
    exact (fixedr_err g s e 2 (by decide) w h he).mono fun x w' k => ⟨⟨_, k.1⟩, by rw [k.2]; exact h, by rw [k.2]; exact Kept.refl _ _ _⟩
  · rw [if_neg he, if_neg he, if_neg he]
    have he : e = 0 := by omega
    subst he
    by_cases h2 : s.size < 2
    · rw [if_pos h2, if_pos h2, if_pos h2]
      exact (fixedr_cut g s 2 (by decide) h2 (by decide) w h).mono fun x w' k => ⟨⟨_, k.1⟩, k.2⟩
    · rw [if_neg h2, if_neg h2, if_neg h2]
      exact (fixedr_ok g s 2 (by decide) (by omega) (by decide) hs (by have := fval2_lt s.data.toList; omega) w h).mono fun x w' k => ⟨⟨_, k.1⟩, k.2⟩
def cartS : ByteArray := { data := #[99, 97, 114, 116] }
def isCart (t : ByteArray) : Prop := t.data.toList.take 4 = [99, 97, 114, 116]
theorem isCart_len {t : ByteArray} (h : isCart t) : 4 ≤ t.size := by
  have := congrArg List.length h
  rw [List.length_take, len_list] at this
  simp at this
  omega
theorem isCart_ext {t : ByteArray} : isCart t ↔ t.extract 0 4 = cartS := by
  unfold isCart
  constructor
  · intro h
    apply ByteArray.ext
    apply Array.toList_inj.1
    rw [ext_head, h]; rfl
  · intro h
    rw [← ext_head, h]; rfl
theorem ret_bool {a b : Bool} (h : a = b) : Ending.returned (.bool a) = .returned (.bool b) := by rw [h]
theorem has_yes (t : ByteArray) (hs : t.size ≤ maxLen) (h : isCart t) (w : World) : Calls Try.prog 45 #[.string t, .string cartS] w fun e w' => e = .returned (.bool true) ∧ w' = w := by
  have h4 := isCart_len h
  unfold maxLen at hs
  have HX := hid (isCart_ext.1 h)
  clear h
  have hcs : cartS.size = 4 := rfl
  go_enter Try.func45, Try.ntmps45
  go_wp2
  go_ret
  exact ⟨ret_bool (by rw [HX.out]; simp), rfl⟩
theorem has_no (t : ByteArray) (hs : t.size ≤ maxLen) (h : ¬ isCart t) (w : World) : Calls Try.prog 45 #[.string t, .string cartS] w fun e w' => e = .returned (.bool false) ∧ w' = w := by
  unfold maxLen at hs
  have hcs : cartS.size = 4 := rfl
  by_cases h4 : 4 ≤ t.size
  · have HX := hid (str_ne (fun hh => h (isCart_ext.2 hh)))
    clear h
    go_enter Try.func45, Try.ntmps45
    go_wp2
    go_ret
    exact ⟨ret_bool HX.out, rfl⟩
  · clear h
    go_enter Try.func45, Try.ntmps45
    go_wp2
    go_ret
    exact ⟨rfl, rfl⟩
theorem cut37_yes (t : ByteArray) (hs : t.size ≤ maxLen) (h : isCart t) (w : World) : Calls Try.prog 37 #[.string t, .string cartS] w fun e w' => e = .returned (.tuple #[.string (t.extract 4 t.size), .bool true]) ∧ w' = w := by
  have HH := hid (fun w => has_yes t hs h w)
  have h4 := isCart_len h
  unfold maxLen at hs
  have hcs : cartS.size = 4 := rfl
  clear h
  go_enter Try.func37, Try.ntmps37
  go_wp2_with (first | (go_at_call 45; refine (HH.out _).mono ?_; rintro e w1 ⟨rfl, hw⟩; have hw := hw.symm; subst hw))
  go_ret2
  exact ⟨rfl, rfl⟩
theorem cut37_no (t : ByteArray) (hs : t.size ≤ maxLen) (h : ¬ isCart t) (w : World) : Calls Try.prog 37 #[.string t, .string cartS] w fun e w' => e = .returned (.tuple #[.string t, .bool false]) ∧ w' = w := by
  have HH := hid (fun w => has_no t hs h w)
  clear h
  go_enter Try.func37, Try.ntmps37
  go_wp2_with (first | (go_at_call 45; refine (HH.out _).mono ?_; rintro e w1 ⟨rfl, hw⟩; have hw := hw.symm; subst hw))
  go_ret2
  exact ⟨rfl, rfl⟩
theorem cut_yes (t : ByteArray) (hs : t.size ≤ maxLen) (h : isCart t) (w : World) : Calls Try.prog 25 #[.string t, .string cartS] w fun e w' => e = .returned (.tuple #[.string (t.extract 4 t.size), .bool true]) ∧ w' = w := by
  have HH := hid (fun w => cut37_yes t hs h w)
  clear h
  go_enter Try.func25, Try.ntmps25
  go_wp2_with (first | (go_at_call 37; refine (HH.out _).mono ?_; rintro e w1 ⟨rfl, hw⟩; have hw := hw.symm; subst hw))
  go_ret2
  exact ⟨rfl, rfl⟩
theorem cut_no (t : ByteArray) (hs : t.size ≤ maxLen) (h : ¬ isCart t) (w : World) : Calls Try.prog 25 #[.string t, .string cartS] w fun e w' => e = .returned (.tuple #[.string t, .bool false]) ∧ w' = w := by
  have HH := hid (fun w => cut37_no t hs h w)
  clear h
  go_enter Try.func25, Try.ntmps25
  go_wp2_with (first | (go_at_call 37; refine (HH.out _).mono ?_; rintro e w1 ⟨rfl, hw⟩; have hw := hw.symm; subst hw))
  go_ret2
  exact ⟨rfl, rfl⟩
/-- the numbers that stand in six bytes -/
theorem nums6 (n : ByteArray) : endV (fxS (fxS (fxS n 0) (fxE n 0)) (fxE (fxS n 0) (fxE n 0))) (fxE (fxS (fxS n 0) (fxE n 0)) (fxE (fxS n 0) (fxE n 0))) = 0 →
    n.data.toList = fEnc (fxN n 0) 2 ++ fEnc (fxN (fxS n 0) (fxE n 0)) 2 ++ fEnc (fxN (fxS (fxS n 0) (fxE n 0)) (fxE (fxS n 0) (fxE n 0))) 2 ∧ fxN n 0 < 65536 ∧ fxN (fxS n 0) (fxE n 0) < 65536 ∧ fxN (fxS (fxS n 0) (fxE n 0)) (fxE (fxS n 0) (fxE n 0)) < 65536 := by
  have key : ∀ (s : ByteArray), ¬ s.size < 2 → fxE s 0 = 0 ∧ fxS s 0 = s.extract 2 s.size ∧ s.data.toList = fEnc (fxN s 0) 2 ++ (fxS s 0).data.toList ∧ fxN s 0 < 65536 := by
    intro s hs
    have e1 : fxE s 0 = 0 := by unfold fxE; rw [if_neg (by decide), if_neg hs]
    have e2 : fxS s 0 = s.extract 2 s.size := by unfold fxS; rw [if_neg (by decide), if_neg hs]
    have e3 : fxN s 0 = fval (s.data.toList.take 2) := by unfold fxN; rw [if_neg (by decide), if_neg hs]
    refine ⟨e1, e2, ?_, by rw [e3]; exact fval2_lt _⟩
    have hl := len_list s
    have e4 := fEnc_big (s.data.toList.take 2)
    rw [List.length_take, Nat.min_eq_left (by omega), ← fval_big, ← e3] at e4
    have e5 : s.data.toList.take s.size = s.data.toList := List.take_of_length_le (by omega)
    rw [e4, e2, ext_list, e5, List.take_append_drop]
  have bad : ∀ (s : ByteArray) (e : Int), e ≠ 0 → fxE s e = e := fun s e he => by unfold fxE; rw [if_pos he]
  have cut : ∀ (s : ByteArray), s.size < 2 → fxE s 0 = 20 := fun s hs => by unfold fxE; rw [if_neg (by decide), if_pos hs]
  have endb : ∀ (s : ByteArray) (e : Int), e ≠ 0 → endV s e ≠ 0 := fun s e he => by unfold endV; rw [if_pos he]; exact he
  intro h
  by_cases h1 : n.size < 2
  · exfalso
    have c1 := cut n h1
    have c2 := bad (fxS n 0) (fxE n 0) (by rw [c1]; decide)
    have c3 := bad (fxS (fxS n 0) (fxE n 0)) (fxE (fxS n 0) (fxE n 0)) (by rw [c2, c1]; decide)
    exact endb _ _ (by rw [c3, c2, c1]; decide) h
  · obtain ⟨a1, a2, a3, a4⟩ := key n h1
    rw [a1] at h ⊢
    by_cases h2 : (fxS n 0).size < 2
    · exfalso
      have c1 := cut _ h2
      have c2 := bad (fxS (fxS n 0) 0) (fxE (fxS n 0) 0) (by rw [c1]; decide)
      exact endb _ _ (by rw [c2, c1]; decide) h
    · obtain ⟨b1, b2, b3, b4⟩ := key _ h2
      rw [b1] at h ⊢
      by_cases h3 : (fxS (fxS n 0) 0).size < 2
      · exfalso
        have c1 := cut _ h3
        exact endb _ _ (by rw [c1]; decide) h
      · obtain ⟨d1, d2, d3, d4⟩ := key _ h3
        rw [d1] at h
        have hz : (fxS (fxS (fxS n 0) 0) 0).size = 0 := by
          unfold endV at h
          rw [if_neg (by decide)] at h
          by_cases hz : (fxS (fxS (fxS n 0) 0) 0).size = 0
          · exact hz
          · rw [if_neg hz] at h; exact absurd h (by decide)
        have hzl : (fxS (fxS (fxS n 0) 0) 0).data.toList = [] := List.eq_nil_of_length_eq_zero (by rw [len_list]; exact hz)
        rw [hzl, List.append_nil] at d3
        refine ⟨?_, a4, b4, d4⟩
        rw [← d3, List.append_assoc, ← b3, ← a3]
/-- and there and back -/
theorem nums_of (x y z : Nat) (hx : x < 65536) (hy : y < 65536) (hz : z < 65536) (n : ByteArray) (h : n.data.toList = fEnc x 2 ++ fEnc y 2 ++ fEnc z 2) :
    endV (fxS (fxS (fxS n 0) (fxE n 0)) (fxE (fxS n 0) (fxE n 0))) (fxE (fxS (fxS n 0) (fxE n 0)) (fxE (fxS n 0) (fxE n 0))) = 0 ∧ fxN n 0 = x ∧ fxN (fxS n 0) (fxE n 0) = y ∧ fxN (fxS (fxS n 0) (fxE n 0)) (fxE (fxS n 0) (fxE n 0)) = z := by
  have key : ∀ (s : ByteArray) (x : Nat) (r : List UInt8), x < 65536 → s.data.toList = fEnc x 2 ++ r → fxE s 0 = 0 ∧ (fxS s 0).data.toList = r ∧ fxN s 0 = x := by
    intro s x r hx hs
    have hl := len_list s
    have hf := fEnc_len 2 x
    have hsz : ¬ s.size < 2 := by rw [← hl, hs, List.length_append, hf]; omega
    have ht : s.data.toList.take 2 = fEnc x 2 := by
      have := List.take_left (l₁ := fEnc x 2) (l₂ := r)
      rw [hf] at this
      rw [hs, this]
    have hd : s.data.toList.drop 2 = r := by
      have := List.drop_left (l₁ := fEnc x 2) (l₂ := r)
      rw [hf] at this
      rw [hs, this]
    refine ⟨by unfold fxE; rw [if_neg (by decide), if_neg hsz], ?_, ?_⟩
    · unfold fxS; rw [if_neg (by decide), if_neg hsz, ext_list, List.take_of_length_le (l := s.data.toList) (by omega), hd]
    · unfold fxN; rw [if_neg (by decide), if_neg hsz, ht, fval_big, big_fEnc 2 _ (by omega)]
  obtain ⟨a1, a2, a3⟩ := key n x (fEnc y 2 ++ fEnc z 2) hx (by rw [h, List.append_assoc])
  rw [a1]
  obtain ⟨b1, b2, b3⟩ := key (fxS n 0) y (fEnc z 2) hy a2
  rw [b1]
  obtain ⟨c1, c2, c3⟩ := key (fxS (fxS n 0) 0) z [] hz (by rw [b2, List.append_nil])
  rw [c1]
  refine ⟨?_, a3, b3, c3⟩
  unfold endV
  rw [if_neg (by decide), if_pos]
  rw [← len_list, c2]; rfl
end Go.Proofs.Ytbcnnolidhggnaa
