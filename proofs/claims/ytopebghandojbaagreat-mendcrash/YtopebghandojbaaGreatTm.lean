import Derived.Test.YtopebghandojbaaGreatTf
namespace Go.Proofs.YtopebghandojbaaGreat
open Go.RowKit

def endV (s : ByteArray) (e : Int) : Int := if e ≠ 0 then e else if s.size = 0 then 0 else 4
theorem end_r (g : Nat) (s : ByteArray) (e : Int) (w : World) (h : RIs g w s e) : Calls Tryz.prog 98 #[.pointer (some ⟨g, 0, none⟩)] w fun x w' => x = .returned (.int .i64 (endV s e)) ∧ w' = w := by
  have h0 := h.c0
  have h1 := h.c1
  by_cases he : e = 0
  · subst he
    by_cases hs : s.size = 0
    · have hl : s = ByteArray.empty := by
        apply ByteArray.ext; exact Array.eq_empty_of_size_eq_zero hs
      subst hl
      go_enter Tryz.func98, Tryz.ntmps98
      go_wp2
      go_ret
      exact ⟨rfl, rfl⟩
    · have hl : s.toList.isEmpty = false := by
        rw [Lib.toList_data]
        cases hq : s.data.toList with
        | nil => exact absurd (by have := congrArg List.length hq; simpa using this) hs
        | cons a t => rfl
      have hv : endV s 0 = 4 := by unfold endV; rw [if_neg (by decide), if_neg hs]
      rw [hv]
      go_enter Tryz.func98, Tryz.ntmps98
      go_wp2
      go_ret
      exact ⟨rfl, rfl⟩
  · have he' : (e != 0) = true := by simp [he]
    have hv : endV s e = e := by unfold endV; rw [if_pos he]
    rw [hv]
    clear he hv
    go_enter Tryz.func98, Tryz.ntmps98
    go_wp2
    go_ret
    exact ⟨rfl, rfl⟩
/-- a number of k bytes, read: the number, what is left, what is wrong -/
def fxN (k : Nat) (s : ByteArray) (e : Int) : Nat := if e ≠ 0 then 0 else if s.size < k then 0 else if fval (s.data.toList.take k) < 9223372036854775808 then fval (s.data.toList.take k) else 0
def fxS (k : Nat) (s : ByteArray) (e : Int) : ByteArray := if e ≠ 0 then s else if s.size < k then s else if fval (s.data.toList.take k) < 9223372036854775808 then s.extract k s.size else s
def fxE (k : Nat) (s : ByteArray) (e : Int) : Int := if e ≠ 0 then e else if s.size < k then 20 else if fval (s.data.toList.take k) < 9223372036854775808 then 0 else 4
theorem fix_r (k : Nat) (hk : sized k = true) (hk8 : k ≤ 8) (g : Nat) (s : ByteArray) (e : Int) (hs : s.size ≤ maxLen) (w : World) (h : RIs g w s e) :
    Calls Tryz.prog 97 #[.pointer (some ⟨g, 0, none⟩), .int .i64 k] w fun x w' => (∃ y, x = .returned (.tuple #[.int .i64 (fxN k s e), .int .i64 y])) ∧ RIs g w' (fxS k s e) (fxE k s e) ∧ Kept w.heap.size g w w' := by
  unfold fxN fxS fxE
  by_cases he : e ≠ 0
  · rw [if_pos he, if_pos he, if_pos he]
    exact (fixedr_err g s e k hk w h he).mono fun x w' k => ⟨⟨_, k.1⟩, by rw [k.2]; exact h, by rw [k.2]; exact Kept.refl _ _ _⟩
  · rw [if_neg he, if_neg he, if_neg he]
    have he : e = 0 := by omega
    subst he
    by_cases h2 : s.size < k
    · rw [if_pos h2, if_pos h2, if_pos h2]
      exact (fixedr_cut g s k hk h2 hk8 w h).mono fun x w' k => ⟨⟨_, k.1⟩, k.2⟩
    · rw [if_neg h2, if_neg h2, if_neg h2]
      by_cases h3 : fval (s.data.toList.take k) < 9223372036854775808
      · rw [if_pos h3, if_pos h3, if_pos h3]
        exact (fixedr_ok g s k hk (by omega) hk8 hs h3 w h).mono fun x w' k => ⟨⟨_, k.1⟩, k.2⟩
      · rw [if_neg h3, if_neg h3, if_neg h3]
        exact (fixedr_form g s k hk (by omega) hk8 hs h3 w h).mono fun x w' k => ⟨⟨_, k.1⟩, k.2⟩
theorem fxS_size (k : Nat) (s : ByteArray) (e : Int) : (fxS k s e).size ≤ s.size := by
  unfold fxS
  split
  · exact Nat.le_refl _
  · split
    · exact Nat.le_refl _
    · split
      · rw [ByteArray.size_extract]; omega
      · exact Nat.le_refl _
/-- a reading that went well -/
theorem fx_back (k : Nat) {s : ByteArray} {e : Int} (h : fxE k s e = 0) : e = 0 ∧ s.data.toList = fEnc (fxN k s e) k ++ (fxS k s e).data.toList ∧ fxN k s e < 256 ^ k ∧ fxN k s e < 9223372036854775808 := by
  unfold fxE at h
  by_cases he : e ≠ 0
  · rw [if_pos he] at h; exact absurd h he
  · rw [if_neg he] at h
    have he : e = 0 := by omega
    subst he
    by_cases h2 : s.size < k
    · rw [if_pos h2] at h; exact absurd h (by decide)
    · rw [if_neg h2] at h
      by_cases h3 : fval (s.data.toList.take k) < 9223372036854775808
      · have e2 : fxS k s 0 = s.extract k s.size := by unfold fxS; rw [if_neg (by decide), if_neg h2, if_pos h3]
        have e3 : fxN k s 0 = fval (s.data.toList.take k) := by unfold fxN; rw [if_neg (by decide), if_neg h2, if_pos h3]
        have hl := len_list s
        have htl : (s.data.toList.take k).length = k := by rw [List.length_take]; omega
        have e4 := fEnc_big (s.data.toList.take k)
        rw [htl, ← fval_big, ← e3] at e4
        have e5 : s.data.toList.take s.size = s.data.toList := List.take_of_length_le (by omega)
        refine ⟨rfl, by rw [e4, e2, ext_list, e5, List.take_append_drop], ?_, by rw [e3]; exact h3⟩
        have := fval_lt (s.data.toList.take k)
        rw [htl] at this
        rw [e3]; exact this
      · rw [if_neg h3] at h; exact absurd h (by decide)
theorem fx_of (k : Nat) {s : ByteArray} {n : Nat} {r : List UInt8} (hn : n < 256 ^ k) (hn2 : n < 9223372036854775808) (hs : s.data.toList = fEnc n k ++ r) : fxE k s 0 = 0 ∧ (fxS k s 0).data.toList = r ∧ fxN k s 0 = n := by
  have hl := len_list s
  have hf := fEnc_len k n
  have hsz : ¬ s.size < k := by rw [← hl, hs, List.length_append, hf]; omega
  have ht : s.data.toList.take k = fEnc n k := by
    have := List.take_left (l₁ := fEnc n k) (l₂ := r)
    rw [hf] at this
    rw [hs, this]
  have hd : s.data.toList.drop k = r := by
    have := List.drop_left (l₁ := fEnc n k) (l₂ := r)
    rw [hf] at this
    rw [hs, this]
  have hv : fval (s.data.toList.take k) = n := by rw [ht, fval_big, big_fEnc k _ hn]
  have h3 : fval (s.data.toList.take k) < 9223372036854775808 := by omega
  refine ⟨by unfold fxE; rw [if_neg (by decide), if_neg hsz, if_pos h3], ?_, ?_⟩
  · unfold fxS; rw [if_neg (by decide), if_neg hsz, if_pos h3, ext_list, List.take_of_length_le (l := s.data.toList) (by omega), hd]
  · unfold fxN; rw [if_neg (by decide), if_neg hsz, if_pos h3, hv]
def tS : ByteArray := { data := #[84] }
def isT (t : ByteArray) : Prop := t.data.toList.take 1 = [84]
theorem isT_len {t : ByteArray} (h : isT t) : 1 ≤ t.size := by
  have := congrArg List.length h
  rw [List.length_take, len_list] at this
  simp at this
  omega
theorem isT_ext {t : ByteArray} : isT t ↔ t.extract 0 1 = tS := by
  unfold isT
  constructor
  · intro h
    apply ByteArray.ext
    apply Array.toList_inj.1
    rw [ext_head, h]; rfl
  · intro h
    rw [← ext_head, h]; rfl
theorem ret_bool {a b : Bool} (h : a = b) : Ending.returned (.bool a) = .returned (.bool b) := by rw [h]
theorem has_yes (t : ByteArray) (hs : t.size ≤ maxLen) (h : isT t) (w : World) : Calls Tryz.prog 143 #[.string t, .string tS] w fun e w' => e = .returned (.bool true) ∧ w' = w := by
  have h4 := isT_len h
  unfold maxLen at hs
  have HX := hid (isT_ext.1 h)
  clear h
  have hcs : tS.size = 1 := rfl
  go_enter Tryz.func143, Tryz.ntmps143
  go_wp2
  go_ret
  exact ⟨ret_bool (by rw [HX.out]; simp), rfl⟩
theorem has_no (t : ByteArray) (hs : t.size ≤ maxLen) (h : ¬ isT t) (w : World) : Calls Tryz.prog 143 #[.string t, .string tS] w fun e w' => e = .returned (.bool false) ∧ w' = w := by
  unfold maxLen at hs
  have hcs : tS.size = 1 := rfl
  by_cases h4 : 1 ≤ t.size
  · have HX := hid (str_ne (fun hh => h (isT_ext.2 hh)))
    clear h
    go_enter Tryz.func143, Tryz.ntmps143
    go_wp2
    go_ret
    exact ⟨ret_bool HX.out, rfl⟩
  · clear h
    go_enter Tryz.func143, Tryz.ntmps143
    go_wp2
    go_ret
    exact ⟨rfl, rfl⟩
theorem cut69_yes (t : ByteArray) (hs : t.size ≤ maxLen) (h : isT t) (w : World) : Calls Tryz.prog 126 #[.string t, .string tS] w fun e w' => e = .returned (.tuple #[.string (t.extract 1 t.size), .bool true]) ∧ w' = w := by
  have HH := hid (fun w => has_yes t hs h w)
  have h4 := isT_len h
  unfold maxLen at hs
  have hcs : tS.size = 1 := rfl
  clear h
  go_enter Tryz.func126, Tryz.ntmps126
  go_wp2_with (first | (go_at_call 143; refine (HH.out _).mono ?_; rintro e w1 ⟨rfl, hw⟩; have hw := hw.symm; subst hw))
  go_ret2
  exact ⟨rfl, rfl⟩
theorem cut69_no (t : ByteArray) (hs : t.size ≤ maxLen) (h : ¬ isT t) (w : World) : Calls Tryz.prog 126 #[.string t, .string tS] w fun e w' => e = .returned (.tuple #[.string t, .bool false]) ∧ w' = w := by
  have HH := hid (fun w => has_no t hs h w)
  clear h
  go_enter Tryz.func126, Tryz.ntmps126
  go_wp2_with (first | (go_at_call 143; refine (HH.out _).mono ?_; rintro e w1 ⟨rfl, hw⟩; have hw := hw.symm; subst hw))
  go_ret2
  exact ⟨rfl, rfl⟩
theorem cut_yes (t : ByteArray) (hs : t.size ≤ maxLen) (h : isT t) (w : World) : Calls Tryz.prog 95 #[.string t, .string tS] w fun e w' => e = .returned (.tuple #[.string (t.extract 1 t.size), .bool true]) ∧ w' = w := by
  have HH := hid (fun w => cut69_yes t hs h w)
  clear h
  go_enter Tryz.func95, Tryz.ntmps95
  go_wp2_with (first | (go_at_call 126; refine (HH.out _).mono ?_; rintro e w1 ⟨rfl, hw⟩; have hw := hw.symm; subst hw))
  go_ret2
  exact ⟨rfl, rfl⟩
theorem cut_no (t : ByteArray) (hs : t.size ≤ maxLen) (h : ¬ isT t) (w : World) : Calls Tryz.prog 95 #[.string t, .string tS] w fun e w' => e = .returned (.tuple #[.string t, .bool false]) ∧ w' = w := by
  have HH := hid (fun w => cut69_no t hs h w)
  clear h
  go_enter Tryz.func95, Tryz.ntmps95
  go_wp2_with (first | (go_at_call 126; refine (HH.out _).mono ?_; rintro e w1 ⟨rfl, hw⟩; have hw := hw.symm; subst hw))
  go_ret2
  exact ⟨rfl, rfl⟩
end Go.Proofs.YtopebghandojbaaGreat
