import Derived.Test.YtmcahiebcflfoaaJi
import Derived.Test.YtmcahiebcflfoaaTo
import Derived.Test.YtmcahiebcflfoaaUb
namespace Go.Proofs.Ytmcahiebcflfoaa
open Go.RowKit
def uS : ByteArray := { data := #[72] }
def isU (t : ByteArray) : Prop := t.data.toList.take 1 = [72]
theorem isU_len {t : ByteArray} (h : isU t) : 1 ≤ t.size := by
  have := congrArg List.length h
  rw [List.length_take, len_list] at this
  simp at this
  omega
theorem isU_ext {t : ByteArray} : isU t ↔ t.extract 0 1 = uS := by
  unfold isU
  constructor
  · intro h
    apply ByteArray.ext
    apply Array.toList_inj.1
    rw [ext_head, h]; rfl
  · intro h
    rw [← ext_head, h]; rfl
theorem uhas_yes (t : ByteArray) (hs : t.size ≤ maxLen) (h : isU t) (w : World) : Calls Try.prog 88 #[.string t, .string uS] w fun e w' => e = .returned (.bool true) ∧ w' = w := by
  have h4 := isU_len h
  unfold maxLen at hs
  have HX := hid (isU_ext.1 h)
  clear h
  have hcs : uS.size = 1 := rfl
  go_enter Try.func88, Try.ntmps88
  go_wp2
  go_ret
  exact ⟨ret_bool (by rw [HX.out]; simp), rfl⟩
theorem uhas_no (t : ByteArray) (hs : t.size ≤ maxLen) (h : ¬ isU t) (w : World) : Calls Try.prog 88 #[.string t, .string uS] w fun e w' => e = .returned (.bool false) ∧ w' = w := by
  unfold maxLen at hs
  have hcs : uS.size = 1 := rfl
  by_cases h4 : 1 ≤ t.size
  · have HX := hid (str_ne (fun hh => h (isU_ext.2 hh)))
    clear h
    go_enter Try.func88, Try.ntmps88
    go_wp2
    go_ret
    exact ⟨ret_bool HX.out, rfl⟩
  · clear h
    go_enter Try.func88, Try.ntmps88
    go_wp2
    go_ret
    exact ⟨rfl, rfl⟩
theorem ucut69_yes (t : ByteArray) (hs : t.size ≤ maxLen) (h : isU t) (w : World) : Calls Try.prog 78 #[.string t, .string uS] w fun e w' => e = .returned (.tuple #[.string (t.extract 1 t.size), .bool true]) ∧ w' = w := by
  have HH := hid (fun w => uhas_yes t hs h w)
  have h4 := isU_len h
  unfold maxLen at hs
  have hcs : uS.size = 1 := rfl
  clear h
  go_enter Try.func78, Try.ntmps78
  go_wp2_with (first | (go_at_call 88; refine (HH.out _).mono ?_; rintro e w1 ⟨rfl, hw⟩; have hw := hw.symm; subst hw))
  go_ret2
  exact ⟨rfl, rfl⟩
theorem ucut69_no (t : ByteArray) (hs : t.size ≤ maxLen) (h : ¬ isU t) (w : World) : Calls Try.prog 78 #[.string t, .string uS] w fun e w' => e = .returned (.tuple #[.string t, .bool false]) ∧ w' = w := by
  have HH := hid (fun w => uhas_no t hs h w)
  clear h
  go_enter Try.func78, Try.ntmps78
  go_wp2_with (first | (go_at_call 88; refine (HH.out _).mono ?_; rintro e w1 ⟨rfl, hw⟩; have hw := hw.symm; subst hw))
  go_ret2
  exact ⟨rfl, rfl⟩
theorem ucut_yes (t : ByteArray) (hs : t.size ≤ maxLen) (h : isU t) (w : World) : Calls Try.prog 65 #[.string t, .string uS] w fun e w' => e = .returned (.tuple #[.string (t.extract 1 t.size), .bool true]) ∧ w' = w := by
  have HH := hid (fun w => ucut69_yes t hs h w)
  clear h
  go_enter Try.func65, Try.ntmps65
  go_wp2_with (first | (go_at_call 78; refine (HH.out _).mono ?_; rintro e w1 ⟨rfl, hw⟩; have hw := hw.symm; subst hw))
  go_ret2
  exact ⟨rfl, rfl⟩
theorem ucut_no (t : ByteArray) (hs : t.size ≤ maxLen) (h : ¬ isU t) (w : World) : Calls Try.prog 65 #[.string t, .string uS] w fun e w' => e = .returned (.tuple #[.string t, .bool false]) ∧ w' = w := by
  have HH := hid (fun w => ucut69_no t hs h w)
  clear h
  go_enter Try.func65, Try.ntmps65
  go_wp2_with (first | (go_at_call 78; refine (HH.out _).mono ?_; rintro e w1 ⟨rfl, hw⟩; have hw := hw.symm; subst hw))
  go_ret2
  exact ⟨rfl, rfl⟩
theorem ucut_any (t : ByteArray) (hs : t.size ≤ maxLen) : ∃ n m, (∀ w, Calls Try.prog 65 #[.string t, .string uS] w fun e w' => e = .returned (.tuple #[.string n, .bool m]) ∧ w' = w) ∧ (m = true ↔ isU t) := by
  by_cases h : isU t
  · exact ⟨_, _, ucut_yes t hs h, ⟨fun _ => h, fun _ => rfl⟩⟩
  · exact ⟨_, _, ucut_no t hs h, ⟨fun k => (by cases k), fun k => absurd k h⟩⟩
theorem rh_no (b : ByteArray) (hb : b.size ≤ 150000000000000) (P : Int) (h : ¬ ((unV b).2 = 0 ∧ isU (unV b).1)) (w : World) : Calls Try.prog 46 #[.string b, .int .i64 P] w fun e w' => e = .returned (.tuple #[.pointer none, .bool false]) ∧ Below w.heap.size w w' := by
  have HU := hid (fun w => unblock_any b hb w)
  obtain ⟨n, m, hC, hm⟩ := ucut_any (unV b).1 (by have := unV_size b; unfold maxLen; omega)
  have HC := hid hC
  unfold uS at HC
  obtain ⟨t, ht⟩ : ∃ t, t = (unV b).1 := ⟨_, rfl⟩
  obtain ⟨c, hc⟩ : ∃ c, c = (unV b).2 := ⟨_, rfl⟩
  rw [← ht] at HU HC hm h
  rw [← hc] at HU h
  clear ht hc hC
  by_cases hc0 : c = 0
  · subst hc0
    have hmf : m = false := by
      cases m with
      | false => rfl
      | true => exact absurd ⟨rfl, hm.1 rfl⟩ h
    subst hmf
    clear hm h
    go_enter Try.func46, Try.ntmps46
    go_wp2_with (first
      | (go_at_call 64; refine (HU.out _).mono ?_; rintro e w1 ⟨rfl, hb1⟩)
      | (go_at_call 65; refine (HC.out _).mono ?_; rintro e w2 ⟨rfl, hw⟩; have hw := hw.symm; subst hw))
    go_ret2
    exact ⟨rfl, hb1⟩
  · have hc1 : (c != 0) = true := by simp [hc0]
    clear hm h hc0
    go_enter Try.func46, Try.ntmps46
    go_wp2_with (first
      | (go_at_call 64; refine (HU.out _).mono ?_; rintro e w1 ⟨rfl, hb1⟩)
      | (go_at_call 65; refine (HC.out _).mono ?_; rintro e w2 ⟨rfl, hw⟩; have hw := hw.symm; subst hw))
    go_ret2
    exact ⟨rfl, hb1⟩
end Go.Proofs.Ytmcahiebcflfoaa
