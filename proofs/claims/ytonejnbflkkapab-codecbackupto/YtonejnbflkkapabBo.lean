import Derived.Test.YtonejnbflkkapabRt
import Derived.Test.YtonejnbflkkapabRz
namespace Go.Proofs.Ytonejnbflkkapab
open Go.RowKit

def ptr (g : Nat) : Value := .pointer (some ⟨g, 0, none⟩)
theorem ext_le (s : ByteArray) (k : Nat) : (s.extract k s.size).size ≤ s.size := by rw [ext_size]; omega

theorem both_uint (s : ByteArray) (e : Int) (hs : s.size ≤ maxLen) : ∃ (n er : Int) (s' : ByteArray) (e' : Int), s'.size ≤ s.size ∧
    (∀ g w, RIs g w s e → Calls Try.prog 15 #[.pointer (some ⟨g, 0, none⟩)] w fun x w' => x = .returned (.tuple #[.int .i64 n, .int .i64 er]) ∧ RIs g w' s' e' ∧ Kept w.heap.size g w w') ∧
    (∀ g w, QIs g w s e → Calls Try.prog 16 #[.pointer (some ⟨g, 0, none⟩)] w fun x w' => x = .returned (.tuple #[.int .i64 n, .int .i64 er]) ∧ QIs g w' s' e' ∧ Kept w.heap.size g w w') := by
  by_cases he : e = 0
  · subst he
    obtain ⟨er, k, hsc⟩ : ∃ er k, scan 9 127 s.data.toList 0 = (er, k) := ⟨_, _, rfl⟩
    by_cases h : er = 0
    · subst h
      exact ⟨_, _, _, _, ext_le s k, fun g w hr => uint_ok g s k hs hsc w hr, fun g w hq => quint_ok g s k hs hsc w hq⟩
    · exact ⟨_, _, s, _, Nat.le_refl _, fun g w hr => uint_bad g s er k hs hsc h w hr, fun g w hq => quint_bad g s er k hs hsc h w hq⟩
  · exact ⟨0, e, s, e, Nat.le_refl _, fun g w hr => (uint_err g s e w hr he).mono fun x w' ⟨a, b⟩ => ⟨a, by rw [b]; exact hr, by rw [b]; exact Kept.refl _ _ _⟩,
      fun g w hq => (quint_err g s e w hq he).mono fun x w' ⟨a, q, b⟩ => ⟨a, by rw [b]; exact hq, by rw [b]; exact (Kept.refl _ _ _).drewN _⟩⟩
theorem both_int (s : ByteArray) (e : Int) (hs : s.size ≤ maxLen) : ∃ (n er : Int) (s' : ByteArray) (e' : Int), s'.size ≤ s.size ∧
    (∀ g w, RIs g w s e → Calls Try.prog 17 #[.pointer (some ⟨g, 0, none⟩)] w fun x w' => x = .returned (.tuple #[.int .i64 n, .int .i64 er]) ∧ RIs g w' s' e' ∧ Kept w.heap.size g w w') ∧
    (∀ g w, QIs g w s e → Calls Try.prog 18 #[.pointer (some ⟨g, 0, none⟩)] w fun x w' => x = .returned (.tuple #[.int .i64 n, .int .i64 er]) ∧ QIs g w' s' e' ∧ Kept w.heap.size g w w') := by
  by_cases he : e = 0
  · subst he
    obtain ⟨er, k, hsc⟩ : ∃ er k, scan 10 1 s.data.toList 0 = (er, k) := ⟨_, _, rfl⟩
    by_cases h : er = 0
    · subst h
      exact ⟨_, _, _, _, ext_le s k, fun g w hr => int_ok g s k hs hsc w hr, fun g w hq => qint_ok g s k hs hsc w hq⟩
    · exact ⟨_, _, s, _, Nat.le_refl _, fun g w hr => int_bad g s er k hs hsc h w hr, fun g w hq => qint_bad g s er k hs hsc h w hq⟩
  · exact ⟨0, e, s, e, Nat.le_refl _, fun g w hr => (int_err g s e w hr he).mono fun x w' ⟨a, b⟩ => ⟨a, by rw [b]; exact hr, by rw [b]; exact Kept.refl _ _ _⟩,
      fun g w hq => (qint_err g s e w hq he).mono fun x w' ⟨a, q, b⟩ => ⟨a, by rw [b]; exact hq, by rw [b]; exact (Kept.refl _ _ _).drewN _⟩⟩
theorem both_fixed (s : ByteArray) (e z : Int) (hs : s.size ≤ maxLen) : ∃ (n er : Int) (s' : ByteArray) (e' : Int), s'.size ≤ s.size ∧
    (∀ g w, RIs g w s e → Calls Try.prog 19 #[.pointer (some ⟨g, 0, none⟩), .int .i64 z] w fun x w' => x = .returned (.tuple #[.int .i64 n, .int .i64 er]) ∧ RIs g w' s' e' ∧ Kept w.heap.size g w w') ∧
    (∀ g w, QIs g w s e → Calls Try.prog 20 #[.pointer (some ⟨g, 0, none⟩), .int .i64 z] w fun x w' => x = .returned (.tuple #[.int .i64 n, .int .i64 er]) ∧ QIs g w' s' e' ∧ Kept w.heap.size g w w') := by
  cases hz : sized z with
  | false =>
    exact ⟨0, 1, s, e, Nat.le_refl _, fun g w hr => (fixedr_arg _ z hz w).mono fun x w' ⟨a, b⟩ => ⟨a, by rw [b]; exact hr, by rw [b]; exact Kept.refl _ _ _⟩,
      fun g w hq => (qfixed_arg _ z hz w).mono fun x w' ⟨a, b⟩ => ⟨a, by rw [b]; exact hq, by rw [b]; exact Kept.refl _ _ _⟩⟩
  | true =>
    by_cases he : e = 0
    · subst he
      have hzz := sized_of hz
      obtain ⟨k, rfl⟩ := Int.eq_ofNat_of_zero_le (show 0 ≤ z by omega)
      have hk8 : k ≤ 8 := by omega
      by_cases hk : s.size < k
      · exact ⟨_, _, s, _, Nat.le_refl _, fun g w hr => fixedr_cut g s k hz hk hk8 w hr, fun g w hq => qfixed_cut g s k hz hk w hq⟩
      · have hks : k ≤ s.size := by omega
        by_cases hb : fval (s.data.toList.take k) < 9223372036854775808
        · exact ⟨_, _, _, _, ext_le s k, fun g w hr => fixedr_ok g s k hz hks hk8 hs hb w hr, fun g w hq => qfixed_ok g s k hz hks hk8 hs hb w hq⟩
        · exact ⟨_, _, s, _, Nat.le_refl _, fun g w hr => fixedr_form g s k hz hks hk8 hs hb w hr, fun g w hq => qfixed_form g s k hz hks hk8 hb w hq⟩
    · exact ⟨0, e, s, e, Nat.le_refl _, fun g w hr => (fixedr_err g s e z hz w hr he).mono fun x w' ⟨a, b⟩ => ⟨a, by rw [b]; exact hr, by rw [b]; exact Kept.refl _ _ _⟩,
        fun g w hq => (qfixed_err g s e z hz w hq he).mono fun x w' ⟨a, q, b⟩ => ⟨a, by rw [b]; exact hq, by rw [b]; exact (Kept.refl _ _ _).drewN _⟩⟩
theorem both_text (s : ByteArray) (e m : Int) (hm : m ≤ 9223372036854775807) (hs : s.size ≤ maxLen) : ∃ (t : ByteArray) (er : Int) (s' : ByteArray) (e' : Int), s'.size ≤ s.size ∧
    (∀ g w, RIs g w s e → Calls Try.prog 21 #[.pointer (some ⟨g, 0, none⟩), .int .i64 m] w fun x w' => x = .returned (.tuple #[.string t, .int .i64 er]) ∧ RIs g w' s' e' ∧ Kept w.heap.size g w w') ∧
    (∀ g w, QIs g w s e → Calls Try.prog 22 #[.pointer (some ⟨g, 0, none⟩), .int .i64 m] w fun x w' => x = .returned (.tuple #[.string t, .int .i64 er]) ∧ QIs g w' s' e' ∧ Kept w.heap.size g w w') := by
  by_cases h0 : m < 0
  · exact ⟨_, 1, s, e, Nat.le_refl _, fun g w hr => (text_arg _ m h0 w).mono fun x w' ⟨a, b⟩ => ⟨a, by rw [b]; exact hr, by rw [b]; exact Kept.refl _ _ _⟩,
      fun g w hq => (qtext_arg _ m h0 w).mono fun x w' ⟨a, b⟩ => ⟨a, by rw [b]; exact hq, by rw [b]; exact Kept.refl _ _ _⟩⟩
  · have hm0 : 0 ≤ m := by omega
    by_cases he : e = 0
    · subst he
      obtain ⟨er, k, hsc⟩ : ∃ er k, scan 9 127 s.data.toList 0 = (er, k) := ⟨_, _, rfl⟩
      by_cases h : er = 0
      · subst h
        obtain ⟨most, rfl⟩ := Int.eq_ofNat_of_zero_le hm0
        by_cases hv : val (s.data.toList.take k) ≤ most ∧ val (s.data.toList.take k) ≤ s.size - k
        · exact ⟨_, _, _, _, ext_le s _, fun g w hr => text_ok g s most (by omega) k hs hsc hv.1 hv.2 w hr, fun g w hq => qtext_ok g s most (by omega) k hs hsc hv.1 hv.2 w hq⟩
        · refine ⟨_, _, s, _, Nat.le_refl _, ?_, fun g w hq => qtext_no g s most (by omega) k hs hsc hv w hq⟩
          intro g w hr
          by_cases hl : most < val (s.data.toList.take k)
          · rw [if_pos hl]; exact text_toolong g s most (by omega) k hs hsc hl w hr
          · rw [if_neg hl]; exact text_cut g s most (by omega) k hs hsc (by omega) (by omega) w hr
      · exact ⟨_, _, s, _, Nat.le_refl _, fun g w hr => text_bad g s m er hm0 k hs hsc h w hr, fun g w hq => qtext_bad g s m er hm0 k hs hsc h w hq⟩
    · exact ⟨_, e, s, e, Nat.le_refl _, fun g w hr => (text_err g s e m hm0 w hr he).mono fun x w' ⟨a, b⟩ => ⟨a, by rw [b]; exact hr, by rw [b]; exact Kept.refl _ _ _⟩,
        fun g w hq => (qtext_err g s e m hm0 w hq he).mono fun x w' ⟨a, q, b⟩ => ⟨a, by rw [b]; exact hq, by rw [b]; exact (Kept.refl _ _ _).drewN _⟩⟩
end Go.Proofs.Ytonejnbflkkapab
