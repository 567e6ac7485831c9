import Derived.Test.YtjphfpfagnhelaaRt
namespace Go.Proofs.Ytjphfpfagnhelaa
open Go.RowKit

def ptr (g : Nat) : Value := .pointer (some ⟨g, 0, none⟩)
theorem ext_le (s : ByteArray) (k : Nat) : (s.extract k s.size).size ≤ s.size := by rw [ext_size]; omega

theorem both_uint (s : ByteArray) (e : Int) (hs : s.size ≤ maxLen) : ∃ (n er : Int) (s' : ByteArray) (e' : Int), s'.size ≤ s.size ∧
    (∀ g w, RIs g w s e → Calls Try.prog 61 #[.pointer (some ⟨g, 0, none⟩)] w fun x w' => x = .returned (.tuple #[.int .i64 n, .int .i64 er]) ∧ RIs g w' s' e' ∧ Kept w.heap.size g w w') ∧
    (∀ g w, QIs g w s e → Calls Try.prog 26 #[.pointer (some ⟨g, 0, none⟩)] w fun x w' => x = .returned (.tuple #[.int .i64 n, .int .i64 er]) ∧ QIs g w' s' e' ∧ Kept w.heap.size g w w') := by
  by_cases he : e = 0
  · subst he
    obtain ⟨er, k, hsc⟩ : ∃ er k, scan 9 127 s.data.toList 0 = (er, k) := ⟨_, _, rfl⟩
    by_cases h : er = 0
    · subst h
      exact ⟨_, _, _, _, ext_le s k, fun g w hr => uint_ok g s k hs hsc w hr, fun g w hq => quint_ok g s k hs hsc w hq⟩
    · exact ⟨_, _, s, _, Nat.le_refl _, fun g w hr => uint_bad g s er k hs hsc h w hr, fun g w hq => quint_bad g s er k hs hsc h w hq⟩
  · exact ⟨0, e, s, e, Nat.le_refl _, fun g w hr => (uint_err g s e w hr he).mono fun x w' ⟨a, b⟩ => ⟨a, by rw [b]; exact hr, by rw [b]; exact Kept.refl _ _ _⟩,
      fun g w hq => (quint_err g s e w hq he).mono fun x w' ⟨a, q, b⟩ => ⟨a, by rw [b]; exact hq, by rw [b]; exact (Kept.refl _ _ _).drewN _⟩⟩
theorem both_int (s : ByteArray) (e : Int) (hs : s.size ≤ maxLen) : ∃ (n er : Int) (s' : ByteArray) (e' : Int), s'.size ≤ s.size ∧
    (∀ g w, RIs g w s e → Calls Try.prog 72 #[.pointer (some ⟨g, 0, none⟩)] w fun x w' => x = .returned (.tuple #[.int .i64 n, .int .i64 er]) ∧ RIs g w' s' e' ∧ Kept w.heap.size g w w') ∧
    (∀ g w, QIs g w s e → Calls Try.prog 50 #[.pointer (some ⟨g, 0, none⟩)] w fun x w' => x = .returned (.tuple #[.int .i64 n, .int .i64 er]) ∧ QIs g w' s' e' ∧ Kept w.heap.size g w w') := by
  by_cases he : e = 0
  · subst he
    obtain ⟨er, k, hsc⟩ : ∃ er k, scan 10 1 s.data.toList 0 = (er, k) := ⟨_, _, rfl⟩
    by_cases h : er = 0
    · subst h
      exact ⟨_, _, _, _, ext_le s k, fun g w hr => int_ok g s k hs hsc w hr, fun g w hq => qint_ok g s k hs hsc w hq⟩
    · exact ⟨_, _, s, _, Nat.le_refl _, fun g w hr => int_bad g s er k hs hsc h w hr, fun g w hq => qint_bad g s er k hs hsc h w hq⟩
  · exact ⟨0, e, s, e, Nat.le_refl _, fun g w hr => (int_err g s e w hr he).mono fun x w' ⟨a, b⟩ => ⟨a, by rw [b]; exact hr, by rw [b]; exact Kept.refl _ _ _⟩,
      fun g w hq => (qint_err g s e w hq he).mono fun x w' ⟨a, q, b⟩ => ⟨a, by rw [b]; exact hq, by rw [b]; exact (Kept.refl _ _ _).drewN _⟩⟩
theorem both_text (s : ByteArray) (e m : Int) (hm0 : 0 ≤ m) (hm : m ≤ 9223372036854775807) (hs : s.size ≤ maxLen) : ∃ (t : ByteArray) (er : Int) (s' : ByteArray) (e' : Int), s'.size ≤ s.size ∧
    (∀ g w, RIs g w s e → Calls Try.prog 73 #[.pointer (some ⟨g, 0, none⟩), .int .i64 m] w fun x w' => x = .returned (.tuple #[.string t, .int .i64 er]) ∧ RIs g w' s' e' ∧ Kept w.heap.size g w w') ∧
    (∀ g w, QIs g w s e → Calls Try.prog 51 #[.pointer (some ⟨g, 0, none⟩), .int .i64 m] w fun x w' => x = .returned (.tuple #[.string t, .int .i64 er]) ∧ QIs g w' s' e' ∧ Kept w.heap.size g w w') ∧ er = e' := by
  by_cases he : e = 0
  · subst he
    obtain ⟨er, k, hsc⟩ : ∃ er k, scan 9 127 s.data.toList 0 = (er, k) := ⟨_, _, rfl⟩
    by_cases h : er = 0
    · subst h
      obtain ⟨most, rfl⟩ := Int.eq_ofNat_of_zero_le hm0
      by_cases hv : val (s.data.toList.take k) ≤ most ∧ val (s.data.toList.take k) ≤ s.size - k
      · exact ⟨_, _, _, _, ext_le s _, fun g w hr => text_ok g s most (by omega) k hs hsc hv.1 hv.2 w hr, fun g w hq => qtext_ok g s most (by omega) k hs hsc hv.1 hv.2 w hq, rfl⟩
      · refine ⟨_, _, s, _, Nat.le_refl _, ?_, fun g w hq => qtext_no g s most (by omega) k hs hsc hv w hq, rfl⟩
        intro g w hr
        by_cases hl : most < val (s.data.toList.take k)
        · rw [if_pos hl]; exact text_toolong g s most (by omega) k hs hsc hl w hr
        · rw [if_neg hl]; exact text_cut g s most (by omega) k hs hsc (by omega) (by omega) w hr
    · exact ⟨_, _, s, _, Nat.le_refl _, fun g w hr => text_bad g s m er hm0 k hs hsc h w hr, fun g w hq => qtext_bad g s m er hm0 k hs hsc h w hq, rfl⟩
  · exact ⟨_, e, s, e, Nat.le_refl _, fun g w hr => (text_err g s e m hm0 w hr he).mono fun x w' ⟨a, b⟩ => ⟨a, by rw [b]; exact hr, by rw [b]; exact Kept.refl _ _ _⟩,
      fun g w hq => (qtext_err g s e m hm0 w hq he).mono fun x w' ⟨a, q, b⟩ => ⟨a, by rw [b]; exact hq, by rw [b]; exact (Kept.refl _ _ _).drewN _⟩, rfl⟩
end Go.Proofs.Ytjphfpfagnhelaa
