import Derived.Test.YtmemelamgldpcaaVf
namespace Go.Proofs.Ytmemelamgldpcaa
open Go.RowKit

/-- how many are at least a -/
def cge (l : List Int) (a : Int) : Nat := l.countP fun b => decide (a ≤ b)
theorem cge_perm {l s : List Int} (h : l.Perm s) (a : Int) : cge l a = cge s a := h.countP_eq _
theorem cge_le (l : List Int) (a : Int) : cge l a ≤ l.length := List.countP_le_length
theorem sorted_get {s : List Int} (hs : s.Pairwise (· ≤ ·)) {i j : Nat} (hi : i < s.length) (hj : j < s.length) (h : i ≤ j) : s[i] ≤ s[j] := by
  rcases Nat.lt_or_ge i j with h1 | h1
  · exact List.pairwise_iff_getElem.1 hs i j hi hj h1
  · have : i = j := by omega
    subst this; exact Int.le_refl _
/-- of a rising list all from place k on are at least its k'th -/
theorem sorted_cge {s : List Int} (hs : s.Pairwise (· ≤ ·)) {k : Nat} (hk : k < s.length) : s.length - k ≤ cge s s[k] := by
  have h1 : cge s s[k] = cge (s.take k) s[k] + cge (s.drop k) s[k] := by
    unfold cge; rw [← List.countP_append, List.take_append_drop]
  have h2 : cge (s.drop k) s[k] = (s.drop k).length := by
    unfold cge
    rw [List.countP_eq_length]
    intro x hx
    obtain ⟨j, hj, rfl⟩ := List.getElem_of_mem hx
    rw [List.getElem_drop]
    simp only [decide_eq_true_eq]
    rw [List.length_drop] at hj
    exact sorted_get hs _ (by omega) (by omega)
  rw [List.length_drop] at h2
  omega
theorem sorted_cgt {s : List Int} (hs : s.Pairwise (· ≤ ·)) {k : Nat} (hk : k < s.length) {a : Int} (ha : s[k] < a) : cge s a + (k + 1) ≤ s.length := by
  have h1 : cge s a = cge (s.take (k + 1)) a + cge (s.drop (k + 1)) a := by
    unfold cge; rw [← List.countP_append, List.take_append_drop]
  have h2 : cge (s.take (k + 1)) a = 0 := by
    unfold cge
    rw [List.countP_eq_zero]
    intro x hx
    obtain ⟨j, hj, rfl⟩ := List.getElem_of_mem hx
    rw [List.getElem_take]
    simp only [decide_eq_true_eq]
    rw [List.length_take] at hj
    have := sorted_get hs (i := j) (j := k) (by omega) hk (by omega)
    omega
  have h3 := cge_le (s.drop (k + 1)) a
  rw [List.length_drop] at h3
  omega
/-- what the median is -/
theorem med {l : List Int} {m : Nat} (hl : l.length = 2 * m + 1) : ∃ M, (srt l).getD (l.length / 2) 0 = M ∧ M ∈ l ∧ m + 1 ≤ cge l M ∧ ∀ a, M < a → cge l a ≤ m := by
  have hk : m < (srt l).length := by rw [srt_length]; omega
  refine ⟨(srt l)[m], ?_, ?_, ?_, ?_⟩
  · rw [show l.length / 2 = m by omega, List.getD_eq_getElem?_getD, List.getElem?_eq_getElem hk]; rfl
  · exact (srt_perm l).mem_iff.1 (List.getElem_mem hk)
  · have := sorted_cge (srt_sorted l) hk
    rw [srt_length, cge_perm (srt_perm l)] at this
    omega
  · intro a ha
    have := sorted_cgt (srt_sorted l) hk ha
    rw [srt_length, cge_perm (srt_perm l)] at this
    omega
/-- the document's search -/
def rcs (l : List Int) (b a : Int) : Int := if l.length < 2 * cge l a ∧ b < a then a else b
def rcm (l : List Int) (k : Nat) : Int := (l.take k).foldl (rcs l) 0
theorem rcm_succ (l : List Int) (k : Nat) (hk : k < l.length) : rcm l (k + 1) = rcs l (rcm l k) l[k] := by
  unfold rcm; rw [List.take_succ_eq_append_getElem hk, List.foldl_append]; rfl
theorem rcs_fold {l : List Int} {m : Nat} (hl : l.length = 2 * m + 1) {M : Int} (h1 : m + 1 ≤ cge l M) (h2 : ∀ a, M < a → cge l a ≤ m) : ∀ (xs : List Int) (b : Int), b ≤ M → (xs.foldl (rcs l) b) ≤ M ∧ b ≤ xs.foldl (rcs l) b ∧ (M ∈ xs → xs.foldl (rcs l) b = M)
  | [], b, hb => ⟨hb, Int.le_refl _, fun h => by simp at h⟩
  | x :: xs, b, hb => by
    have hs : rcs l b x ≤ M ∧ b ≤ rcs l b x ∧ (x = M → rcs l b x = M) := by
      unfold rcs
      split
      · rename_i h
        have hx : ¬ M < x := fun hc => by have := h2 x hc; omega
        exact ⟨by omega, by omega, fun e => e⟩
      · rename_i h
        refine ⟨hb, Int.le_refl _, fun e => ?_⟩
        subst e
        have : ¬ b < x := fun hc => h ⟨by omega, hc⟩
        omega
    obtain ⟨i1, i2, i3⟩ := rcs_fold hl h1 h2 xs (rcs l b x) hs.1
    rw [List.foldl_cons]
    refine ⟨i1, by omega, fun hm => ?_⟩
    rcases List.mem_cons.1 hm with e | e
    · have := hs.2.2 e.symm; omega
    · exact i3 e
theorem up_mem {l : List Int} (h : l.any (fun x => !up x 1099511627776) = false) (x : Int) (hx : x ∈ l) : 0 ≤ x ∧ x ≤ 1099511627776 := by
  rw [List.any_eq_false] at h
  have := h x hx
  simp only [Bool.not_eq_true, Bool.not_eq_false'] at this
  exact (up_iff _ _).1 this
theorem comK_iff (l : List Int) : comK l = true ↔ (l.length = 1 ∨ l.length = 3 ∨ l.length = 5 ∨ l.length = 7) ∧ l.any (fun x => !up x 1099511627776) = false := by
  unfold comK
  rw [Bool.and_eq_true, nod_iff, Bool.not_eq_true']
  constructor
  · rintro ⟨h1, h2⟩; exact ⟨by omega, h2⟩
  · rintro ⟨h1, h2⟩; exact ⟨by omega, h2⟩
theorem com_ref {l : List Int} (h : comK l = true) : rcm l l.length = comR l := by
  obtain ⟨h1, h2⟩ := (comK_iff l).1 h
  have hl : l.length = 2 * (l.length / 2) + 1 := by omega
  obtain ⟨M, e, hm, g1, g2⟩ := med hl
  unfold comR
  rw [h, if_pos rfl, e]
  unfold rcm
  rw [List.take_length]
  exact (rcs_fold hl g1 g2 l 0 (up_mem h2 M hm).1).2.2 hm
/-- better is an order -/
theorem btr_iff (x y : Off) : btr x y = true ↔ y.b < x.b ∨ (x.b = y.b ∧ y.c < x.c) := by
  unfold btr; simp
theorem bst_best (l : List Off) : ∀ n, 0 < n → (∀ j, j < n → ¬ btr (l.getD j default) (l.getD (bst l n) default) = true) ∧ ∀ i, i < bst l n → btr (l.getD (bst l n) default) (l.getD i default) = true
  | 0, h => by omega
  | 1, _ => by
    have e : bst l 1 = 0 := by unfold bst; split <;> rfl
    rw [e]
    refine ⟨fun j hj => ?_, fun i hi => by omega⟩
    have : j = 0 := by omega
    subst this
    rw [btr_iff]; omega
  | n + 2, _ => by
    obtain ⟨h1, h2⟩ := bst_best l (n + 1) (by omega)
    generalize hx : l.getD (n + 1) default = x at *
    by_cases hb : btr x (l.getD (bst l (n + 1)) default) = true
    · have e : bst l (n + 2) = n + 1 := by rw [bst, hx, if_pos hb]
      rw [e, hx]
      rw [btr_iff] at hb
      refine ⟨fun j hj => ?_, fun i hi => ?_⟩
      · by_cases hjn : j = n + 1
        · rw [hjn, hx, btr_iff]; omega
        · have := h1 j (by omega)
          rw [btr_iff] at this ⊢
          omega
      · have := h1 i (by omega)
        rw [btr_iff] at this ⊢
        omega
    · have e : bst l (n + 2) = bst l (n + 1) := by rw [bst, hx, if_neg hb]
      rw [e]
      refine ⟨fun j hj => ?_, fun i hi => h2 i hi⟩
      by_cases hjn : j = n + 1
      · rw [hjn, hx]; exact hb
      · exact h1 j (by omega)
end Go.Proofs.Ytmemelamgldpcaa
