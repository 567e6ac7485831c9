import Derived.Test.YtaahdfogpehkfaaTg
namespace Go.Proofs.Ytaahdfogpehkfaa
open Go.RowKit Go.Maps Go.Sort Go.Shelf

/-- changes, each block's once, rising -/
def Rise (l : List Chg) : Prop := l.Pairwise (fun x y => x.b < y.b)
/-- changes with one more; of its block the new one -/
def withL : List Chg → Chg → List Chg
  | [], c => [c]
  | x :: l, c => if x.b < c.b then x :: withL l c else if x.b = c.b then c :: l else c :: x :: l
theorem withL_mem : ∀ {l : List Chg} (_ : Rise l) (c x : Chg), x ∈ withL l c ↔ x = c ∨ (x ∈ l ∧ x.b ≠ c.b)
  | [], _, c, x => by simp [withL]
  | y :: l, h, c, x => by
    unfold Rise at h
    rw [List.pairwise_cons] at h
    have ih := withL_mem (l := l) h.2 c x
    unfold withL
    by_cases h1 : y.b < c.b
    · rw [if_pos h1, List.mem_cons, ih, List.mem_cons]
      constructor
      · rintro (rfl | rfl | h3)
        · exact .inr ⟨.inl rfl, by omega⟩
        · exact .inl rfl
        · exact .inr ⟨.inr h3.1, h3.2⟩
      · rintro (rfl | ⟨rfl | h3, h4⟩)
        · exact .inr (.inl rfl)
        · exact .inl rfl
        · exact .inr (.inr ⟨h3, h4⟩)
    · rw [if_neg h1]
      by_cases h2 : y.b = c.b
      · rw [if_pos h2, List.mem_cons, List.mem_cons]
        constructor
        · rintro (rfl | h3)
          · exact .inl rfl
          · exact .inr ⟨.inr h3, by have := h.1 x h3; omega⟩
        · rintro (rfl | ⟨rfl | h3, h4⟩)
          · exact .inl rfl
          · exact absurd h2 h4
          · exact .inr h3
      · rw [if_neg h2, List.mem_cons, List.mem_cons]
        constructor
        · rintro (rfl | rfl | h3)
          · exact .inl rfl
          · exact .inr ⟨.inl rfl, h2⟩
          · exact .inr ⟨.inr h3, by have := h.1 x h3; omega⟩
        · rintro (rfl | ⟨rfl | h3, h4⟩)
          · exact .inl rfl
          · exact .inr (.inl rfl)
          · exact .inr (.inr h3)
theorem withL_rise : ∀ {l : List Chg} (_ : Rise l) (c : Chg), Rise (withL l c)
  | [], _, c => by simp [withL, Rise]
  | y :: l, h, c => by
    have h0 := h
    unfold Rise at h
    rw [List.pairwise_cons] at h
    have ih := withL_rise (l := l) h.2 c
    unfold withL
    by_cases h1 : y.b < c.b
    · rw [if_pos h1]
      unfold Rise
      rw [List.pairwise_cons]
      refine ⟨fun x hx => ?_, ih⟩
      rcases (withL_mem h.2 c x).1 hx with rfl | ⟨hx, _⟩
      · exact h1
      · exact h.1 x hx
    · rw [if_neg h1]
      by_cases h2 : y.b = c.b
      · rw [if_pos h2]
        unfold Rise
        rw [List.pairwise_cons]
        exact ⟨fun x hx => by have := h.1 x hx; omega, h.2⟩
      · rw [if_neg h2]
        unfold Rise
        rw [List.pairwise_cons]
        refine ⟨fun x hx => ?_, h0⟩
        rcases List.mem_cons.1 hx with rfl | hx
        · omega
        · have := h.1 x hx; omega
theorem withL_len : ∀ {l : List Chg} (_ : Rise l) (c : Chg), (withL l c).length = if l.any (fun x => x.b == c.b) then l.length else l.length + 1
  | [], _, c => by simp [withL]
  | y :: l, h, c => by
    unfold Rise at h
    rw [List.pairwise_cons] at h
    have ih := withL_len (l := l) h.2 c
    unfold withL
    by_cases h1 : y.b < c.b
    · have e : (y.b == c.b) = false := by simp; omega
      rw [if_pos h1, List.length_cons, ih, List.any_cons, e, Bool.false_or]
      split <;> simp
    · rw [if_neg h1]
      by_cases h2 : y.b = c.b
      · rw [if_pos h2]
        have e : (y.b == c.b) = true := by simp [h2]
        rw [List.any_cons, e]; simp
      · rw [if_neg h2]
        have e : (y.b == c.b) = false := by simp [h2]
        have e2 : l.any (fun x => x.b == c.b) = false := by
          rw [List.any_eq_false]
          intro x hx
          have := h.1 x hx
          simp; omega
        rw [List.any_cons, e, e2]; simp
/-- two rising lists of the same changes are one -/
theorem rise_unique : ∀ {a b : List Chg}, Rise a → Rise b → (∀ x, x ∈ a ↔ x ∈ b) → a = b
  | [], [], _, _, _ => rfl
  | [], y :: b, _, _, h => by have := (h y).2 (by simp); cases this
  | x :: a, [], _, _, h => by have := (h x).1 (by simp); cases this
  | x :: a, y :: b, ha, hb, h => by
    unfold Rise at ha hb
    rw [List.pairwise_cons] at ha hb
    have e : x = y := by
      have h1 := (h x).1 (by simp)
      have h2 := (h y).2 (by simp)
      rcases List.mem_cons.1 h1 with e | h1
      · exact e
      · rcases List.mem_cons.1 h2 with e | h2
        · exact e.symm
        · have := ha.1 y h2; have := hb.1 x h1; omega
    subst e
    congr 1
    refine rise_unique ha.2 hb.2 (fun z => ?_)
    have := h z
    rw [List.mem_cons, List.mem_cons] at this
    constructor
    · intro hz
      rcases this.1 (.inr hz) with rfl | hz'
      · have := ha.1 z hz; omega
      · exact hz'
    · intro hz
      rcases this.2 (.inr hz) with rfl | hz'
      · have := hb.1 z hz; omega
      · exact hz'
/-- the changes of both -/
def mergeL (a b : List Chg) : List Chg := b.foldl withL a
theorem mergeL_rise : ∀ {b a : List Chg}, Rise a → Rise (mergeL a b)
  | [], _, h => h
  | c :: b, _, h => mergeL_rise (b := b) (withL_rise h c)
theorem mergeL_snoc (a b : List Chg) (c : Chg) : mergeL a (b ++ [c]) = withL (mergeL a b) c := by simp [mergeL]
theorem mergeL_mem : ∀ {b a : List Chg}, Rise a → Rise b → ∀ x, x ∈ mergeL a b ↔ x ∈ b ∨ (x ∈ a ∧ ∀ y ∈ b, x.b ≠ y.b)
  | [], a, _, _, x => by simp [mergeL]
  | c :: b, a, ha, hb, x => by
    unfold Rise at hb
    rw [List.pairwise_cons] at hb
    have ih := mergeL_mem (b := b) (withL_rise ha c) hb.2 x
    show x ∈ mergeL (withL a c) b ↔ _
    rw [ih, withL_mem ha, List.mem_cons]
    constructor
    · rintro (h | ⟨rfl | ⟨h1, h2⟩, h3⟩)
      · exact .inl (.inr h)
      · exact .inl (.inl rfl)
      · refine .inr ⟨h1, fun y hy => ?_⟩
        rcases List.mem_cons.1 hy with rfl | hy
        · exact h2
        · exact h3 y hy
    · rintro ((rfl | h) | ⟨h1, h2⟩)
      · exact .inr ⟨.inl rfl, fun y hy => by have := hb.1 y hy; omega⟩
      · exact .inl h
      · exact .inr ⟨.inr ⟨h1, h2 c (by simp)⟩, fun y hy => h2 y (by simp [hy])⟩
theorem mergeL_nil {a : List Chg} (h : Rise a) : mergeL [] a = a := by
  refine rise_unique (mergeL_rise List.Pairwise.nil) h (fun x => ?_)
  rw [mergeL_mem List.Pairwise.nil h]
  simp
theorem rises_rise : ∀ {last : Int} {l : List Chg}, rises last l = true → Rise l ∧ ∀ x ∈ l, last < x.b ∧ x.b < 1024 ∧ x.d.size = 128
  | _, [], _ => ⟨List.Pairwise.nil, fun x hx => by cases hx⟩
  | last, c :: l, h => by
    unfold rises at h
    simp only [Bool.and_eq_true, decide_eq_true_eq] at h
    obtain ⟨h1, h2, h3, h4⟩ := h
    obtain ⟨k1, k2⟩ := rises_rise h4
    refine ⟨List.pairwise_cons.2 ⟨fun x hx => (k2 x hx).1, k1⟩, fun x hx => ?_⟩
    rcases List.mem_cons.1 hx with rfl | hx
    · exact ⟨h1, h2, h3⟩
    · have := k2 x hx; exact ⟨by omega, this.2⟩
theorem rise_rises : ∀ {last : Int} {l : List Chg}, Rise l → (∀ x ∈ l, last < x.b ∧ x.b < 1024 ∧ x.d.size = 128) → rises last l = true
  | _, [], _, _ => rfl
  | last, c :: l, h, k => by
    unfold Rise at h
    rw [List.pairwise_cons] at h
    have h1 := k c (by simp)
    unfold rises
    rw [rise_rises h.2 (fun x hx => ⟨h.1 x hx, (k x (by simp [hx])).2⟩)]
    simp [h1]
theorem right_iff {l : List Chg} : right l = true ↔ l.length ≤ 48 ∧ Rise l ∧ ∀ x ∈ l, 0 ≤ x.b ∧ x.b < 1024 ∧ x.d.size = 128 := by
  constructor
  · intro h
    obtain ⟨k1, k2⟩ := rises_rise (right_rises h)
    exact ⟨right_len h, k1, fun x hx => by have := k2 x hx; exact ⟨by omega, this.2⟩⟩
  · rintro ⟨h1, h2, h3⟩
    unfold right
    rw [rise_rises h2 (fun x hx => by have := h3 x hx; exact ⟨by omega, this.2⟩)]
    simp [h1]
end Go.Proofs.Ytaahdfogpehkfaa
