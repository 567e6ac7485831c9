import Derived.Test.YtopebghandojbaaGreatTf
namespace Go.Proofs.YtopebghandojbaaGreat
open Go.RowKit Go.Maps
/-- changes, each block's once, rising -/
def Rise (l : List Chg) : Prop := l.Pairwise (fun x y => x.b < y.b)
theorem rises_rise : ∀ {last : Int} {l : List Chg}, rises last l = true → Rise l ∧ ∀ x ∈ l, last < x.b ∧ x.b < 1024 ∧ x.d.size = 128
  | _, [], _ => ⟨List.Pairwise.nil, fun x hx => by cases hx⟩
  | last, c :: l, h => by
    unfold rises at h
    simp only [Bool.and_eq_true, decide_eq_true_eq] at h
    obtain ⟨h1, h2, h3, h4⟩ := h
    obtain ⟨k1, k2⟩ := rises_rise h4
    refine ⟨List.pairwise_cons.2 ⟨fun x hx => (k2 x hx).1, k1⟩, fun x hx => ?_⟩
    rcases List.mem_cons.1 hx with rfl | hx
    · exact ⟨h1, h2, h3⟩
    · have := k2 x hx; exact ⟨by omega, this.2⟩
theorem rise_rises : ∀ {last : Int} {l : List Chg}, Rise l → (∀ x ∈ l, last < x.b ∧ x.b < 1024 ∧ x.d.size = 128) → rises last l = true
  | _, [], _, _ => rfl
  | last, c :: l, h, k => by
    unfold Rise at h
    rw [List.pairwise_cons] at h
    have h1 := k c (by simp)
    unfold rises
    rw [rise_rises h.2 (fun x hx => ⟨h.1 x hx, (k x (by simp [hx])).2⟩)]
    simp [h1]
theorem right_iff {l : List Chg} : right l = true ↔ l.length ≤ 48 ∧ Rise l ∧ ∀ x ∈ l, 0 ≤ x.b ∧ x.b < 1024 ∧ x.d.size = 128 := by
  constructor
  · intro h
    obtain ⟨k1, k2⟩ := rises_rise (right_rises h)
    exact ⟨right_len h, k1, fun x hx => by have := k2 x hx; exact ⟨by omega, this.2⟩⟩
  · rintro ⟨h1, h2, h3⟩
    unfold right
    rw [rise_rises h2 (fun x hx => by have := h3 x hx; exact ⟨by omega, this.2⟩)]
    simp [h1]
end Go.Proofs.YtopebghandojbaaGreat
