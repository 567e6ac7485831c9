import Derived.Test.YtjnhibpebikkmaaGreatIb
namespace Go.Proofs.YtjnhibpebikkmaaGreat
open Go.RowKit

theorem okN_cases (x : Int) : (okN x = true ∧ 0 ≤ x ∧ x < 1024) ∨ (okN x = false ∧ (x < 0 ∨ (0 ≤ x ∧ 1024 ≤ x))) := by
  unfold okN
  by_cases h : 0 ≤ x ∧ x < 1024
  · left; exact ⟨decide_eq_true h, h.1, h.2⟩
  · right; exact ⟨decide_eq_false h, by omega⟩
theorem right_cases (n : Ino) : (n.k = 0 ∧ rightI n = freeI n) ∨ (¬ n.k = 0 ∧ ((¬ n.k = 1 ∧ ¬ n.k = 2 ∧ rightI n = false) ∨ ((n.k = 1 ∨ n.k = 2) ∧ ((n.l < 1 ∧ rightI n = false) ∨ (¬ n.l < 1 ∧ ((n.l > 100 ∧ rightI n = false) ∨ (¬ n.l > 100 ∧ ((n.k = 2 ∧ ¬ n.l = 1 ∧ rightI n = false) ∨ ((n.k = 1 ∨ n.l = 1) ∧ ((n.z < 0 ∧ rightI n = false) ∨ (¬ n.z < 0 ∧ ((n.z > 533248 ∧ rightI n = false) ∨ (¬ n.z > 533248 ∧ rightI n = namesB n))))))))))))) := by
  have hfree : ¬ n.k = 0 → freeI n = false := fun h => decide_eq_false fun e => h (by rw [e]; rfl)
  by_cases h0 : n.k = 0
  · left
    refine ⟨h0, ?_⟩
    unfold rightI usedI lnk
    rw [h0]
    simp
  · right
    refine ⟨h0, ?_⟩
    have hf := hfree h0
    unfold rightI usedI lnk
    rw [hf]
    by_cases h1 : n.k = 1
    · right
      refine ⟨.inl h1, ?_⟩
      by_cases h2 : n.l < 1
      · left; refine ⟨h2, ?_⟩; rw [h1]; simp; omega
      · right; refine ⟨h2, ?_⟩
        by_cases h3 : n.l > 100
        · left; refine ⟨h3, ?_⟩; rw [h1]; simp; omega
        · right; refine ⟨h3, ?_⟩
          right; refine ⟨.inl h1, ?_⟩
          by_cases h4 : n.z < 0
          · left; refine ⟨h4, ?_⟩; rw [h1]; simp; omega
          · right; refine ⟨h4, ?_⟩
            by_cases h5 : n.z > 533248
            · left; refine ⟨h5, ?_⟩; rw [h1]; simp; omega
            · right; refine ⟨h5, ?_⟩; rw [h1]; simp; omega
    · by_cases h1' : n.k = 2
      · right
        refine ⟨.inr h1', ?_⟩
        by_cases h2 : n.l < 1
        · left; refine ⟨h2, ?_⟩; rw [h1']; simp; omega
        · right; refine ⟨h2, ?_⟩
          by_cases h3 : n.l > 100
          · left; refine ⟨h3, ?_⟩; rw [h1']; simp; omega
          · right; refine ⟨h3, ?_⟩
            by_cases h6 : n.l = 1
            · right; refine ⟨.inr h6, ?_⟩
              by_cases h4 : n.z < 0
              · left; refine ⟨h4, ?_⟩; rw [h1']; simp; omega
              · right; refine ⟨h4, ?_⟩
                by_cases h5 : n.z > 533248
                · left; refine ⟨h5, ?_⟩; rw [h1']; simp; omega
                · right; refine ⟨h5, ?_⟩; rw [h1']; simp; omega
            · left; refine ⟨h1', h6, ?_⟩; rw [h1']; simp [h6]
      · left; exact ⟨h1, h1', by rw [if_neg h1, if_neg h1']; rfl⟩
end Go.Proofs.YtjnhibpebikkmaaGreat
