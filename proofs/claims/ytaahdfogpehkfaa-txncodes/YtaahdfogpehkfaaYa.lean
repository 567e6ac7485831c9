import Derived.Test.YtaahdfogpehkfaaTl
namespace Go.Proofs.Ytaahdfogpehkfaa
open Go.RowKit Go.Maps
/-- what changes make of a block -/
def look (at' : Int) (d : ByteArray) : List Chg → ByteArray
  | [] => d
  | c :: l => look at' (if c.b = at' then c.d else d) l
theorem look_snoc (at' : Int) : ∀ (l : List Chg) (d : ByteArray) (c : Chg), look at' d (l ++ [c]) = if c.b = at' then c.d else look at' d l
  | [], d, c => rfl
  | x :: l, d, c => by
    show look at' _ (l ++ [c]) = _
    rw [look_snoc at' l]; rfl
theorem look_none (at' : Int) : ∀ (l : List Chg) (d : ByteArray), (∀ c ∈ l, c.b ≠ at') → look at' d l = d
  | [], _, _ => rfl
  | x :: l, d, h => by
    show look at' (if x.b = at' then x.d else d) l = d
    rw [if_neg (h x (by simp))]
    exact look_none at' l d (fun c hc => h c (by simp [hc]))
theorem look_some (at' : Int) : ∀ (l : List Chg) (d : ByteArray), Rise l → ∀ c ∈ l, c.b = at' → look at' d l = c.d
  | [], _, _, c, hc, _ => by cases hc
  | x :: l, d, h, c, hc, hb => by
    unfold Rise at h
    rw [List.pairwise_cons] at h
    show look at' (if x.b = at' then x.d else d) l = c.d
    rcases List.mem_cons.1 hc with rfl | hc
    · rw [if_pos hb]
      exact look_none at' l _ (fun y hy => by have := h.1 y hy; omega)
    · exact look_some at' l _ h.2 c hc hb
/-- to merge is to change first by the one, then by the other -/
theorem look_merge (at' : Int) (a b : List Chg) (d : ByteArray) (ha : Rise a) (hb : Rise b) : look at' d (mergeL a b) = look at' (look at' d a) b := by
  have hm := mergeL_mem ha hb
  have hr := mergeL_rise (b := b) ha
  by_cases h1 : ∃ c ∈ b, c.b = at'
  · obtain ⟨c, hc, e⟩ := h1
    rw [look_some at' b _ hb c hc e]
    exact look_some at' _ _ hr c ((hm c).2 (.inl hc)) e
  · have h1' : ∀ c ∈ b, c.b ≠ at' := fun c hc e => h1 ⟨c, hc, e⟩
    rw [look_none at' b _ h1']
    by_cases h2 : ∃ c ∈ a, c.b = at'
    · obtain ⟨c, hc, e⟩ := h2
      rw [look_some at' a _ ha c hc e]
      refine look_some at' _ _ hr c ((hm c).2 (.inr ⟨hc, fun y hy => ?_⟩)) e
      have := h1' y hy; omega
    · have h2' : ∀ c ∈ a, c.b ≠ at' := fun c hc e => h2 ⟨c, hc, e⟩
      rw [look_none at' a _ h2']
      refine look_none at' _ _ (fun c hc => ?_)
      rcases (hm c).1 hc with h | h
      · exact h1' c h
      · exact h2' c h.1
theorem merge_assoc {a b c : List Chg} (ha : Rise a) (hb : Rise b) (hc : Rise c) : mergeL (mergeL a b) c = mergeL a (mergeL b c) := by
  refine rise_unique (mergeL_rise (mergeL_rise ha)) (mergeL_rise ha) (fun x => ?_)
  rw [mergeL_mem (mergeL_rise ha) hc, mergeL_mem ha hb, mergeL_mem ha (mergeL_rise hb), mergeL_mem hb hc]
  have hm := mergeL_mem hb hc
  constructor
  · rintro (h | ⟨h | ⟨h1, h2⟩, h3⟩)
    · exact .inl (.inl h)
    · exact .inl (.inr ⟨h, h3⟩)
    · refine .inr ⟨h1, fun y hy => ?_⟩
      rcases (hm y).1 hy with k | k
      · exact h3 y k
      · exact h2 y k.1
  · rintro ((h | h) | ⟨h1, h2⟩)
    · exact .inl h
    · exact .inr ⟨.inl h.1, h.2⟩
    · have k3 : ∀ y ∈ c, x.b ≠ y.b := fun y hy => h2 y ((hm y).2 (.inl hy))
      refine .inr ⟨.inr ⟨h1, fun y hy e => ?_⟩, k3⟩
      exact h2 y ((hm y).2 (.inr ⟨hy, fun z hz => by have := k3 z hz; omega⟩)) e
theorem merge_self {a : List Chg} (ha : Rise a) : mergeL a a = a := by
  refine rise_unique (mergeL_rise ha) ha (fun x => ?_)
  rw [mergeL_mem ha ha]
  constructor
  · rintro (h | h)
    · exact h
    · exact h.1
  · exact .inl
theorem merge_right {a b : List Chg} (ha : right a = true) (hb : right b = true) (h : (mergeL a b).length ≤ 48) : right (mergeL a b) = true := by
  obtain ⟨_, a1, a2⟩ := right_iff.1 ha
  obtain ⟨_, b1, b2⟩ := right_iff.1 hb
  refine right_iff.2 ⟨h, mergeL_rise a1, fun x hx => ?_⟩
  rcases (mergeL_mem a1 b1 x).1 hx with k | k
  · exact b2 x k
  · exact a2 x k.1
theorem mRes_zero {a b : List Chg} (h : (mRes a b).1 = 0) : right a = true ∧ right b = true ∧ (mergeL a b).length ≤ 48 ∧ mRes a b = (0, mergeL a b) := by
  unfold mRes at *
  cases h1 : right a && right b with
  | false => rw [h1] at h; simp at h
  | true =>
    rw [h1] at h
    rw [Bool.and_eq_true] at h1
    simp only [if_true] at h ⊢
    by_cases h2 : 48 < (mergeL a b).length
    · rw [if_pos h2] at h; simp at h
    · rw [if_neg h2]; exact ⟨h1.1, h1.2, by omega, rfl⟩
theorem mRes_of {a b : List Chg} (ha : right a = true) (hb : right b = true) : mRes a b = if 48 < (mergeL a b).length then (2, []) else (0, mergeL a b) := by
  unfold mRes; rw [ha, hb]; rfl
theorem mRes_cases (a b : List Chg) : (mRes a b).1 = 0 ∨ (mRes a b).2 = [] ∧ ((mRes a b).1 = 2 ∨ (mRes a b).1 = 70) := by
  unfold mRes
  split
  · split
    · exact .inr ⟨rfl, .inl rfl⟩
    · exact .inl rfl
  · exact .inr ⟨rfl, .inr rfl⟩
/-- which two are merged first says nothing -/
theorem three {a b c : List Chg} (h1 : (mRes a b).1 = 0) (h2 : (mRes b c).1 = 0) : mRes (mRes a b).2 c = mRes a (mRes b c).2 ∧ mRes a a = (0, a) := by
  obtain ⟨ra, rb, l1, e1⟩ := mRes_zero h1
  obtain ⟨_, rc, l2, e2⟩ := mRes_zero h2
  rw [e1, e2]
  obtain ⟨a0, a1, _⟩ := right_iff.1 ra
  obtain ⟨_, b1, _⟩ := right_iff.1 rb
  obtain ⟨_, c1, _⟩ := right_iff.1 rc
  refine ⟨?_, ?_⟩
  · rw [mRes_of (merge_right ra rb l1) rc, mRes_of ra (merge_right rb rc l2), merge_assoc a1 b1 c1]
  · rw [mRes_of ra ra, merge_self a1, if_neg (by omega)]
end Go.Proofs.Ytaahdfogpehkfaa
