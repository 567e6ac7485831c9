import Derived.Test.YtecfibabeimjoaaBt
import Derived.Test.YtecfibabeimjoaaBi
namespace Go.Proofs.Ytecfibabeimjoaa
open Go.RowKit Go.Maps Go.Sort Go.Shelf Classical

/-- how often a message stands in a list -/
noncomputable def cnt (m : Msg) : List Msg → Nat
  | [] => 0
  | x :: l => (if x = m then 1 else 0) + cnt m l
theorem cnt_cons_same (m : Msg) (l : List Msg) : cnt m (m :: l) = cnt m l + 1 := by
  show (if m = m then 1 else 0) + cnt m l = _
  rw [if_pos rfl]; omega
theorem cnt_cons_other {m x : Msg} (h : x ≠ m) (l : List Msg) : cnt m (x :: l) = cnt m l := by
  show (if x = m then 1 else 0) + cnt m l = _
  rw [if_neg h]; omega
theorem cnt_pos {m : Msg} : ∀ {l : List Msg}, m ∈ l ↔ 0 < cnt m l
  | [] => by simp [cnt]
  | x :: l => by
    by_cases h : x = m
    · subst h; rw [cnt_cons_same]; simp
    · rw [cnt_cons_other h, ← cnt_pos (l := l)]
      simp [Ne.symm h]
theorem cnt_le (m : Msg) : ∀ l : List Msg, cnt m l ≤ l.length
  | [] => Nat.le_refl _
  | x :: l => by
    have := cnt_le m l
    by_cases h : x = m
    · subst h; rw [cnt_cons_same]; simp; omega
    · rw [cnt_cons_other h]; simp; omega
/-- a message put in its place -/
noncomputable def ins (m : Msg) : List Msg → List Msg
  | [] => [m]
  | x :: l => if ltP m x then m :: x :: l else x :: ins m l
/-- a message taken once -/
noncomputable def del (m : Msg) : List Msg → List Msg
  | [] => []
  | x :: l => if x = m then l else x :: del m l
theorem ins_pos {m x : Msg} (h : ltP m x) (l : List Msg) : ins m (x :: l) = m :: x :: l := by
  show (if ltP m x then m :: x :: l else x :: ins m l) = _
  rw [if_pos h]
theorem ins_neg {m x : Msg} (h : ¬ ltP m x) (l : List Msg) : ins m (x :: l) = x :: ins m l := by
  show (if ltP m x then m :: x :: l else x :: ins m l) = _
  rw [if_neg h]
theorem del_pos (m : Msg) (l : List Msg) : del m (m :: l) = l := by
  show (if m = m then l else m :: del m l) = _
  rw [if_pos rfl]
theorem del_neg {m x : Msg} (h : x ≠ m) (l : List Msg) : del m (x :: l) = x :: del m l := by
  show (if x = m then l else x :: del m l) = _
  rw [if_neg h]
theorem ins_perm (m : Msg) : ∀ l : List Msg, (ins m l).Perm (m :: l)
  | [] => List.Perm.refl _
  | x :: l => by
    by_cases h : ltP m x
    · rw [ins_pos h]
    · rw [ins_neg h]
      exact ((ins_perm m l).cons x).trans (List.Perm.swap _ _ _)
theorem cnt_perm {m : Msg} {a b : List Msg} (h : a.Perm b) : cnt m a = cnt m b := by
  induction h with
  | nil => rfl
  | cons x _ ih =>
    by_cases e : x = m
    · subst e; rw [cnt_cons_same, cnt_cons_same, ih]
    · rw [cnt_cons_other e, cnt_cons_other e, ih]
  | swap x y l =>
    by_cases e : x = m
    · subst e
      by_cases e2 : y = x
      · subst e2; rfl
      · rw [cnt_cons_other e2, cnt_cons_same, cnt_cons_same, cnt_cons_other e2]
    · by_cases e2 : y = m
      · subst e2; rw [cnt_cons_same, cnt_cons_other e, cnt_cons_other e, cnt_cons_same]
      · rw [cnt_cons_other e2, cnt_cons_other e, cnt_cons_other e, cnt_cons_other e2]
  | trans _ _ i1 i2 => exact i1.trans i2
theorem cnt_ins_same (m : Msg) (l : List Msg) : cnt m (ins m l) = cnt m l + 1 := by rw [cnt_perm (ins_perm m l), cnt_cons_same]
theorem cnt_ins_other {m j : Msg} (h : j ≠ m) (l : List Msg) : cnt j (ins m l) = cnt j l := by rw [cnt_perm (ins_perm m l), cnt_cons_other (Ne.symm h)]
theorem ins_len (m : Msg) (l : List Msg) : (ins m l).length = l.length + 1 := (ins_perm m l).length_eq
theorem del_perm {m : Msg} : ∀ {l : List Msg}, m ∈ l → l.Perm (m :: del m l)
  | [], h => by cases h
  | x :: l, h => by
    by_cases e : x = m
    · subst e; rw [del_pos]
    · rw [del_neg e]
      have hm : m ∈ l := by
        rcases List.mem_cons.1 h with h | h
        · exact absurd h.symm e
        · exact h
      exact ((del_perm hm).cons x).trans (List.Perm.swap _ _ _)
theorem cnt_del_same {m : Msg} {l : List Msg} (h : m ∈ l) : cnt m l = cnt m (del m l) + 1 := by rw [cnt_perm (del_perm h), cnt_cons_same]
theorem cnt_del_other {m j : Msg} {l : List Msg} (h : m ∈ l) (hj : j ≠ m) : cnt j (del m l) = cnt j l := by rw [cnt_perm (del_perm h), cnt_cons_other (Ne.symm hj)]
theorem del_len {m : Msg} {l : List Msg} (h : m ∈ l) : l.length = (del m l).length + 1 := (del_perm h).length_eq
theorem mem_ins {m x : Msg} {l : List Msg} : x ∈ ins m l ↔ x = m ∨ x ∈ l := by rw [(ins_perm m l).mem_iff]; simp
theorem mem_del {m x : Msg} {l : List Msg} (h : m ∈ l) (hx : x ∈ del m l) : x ∈ l := (del_perm h).mem_iff.2 (by simp [hx])
/-- in order, repeated or not -/
def SortedR (l : List Msg) : Prop := l.Pairwise fun a b => ¬ ltP b a
theorem le_of_not {a b c : Msg} (h1 : ¬ ltP b a) (h2 : ¬ ltP c b) : ¬ ltP c a := by
  intro h3
  by_cases h : ltP a b
  · exact h2 (ltP_trans h3 h)
  · have := ltP_tri h h1
    subst this
    exact h2 h3
theorem ins_sorted (m : Msg) : ∀ {l : List Msg}, SortedR l → SortedR (ins m l)
  | [], _ => by unfold SortedR ins; simp
  | x :: l, h => by
    obtain ⟨h1, h2⟩ := List.pairwise_cons.1 h
    by_cases e : ltP m x
    · rw [ins_pos e]
      refine List.pairwise_cons.2 ⟨fun y hy => ?_, h⟩
      have hmx : ¬ ltP x m := fun k => ltP_irr _ (ltP_trans e k)
      rcases List.mem_cons.1 hy with rfl | hy
      · exact hmx
      · exact le_of_not hmx (h1 y hy)
    · rw [ins_neg e]
      refine List.pairwise_cons.2 ⟨fun y hy => ?_, ins_sorted m h2⟩
      rcases mem_ins.1 hy with rfl | hy
      · exact e
      · exact h1 y hy
theorem del_sub (m : Msg) : ∀ l : List Msg, (del m l).Sublist l
  | [] => List.Sublist.refl _
  | x :: l => by
    by_cases e : x = m
    · subst e; rw [del_pos]; exact List.sublist_cons_self _ _
    · rw [del_neg e]; exact (del_sub m l).cons_cons x
theorem del_sorted (m : Msg) {l : List Msg} (h : SortedR l) : SortedR (del m l) := h.sublist (del_sub m l)
/-- each once -/
noncomputable def dd : List Msg → List Msg
  | [] => []
  | [x] => [x]
  | x :: y :: l => if x = y then dd (y :: l) else x :: dd (y :: l)
theorem mem_dd : ∀ {l : List Msg} {x : Msg}, x ∈ dd l ↔ x ∈ l
  | [], x => by simp [dd]
  | [y], x => by simp [dd]
  | a :: b :: l, x => by
    unfold dd
    by_cases e : a = b
    · rw [if_pos e, mem_dd (l := b :: l), e]; simp
    · rw [if_neg e, List.mem_cons, mem_dd (l := b :: l), List.mem_cons (b := a)]
theorem dd_sorted : ∀ {l : List Msg}, SortedR l → Sorted (dd l)
  | [], _ => by unfold Sorted dd; simp
  | [y], _ => by unfold Sorted dd; simp
  | a :: b :: l, h => by
    obtain ⟨h1, h2⟩ := List.pairwise_cons.1 h
    have ih := dd_sorted (l := b :: l) h2
    unfold dd
    by_cases e : a = b
    · rw [if_pos e]; exact ih
    · rw [if_neg e]
      refine List.pairwise_cons.2 ⟨fun y hy => ?_, ih⟩
      have hab : ltP a b := by
        by_cases k : ltP a b
        · exact k
        · exact absurd (ltP_tri k (h1 b (by simp))) e
      have hy' := mem_dd.1 hy
      rcases List.mem_cons.1 hy' with rfl | hy'
      · exact hab
      · have hby := (List.pairwise_cons.1 h2).1 y hy'
        by_cases k : ltP a y
        · exact k
        · have hay := h1 y (by simp [hy'])
          have := ltP_tri k hay
          subst this
          exact absurd hab hby
theorem sorted_unique {a b : List Msg} (ha : Sorted a) (hb : Sorted b) (h : ∀ x, x ∈ a ↔ x ∈ b) : a = b := by
  have key : ∀ l : List Msg, Sorted l → l.Nodup := fun l h => List.Pairwise.imp (R := ltP) (fun {x y} (hxy : ltP x y) (e : x = y) => ltP_irr y (by rw [e] at hxy; exact hxy)) h
  have na := key a ha
  have nb := key b hb
  have hp : a.Perm b := (List.perm_ext_iff_of_nodup na nb).2 h
  exact List.Perm.eq_of_pairwise (le := ltP) (fun x y _ _ h1 h2 => absurd (ltP_trans h1 h2) (ltP_irr _)) ha hb hp
/-- how often the map has each -/
noncomputable def fL (L : List Msg) (m : Msg) : Option Int := if cnt m L = 0 then none else some (cnt m L : Int)
theorem fL_some {L : List Msg} {m : Msg} (h : m ∈ L) : fL L m = some (cnt m L : Int) := by
  have := cnt_pos.1 h
  unfold fL; rw [if_neg (by omega)]
theorem fL_none {L : List Msg} {m : Msg} (h : m ∉ L) : fL L m = none := by
  unfold fL
  rw [if_pos]
  by_cases k : 0 < cnt m L
  · exact absurd (cnt_pos.2 k) h
  · omega
theorem fL_getD (L : List Msg) (m : Msg) : (fL L m).getD 0 = (cnt m L : Int) := by
  unfold fL
  by_cases h : cnt m L = 0
  · rw [if_pos h, h]; rfl
  · rw [if_neg h]; rfl
theorem fL_isSome {L : List Msg} {m : Msg} : (fL L m).isSome = true ↔ m ∈ L := by
  by_cases h : m ∈ L
  · rw [fL_some h]; simp [h]
  · rw [fL_none h]; simp [h]
theorem fL_ins (L : List Msg) (m : Msg) : fL (ins m L) = upd (fL L) m (some ((fL L m).getD 0 + 1)) := by
  funext j
  by_cases e : j = m
  · subst e
    rw [upd_same, fL_getD, fL_some (mem_ins.2 (.inl rfl)), cnt_ins_same]
    simp
  · rw [upd_other _ _ e]
    unfold fL
    rw [cnt_ins_other e]
theorem fL_del1 {L : List Msg} {m : Msg} (h : m ∈ L) (h1 : cnt m L = 1) : fL (del m L) = upd (fL L) m none := by
  funext j
  by_cases e : j = m
  · subst e
    rw [upd_same]
    have := cnt_del_same h
    unfold fL
    rw [if_pos (by omega)]
  · rw [upd_other _ _ e]
    unfold fL
    rw [cnt_del_other h e]
theorem fL_del2 {L : List Msg} {m : Msg} (h : m ∈ L) (h1 : 2 ≤ cnt m L) : fL (del m L) = upd (fL L) m (some ((cnt m L : Int) - 1)) := by
  funext j
  by_cases e : j = m
  · subst e
    rw [upd_same]
    have := cnt_del_same h
    unfold fL
    rw [if_neg (by omega)]
    congr 1
    omega
  · rw [upd_other _ _ e]
    unfold fL
    rw [cnt_del_other h e]
end Go.Proofs.Ytecfibabeimjoaa
