import Derived.Test.YtabkfmmbjjchdaaUh
import Derived.Test.YtabkfmmbjjchdaaTk
namespace Go.Proofs.Ytabkfmmbjjchdaa
open Go.RowKit Go.Maps

/-- the program's rows and the document's: alike but for where the names lie -/
def twin : List Kx → List Kx → Prop
  | [], [] => True
  | x :: l, y :: m => (x.k = y.k ∧ sam x y) ∧ twin l m
  | _, _ => False
theorem twin.length : ∀ {L R : List Kx} (_ : twin L R), L.length = R.length
  | [], [], _ => rfl
  | _ :: _, _ :: _, h => congrArg (· + 1) (twin.length h.2)
  | [], _ :: _, h => h.elim
  | _ :: _, [], h => h.elim
theorem twin.look : ∀ {L R : List Kx} (_ : twin L R) (c : Int), (lookL L c).isSome = (lookL R c).isSome ∧ sam (at_ L c) (at_ R c)
  | [], [], _, c => ⟨rfl, sam.refl _⟩
  | x :: l, y :: m, h, c => by
    have ih := twin.look h.2 c
    by_cases hx : x.k = c
    · have hy : y.k = c := by rw [← h.1.1]; exact hx
      have e1 : lookL (x :: l) c = some x := by simp [lookL, hx]
      have e2 : lookL (y :: m) c = some y := by simp [lookL, hy]
      unfold at_
      rw [e1, e2]
      exact ⟨rfl, h.1.2⟩
    · have hy : ¬ y.k = c := by rw [← h.1.1]; exact hx
      have e1 : lookL (x :: l) c = lookL l c := by simp [lookL, hx]
      have e2 : lookL (y :: m) c = lookL m c := by simp [lookL, hy]
      unfold at_ at ih ⊢
      rw [e1, e2]
      exact ih
  | [], _ :: _, h, _ => h.elim
  | _ :: _, [], h, _ => h.elim
theorem twin.with : ∀ {L R : List Kx} (_ : twin L R) {x y : Kx} (_ : x.k = y.k) (_ : sam x y), twin (withL L x) (withL R y)
  | [], [], _, _, _, hk, hs => ⟨⟨hk, hs⟩, trivial⟩
  | a :: l, b :: m, h, x, y, hk, hs => by
    have ih := twin.with h.2 hk hs
    unfold withL
    rw [h.1.1, hk]
    by_cases h1 : b.k < y.k
    · rw [if_pos h1, if_pos h1]
      exact ⟨h.1, ih⟩
    · rw [if_neg h1, if_neg h1]
      by_cases h2 : b.k = y.k
      · rw [if_pos h2, if_pos h2]
        exact ⟨⟨hk, hs⟩, h.2⟩
      · rw [if_neg h2, if_neg h2]
        exact ⟨⟨hk, hs⟩, h.1, h.2⟩
  | [], _ :: _, h, _, _, _, _ => h.elim
  | _ :: _, [], h, _, _, _, _ => h.elim
theorem twin.room {L R : List Kx} (h : twin L R) (c : Int) : room L c = room R c := by
  unfold Ytabkfmmbjjchdaa.room
  rw [(h.look c).1, h.length]
theorem twin.begE {L R : List Kx} (h : twin L R) (c q : Int) : begE L c q = begE R c q := by
  have hs := (h.look c).2
  unfold Ytabkfmmbjjchdaa.begE
  rw [hs.1, hs.2.1, h.room]
theorem twin.donE {L R : List Kx} (h : twin L R) (c q : Int) : donE L c q = donE R c q := by
  have hs := (h.look c).2
  unfold Ytabkfmmbjjchdaa.donE
  rw [hs.1, hs.2.1]
theorem twin.begL {L R : List Kx} (h : twin L R) (c q : Int) : twin (begL L c q) (begL R c q) := by
  unfold Ytabkfmmbjjchdaa.begL
  rw [h.begE]
  by_cases e : Ytabkfmmbjjchdaa.begE R c q = 0
  · rw [if_pos e, if_pos e]
    exact h.with rfl (sam.refl _)
  · rw [if_neg e, if_neg e]
    exact h
theorem twin.donL {L R : List Kx} (h : twin L R) (c q : Int) (X : Rs) (v u : Value) : twin (donL L c q { X with nv := v }) (donL R c q { X with nv := u }) := by
  unfold Ytabkfmmbjjchdaa.donL
  rw [h.donE]
  by_cases e : Ytabkfmmbjjchdaa.donE R c q = 0
  · rw [if_pos e, if_pos e]
    exact h.with rfl ⟨rfl, rfl, rfl, rfl, rfl, rfl, rfl, rfl⟩
  · rw [if_neg e, if_neg e]
    exact h
theorem twin.askS {L R : List Kx} (h : twin L R) (c q : Int) : askS (at_ L c) c q = askS (at_ R c) c q := by
  have hs := (h.look c).2
  unfold Ytabkfmmbjjchdaa.askS
  rw [hs.1, hs.2.1]
end Go.Proofs.Ytabkfmmbjjchdaa
