import Derived.Test.YtabkfmmbjjchdaaTj
import Derived.Test.YtabkfmmbjjchdaaTi
namespace Go.Proofs.Ytabkfmmbjjchdaa
open Go.RowKit Go.Maps

theorem at_withL {L : List Kx} (h : Rise L) (x : Kx) (c : Int) : at_ (withL L x) c = if x.k = c then x else at_ L c := by
  have uniq : ∀ {M : List Kx}, Rise M → ∀ y ∈ M, y.k = c → lookL M c = some y := by
    intro M hM y hy hk
    unfold lookL
    have hs : (M.find? fun x => x.k == c).isSome = true := by rw [List.find?_isSome]; exact ⟨y, hy, by simpa using hk⟩
    cases hf : M.find? fun x => x.k == c with
    | none => rw [hf] at hs; cases hs
    | some z =>
      have hz := List.mem_of_find?_eq_some hf
      have hzk : z.k = c := by have := List.find?_some hf; simpa using this
      obtain ⟨i, hi, rfl⟩ := List.getElem_of_mem hz
      obtain ⟨j, hj, rfl⟩ := List.getElem_of_mem hy
      rcases Nat.lt_trichotomy i j with hl | hl | hl
      · have := List.pairwise_iff_getElem.1 hM i j hi hj hl; omega
      · subst hl; rfl
      · have := List.pairwise_iff_getElem.1 hM j i hj hi hl; omega
  unfold at_
  by_cases hk : x.k = c
  · rw [if_pos hk, uniq (withL_rise h x) x ((withL_mem h x x).2 (.inl rfl)) hk]
    rfl
  · rw [if_neg hk]
    cases hl : lookL L c with
    | none =>
      have : lookL (withL L x) c = none := by
        unfold lookL at hl ⊢
        rw [List.find?_eq_none] at hl ⊢
        intro y hy
        rcases (withL_mem h x y).1 hy with rfl | ⟨hy, _⟩
        · simpa using hk
        · exact hl y hy
      rw [this]
    | some y =>
      obtain ⟨hy, hyk⟩ := at_some hl
      rw [uniq (withL_rise h x) y ((withL_mem h x y).2 (.inr ⟨hy, by omega⟩)) hyk]
theorem withL_le {L : List Kx} (h : Rise L) (x : Kx) : (withL L x).length ≤ L.length + 1 := by
  rw [withL_len h]; split <;> omega
/-- a step's effect -/
def stpL (L : List Kx) (K c r : Int) (R : Rs) : List Kx := if K = 0 ∨ K = 1 then begL L c r else if K = 2 then donL L c r R else L
theorem begL_or (L : List Kx) (c r : Int) : begL L c r = L ∨ begL L c r = withL L (mkK c r false rz) := by unfold begL; split; exact .inr rfl; exact .inl rfl
theorem donL_or (L : List Kx) (c r : Int) (R : Rs) : donL L c r R = L ∨ donL L c r R = withL L (mkK c r true R) := by unfold donL; split; exact .inr rfl; exact .inl rfl
theorem stpL_le {L : List Kx} (h : Rise L) (K c r : Int) (R : Rs) : (stpL L K c r R).length ≤ L.length + 1 := by
  unfold stpL
  split
  · rcases begL_or L c r with e | e <;> rw [e]
    · omega
    · exact withL_le h _
  · split
    · rcases donL_or L c r R with e | e <;> rw [e]
      · omega
      · exact withL_le h _
    · omega
theorem stpL_other {L : List Kx} (h : Rise L) (K c r : Int) (R : Rs) {d : Int} (hd : c ≠ d) : at_ (stpL L K c r R) d = at_ L d := by
  unfold stpL
  split
  · rcases begL_or L c r with e | e <;> rw [e]
    rw [at_withL h, if_neg (show ¬ (mkK c r false rz).k = d from hd)]
  · split
    · rcases donL_or L c r R with e | e <;> rw [e]
      rw [at_withL h, if_neg (show ¬ (mkK c r true R).k = d from hd)]
    · rfl
/-- two that read the same -/
def sam (x y : Kx) : Prop := x.n = y.n ∧ x.d = y.d ∧ x.e = y.e ∧ x.t = y.t ∧ x.a = y.a ∧ x.b = y.b ∧ x.c = y.c ∧ x.ns = y.ns
theorem sam.refl (x : Kx) : sam x x := ⟨rfl, rfl, rfl, rfl, rfl, rfl, rfl, rfl⟩
theorem room_small {L : List Kx} (h : L.length < 256) (c : Int) : room L c = true := by unfold room; rw [decide_eq_true h, Bool.or_true]
theorem stpL_same {La Lb : List Kx} (ha : Rise La) (hb : Rise Lb) (K c r : Int) (R : Rs) (v u : Value) (h : sam (at_ La c) (at_ Lb c)) (la : La.length < 256) (lb : Lb.length < 256) : sam (at_ (stpL La K c r { R with nv := v }) c) (at_ (stpL Lb K c r { R with nv := u }) c) := by
  have hE : begE La c r = begE Lb c r := by unfold begE; rw [h.1, h.2.1, room_small la, room_small lb]
  have hD : donE La c r = donE Lb c r := by unfold donE; rw [h.1, h.2.1]
  unfold stpL
  split
  · unfold begL
    rw [hE]
    split
    · rw [at_withL ha, at_withL hb, if_pos (show (mkK c r false rz).k = c from rfl), if_pos (show (mkK c r false rz).k = c from rfl)]; exact sam.refl _
    · exact h
  · split
    · unfold donL
      rw [hD]
      split
      · rw [at_withL ha, at_withL hb, if_pos (show (mkK c r true { R with nv := v }).k = c from rfl), if_pos (show (mkK c r true { R with nv := u }).k = c from rfl)]; exact ⟨rfl, rfl, rfl, rfl, rfl, rfl, rfl, rfl⟩
      · exact h
    · exact h
theorem ask_same {x y : Kx} (h : sam x y) (c r : Int) : askS x c r = askS y c r ∧ (askR x c r).e = (askR y c r).e ∧ (askR x c r).t = (askR y c r).t ∧ (askR x c r).a = (askR y c r).a ∧ (askR x c r).b = (askR y c r).b ∧ (askR x c r).c = (askR y c r).c ∧ (askR x c r).ns = (askR y c r).ns := by
  obtain ⟨h1, h2, h3, h4, h5, h6, h7, h8⟩ := h
  unfold askS askR
  rw [h1, h2]
  refine ⟨rfl, ?_⟩
  split
  · exact ⟨h3, h4, h5, h6, h7, h8⟩
  · exact ⟨rfl, rfl, rfl, rfl, rfl, rfl⟩
theorem TB.other {g g' N N' : Nat} {mb mb' : Option Nat} {w w' : World} {La Lb : List Kx} (hb : TB g' mb' w N' Lb) (ha : TB g mb w N La) (k : KQ g mb w w') (h1 : g' ≠ g) (h2 : some g' ≠ mb) (h3 : ∀ x, mb' = some x → x ≠ g ∧ some x ≠ mb) : TB g' mb' w' N' Lb :=
  ⟨(k.block g' hb.lt h1 h2).trans hb.box, hb.non, fun x hx => (hb.map x hx).same (k.block x (hb.map x hx).lt (h3 x hx).1 (h3 x hx).2), fun y hy => (hb.nv y hy).kq ha k⟩
/-- two tables apart, made behind w0 -/
structure AP (w0 : World) (g g' : Nat) (mb mb' : Option Nat) (w : World) (N : Nat) (La Lb : List Kx) : Prop where
  ta : TB g mb w N La
  tb : TB g' mb' w N Lb
  gg : g ≠ g'
  ga : w0.heap.size ≤ g
  gb : w0.heap.size ≤ g'
  ma : ∀ x, mb = some x → w0.heap.size ≤ x ∧ x ≠ g' ∧ mb' ≠ some x
  mc : ∀ x, mb' = some x → w0.heap.size ≤ x ∧ x ≠ g
  be : Below w0.heap.size w0 w
theorem AP.swap {w0 w : World} {g g' N : Nat} {mb mb' : Option Nat} {La Lb : List Kx} (h : AP w0 g g' mb mb' w N La Lb) : AP w0 g' g mb' mb w N Lb La :=
  ⟨h.tb, h.ta, h.gg.symm, h.gb, h.ga, fun x hx => ⟨(h.mc x hx).1, (h.mc x hx).2, fun e => (h.ma x e).2.2 hx⟩, fun x hx => ⟨(h.ma x hx).1, (h.ma x hx).2.1⟩, h.be⟩
theorem AP.below {w0 w w' : World} {g g' N : Nat} {mb mb' : Option Nat} {La Lb : List Kx} (h : AP w0 g g' mb mb' w N La Lb) (k : Below w.heap.size w w') : AP w0 g g' mb mb' w' N La Lb :=
  ⟨h.ta.below k, h.tb.below k, h.gg, h.ga, h.gb, h.ma, h.mc, h.be.next k⟩
theorem AP.step {w0 w w' : World} {g g' N : Nat} {mb mb' mb1 : Option Nat} {La Lb La1 : List Kx} (h : AP w0 g g' mb mb' w N La Lb) (t : TB g mb1 w' (N + 1) La1) (hm : Mb w mb mb1) (k : KQ g mb w w') : AP w0 g g' mb1 mb' w' (N + 1) La1 Lb := by
  have hsz := h.be.size
  have h2 : some g' ≠ mb := fun e => (h.ma g' e.symm).2.1 rfl
  refine ⟨t, (h.tb.other h.ta k h.gg.symm h2 (fun x hx => ⟨(h.mc x hx).2, fun e => (h.ma x e.symm).2.2 hx⟩)).more, h.gg, h.ga, h.gb, fun x hx => ?_, h.mc, KQ.below h.be k h.ga (fun b hb => (h.ma b hb).1) rfl⟩
  rcases hm with e | ⟨_, b, e, hb⟩
  · rw [e] at hx; exact h.ma x hx
  · rw [e] at hx
    cases hx
    refine ⟨by omega, fun e2 => ?_, fun e2 => ?_⟩
    · have := h.tb.lt; omega
    · have := (h.tb.map _ e2).lt; omega
end Go.Proofs.Ytabkfmmbjjchdaa
