import Derived.Test.YtmcahiebcflfoaaLh
import Derived.Test.YtmcahiebcflfoaaOs
namespace Go.Proofs.Ytmcahiebcflfoaa
open Go.RowKit Go.Maps
/-- a journal, its region, and what the law has of it -/
structure PB (W : World) (g : Nat) (r : Option Nat) (rb : Nat) (w : World) (P T F S : Nat) (M : List Int) (hd : ByteArray) (A : List ByteArray) (hv : Value) (vs : List Value) (Ls : List (List Chg)) : Prop where
  js : JS g r w P T F S M
  rg : RG w rb (hd :: A)
  hr : VRow w hv vs
  hl : vs.length = Ls.length
  hc : ∀ i (hi : i < vs.length) (hj : i < Ls.length), CLie W vs[i] Ls[i]
  al : A.length = P
  az : ∀ b ∈ A, b.size = 128
  ri : ∀ L ∈ Ls, right L = true
  n1 : rb ≠ g
  n2 : some rb ≠ r
  n3 : ∀ x, hv.ownBlock = some x → x ≠ g ∧ some x ≠ r ∧ x ≠ rb
  b1 : W.heap.size ≤ g
  b2 : ∀ x, r = some x → W.heap.size ≤ x
  b3 : W.heap.size ≤ rb
  b4 : ∀ x, hv.ownBlock = some x → W.heap.size ≤ x
section
variable {W : World} {g : Nat} {r : Option Nat} {rb : Nat} {w w' : World} {P T F S : Nat} {M : List Int} {hd : ByteArray} {A : List ByteArray} {hv : Value} {vs : List Value} {Ls : List (List Chg)}
theorem PB.hlt (h : PB W g r rb w P T F S M hd A hv vs Ls) : ∀ x, hv.ownBlock = some x → x < w.heap.size := fun x hx => by
  obtain ⟨cur, hc⟩ := h.hr.own x hx
  exact lt_of_block hc
theorem PB.keep (h : PB W g r rb w P T F S M hd A hv vs Ls) (k : Below w.heap.size w w') : PB W g r rb w' P T F S M hd A hv vs Ls :=
  ⟨h.js.below k, h.rg.same (k.block rb h.rg.lt), h.hr.same fun x hx => k.block x (h.hlt x hx), h.hl, h.hc, h.al, h.az, h.ri, h.n1, h.n2, h.n3, h.b1, h.b2, h.b3, h.b4⟩
theorem PB.jstep {r' : Option Nat} {T' F' S' : Nat} {M' : List Int} (h : PB W g r rb w P T F S M hd A hv vs Ls) (hj : JS g r' w' P T' F' S' M') (hn : New w r r') (hf : JFr g r w w') : PB W g r' rb w' P T' F' S' M' hd A hv vs Ls ∧ Below W.heap.size w w' := by
  have hB : W.heap.size ≤ w.heap.size := Nat.le_trans h.b1 (Nat.le_of_lt h.js.lt.1)
  have hrl := h.rg.lt
  refine ⟨⟨hj, h.rg.same (hf.block rb hrl h.n1 h.n2), h.hr.same fun x hx => hf.block x (h.hlt x hx) (h.n3 x hx).1 (h.n3 x hx).2.1, h.hl, h.hc, h.al, h.az, h.ri, h.n1, ?_, fun x hx => ⟨(h.n3 x hx).1, ?_, (h.n3 x hx).2.2⟩, h.b1, fun x hx => ?_, h.b3, h.b4⟩, hf.below hB h.b1 h.b2⟩
  · rcases hn with rfl | ⟨k, rfl, hk⟩
    · exact h.n2
    · intro e; cases e; omega
  · have := h.hlt x hx
    rcases hn with rfl | ⟨k, rfl, hk⟩
    · exact (h.n3 x hx).2.1
    · intro e; cases e; omega
  · rcases hn with rfl | ⟨k, rfl, hk⟩
    · exact h.b2 x hx
    · cases hx; omega
theorem PB.rset (h : PB W g r rb w P T F S M hd A hv vs Ls) {i : Nat} {x hd' : ByteArray} {A' : List ByteArray} (hi : i < A.length + 1) (he : (hd :: A).set i x = hd' :: A') (hx : x.size = 128) : PB W g r rb (w.setCell ⟨rb, i, none⟩ (.string x)) P T F S M hd' A' hv vs Ls ∧ Below W.heap.size w (w.setCell ⟨rb, i, none⟩ (.string x)) := by
  have hs : ∀ y, y ≠ rb → (w.setCell ⟨rb, i, none⟩ (.string x)).heap[y]? = w.heap[y]? := fun y hy => Below.heap_setCell _ _ _ _ hy
  have hrg := h.rg.set (i := i) (by simpa using hi) x
  rw [he] at hrg
  have hl : A'.length = A.length := by
    have := congrArg List.length he
    simpa using this.symm
  refine ⟨⟨h.js.set h.n1 h.n2 _ _, hrg, h.hr.same fun y hy => hs y (h.n3 y hy).2.2, h.hl, h.hc, hl.trans h.al, fun b hb => ?_, h.ri, h.n1, h.n2, h.n3, h.b1, h.b2, h.b3, h.b4⟩, (Below.refl _ _).setCell h.b3 _⟩
  cases i with
  | zero =>
    simp only [List.set_cons_zero] at he
    injection he with e1 e2
    subst e2
    exact h.az b hb
  | succ i =>
    simp only [List.set_cons_succ] at he
    injection he with e1 e2
    subst e2
    rcases List.mem_or_eq_of_mem_set hb with hb | hb
    · exact h.az b hb
    · rw [hb]; exact hx
theorem PB.hstep {hv' : Value} {vs' : List Value} {Ls' : List (List Chg)} (h : PB W g r rb w P T F S M hd A hv vs Ls) (hr : VRow w' hv' vs') (hg : w.grownBy w' hv.ownBlock) (hn : hv'.ownBlock = hv.ownBlock ∨ ∃ k, hv'.ownBlock = some k ∧ w.heap.size ≤ k) (hl : vs'.length = Ls'.length) (hc : ∀ i (hi : i < vs'.length) (hj : i < Ls'.length), CLie W vs'[i] Ls'[i]) (hri : ∀ L ∈ Ls', right L = true) :
    PB W g r rb w' P T F S M hd A hv' vs' Ls' ∧ Below W.heap.size w w' := by
  have hjl := h.js.lt
  have hrl := h.rg.lt
  have hB : W.heap.size ≤ w.heap.size := Nat.le_trans h.b1 (Nat.le_of_lt hjl.1)
  refine ⟨⟨h.js.same (hg.block g hjl.1 fun e => (h.n3 g e.symm).1 rfl) (fun x hx => hg.block x (hjl.2 x hx).1 fun e => (h.n3 x e.symm).2.1 hx.symm), h.rg.same (hg.block rb hrl fun e => (h.n3 rb e.symm).2.2 rfl), hr, hl, hc, h.al, h.az, hri, h.n1, h.n2, fun x hx => ?_, h.b1, h.b2, h.b3, fun x hx => ?_⟩, ⟨hg.os, hg.tape, hg.output, hg.size, fun k hk => hg.block k (by omega) fun e => by have := h.b4 k e.symm; omega⟩⟩
  · rcases hn with e | ⟨k, e, hk⟩
    · exact h.n3 x (e.symm.trans hx)
    · rw [hx] at e
      cases e
      refine ⟨by omega, fun e => ?_, by omega⟩
      have := (hjl.2 x e.symm).1
      omega
  · rcases hn with e | ⟨k, e, hk⟩
    · exact h.b4 x (e.symm.trans hx)
    · rw [hx] at e
      cases e
      omega
theorem PB.hslice {hv' : Value} {k : Nat} (h : PB W g r rb w P T F S M hd A hv vs Ls) (hr : VRow w hv' (vs.drop k)) (e : hv'.ownBlock = hv.ownBlock) : PB W g r rb w P T F S M hd A hv' (vs.drop k) (Ls.drop k) :=
  ⟨h.js, h.rg, hr, by rw [List.length_drop, List.length_drop, h.hl], fun i hi hj => by
    rw [List.length_drop] at hi hj
    rw [List.getElem_drop, List.getElem_drop]
    exact h.hc (k + i) (by omega) (by omega), h.al, h.az, fun L hL => h.ri L (List.mem_of_mem_drop hL), h.n1, h.n2, fun x hx => h.n3 x (e.symm.trans hx), h.b1, h.b2, h.b3, fun x hx => h.b4 x (e.symm.trans hx)⟩
end
/-- a slice reads as picks -/
def BLie (w : World) (v : Value) (l : List Bool) : Prop :=
  ∃ ao cap, v = .slice ao l.length cap ∧ l.length ≤ cap ∧ cap ≤ maxLen ∧ ∀ i (hi : i < l.length), ∃ gb off, ao = some ⟨gb, off, none⟩ ∧ gb < w.heap.size ∧ w.cell? ⟨gb, off + i, none⟩ = some (.bool l[i])
theorem BLie.nil (w : World) : BLie w (.slice none 0 0) [] := ⟨none, 0, rfl, Nat.le_refl _, by decide, fun i hi => by simp at hi⟩
/-- what the region holds of the transactions -/
structure RV (T F S : Nat) (A : List ByteArray) (Ls : List (List Chg)) (all : Prop) : Prop where
  a : all → (rot A T).take (used Ls) = encs F Ls
  s : (rot A T).take (used (Ls.take S)) = encs F (Ls.take S)
theorem map_szL_take (Ls : List (List Chg)) (k : Nat) : sumI ((Ls.map szL).take k) = (used (Ls.take k) : Int) := by rw [← List.map_take, sum_used]
theorem RV.done {T F S P k : Nat} {A : List ByteArray} {Ls : List (List Chg)} (h : RV T F S A Ls True) (hA : A.length = P) (hT : T < P) (hk : k ≤ S) (hS : S ≤ Ls.length) (hu : used Ls ≤ P) : RV ((T + used (Ls.take k)) % P) (F + k) (S - k) A (Ls.drop k) True := by
  subst hA
  have hc := used_cut Ls k
  have hrl := rot_len A (T := T) (by omega)
  have e1 := rot_rot A (T := T) (u := used (Ls.take k)) hT (by omega)
  have hh := h.a trivial
  have key : (rot (rot A T) (used (Ls.take k))).take (used (Ls.drop k)) = encs (F + k) (Ls.drop k) := by
    have e2 := encs_app F (Ls.take k) (Ls.drop k)
    rw [List.take_append_drop, ← hh, show (Ls.take k).length = k by rw [List.length_take]; omega] at e2
    show ((rot A T).drop (used (Ls.take k)) ++ _).take _ = _
    rw [List.take_append_of_le_length (by rw [List.length_drop]; omega)]
    have e3 : ((rot A T).take (used Ls)).drop (used (Ls.take k)) = encs (F + k) (Ls.drop k) := by
      rw [e2, ← encs_len F (Ls.take k), List.drop_left]
    rw [← e3, List.drop_take]
    congr 1
    omega
  refine ⟨fun _ => by rw [e1]; exact key, ?_⟩
  rw [e1]
  have hc2 := used_cut (Ls.drop k) (S - k)
  have e4 := encs_app (F + k) ((Ls.drop k).take (S - k)) ((Ls.drop k).drop (S - k))
  rw [List.take_append_drop] at e4
  have e5 : (rot (rot A T) (used (Ls.take k))).take (used ((Ls.drop k).take (S - k))) = ((rot (rot A T) (used (Ls.take k))).take (used (Ls.drop k))).take (used ((Ls.drop k).take (S - k))) := by
    rw [List.take_take]
    congr 1
    omega
  rw [e5, key, e4, ← encs_len (F + k) ((Ls.drop k).take (S - k)), List.take_left]
theorem RV.seal {T F S : Nat} {A : List ByteArray} {Ls : List (List Chg)} (h : RV T F S A Ls True) : RV T F Ls.length A Ls True := by
  refine ⟨h.a, ?_⟩
  rw [List.take_length]
  exact h.a trivial
theorem RV.weaken {T F S : Nat} {A : List ByteArray} {Ls : List (List Chg)} {p q : Prop} (h : RV T F S A Ls p) (k : q → p) : RV T F S A Ls q := ⟨fun hq => h.a (k hq), h.s⟩
end Go.Proofs.Ytmcahiebcflfoaa
