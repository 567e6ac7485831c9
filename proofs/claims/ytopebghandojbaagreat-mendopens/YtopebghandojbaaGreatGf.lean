import Derived.Test.YtopebghandojbaaGreatGd
namespace Go.Proofs.YtopebghandojbaaGreat
open Go.RowKit Go.Maps
theorem RRow.st {s d x y z j : Nat} {w : World} {ov nv av av' : Value} {c : Int} {A : List AT} (h : RRow w av' A) (hs : RSt s w d x y z j ov nv av c) (i : Nat) (v : Value) : RRow (w.setCell ⟨s, i, none⟩ v) av' A :=
  h.same fun b hb => Below.heap_setCell _ _ _ _ (fun e => by
    have e : b = s := e
    subst e
    obtain ⟨cur, hc⟩ := h.own b hb
    unfold RSt at hs; rw [hs] at hc; cases hc)
theorem RK.st {s d x y z j : Nat} {w : World} {ov nv av : Value} {c : Int} {r : Option Nat} {P : Int} {T F S : Nat} {vs : List Value} (h : RK j r w P T F S vs) (hs : RSt s w d x y z j ov nv av c) (i : Nat) (v : Value) : RK j r (w.setCell ⟨s, i, none⟩ v) P T F S vs := by
  obtain ⟨Lv, k1, k2, k3, k4⟩ := id h
  refine h.same (Below.heap_setCell _ _ _ _ (fun e => ?_)) fun a ha => Below.heap_setCell _ _ _ _ (fun e => ?_)
  · have e : j = s := e
    subst e; unfold RI at k2; unfold RSt at hs; rw [hs] at k2; cases k2
  · have e : a = s := e
    subst e; obtain ⟨cur, hc⟩ := k3.own a (k1.trans ha); unfold RSt at hs; rw [hs] at hc; cases hc
end Go.Proofs.YtopebghandojbaaGreat
