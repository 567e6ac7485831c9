import Derived.Test.YtmcahiebcflfoaaLd
import Derived.Test.YtmcahiebcflfoaaKe
namespace Go.Proofs.Ytmcahiebcflfoaa
open Go.RowKit Go.Maps
/-- a row of transactions' slices, of which so many are laid -/
def TR (w : World) (tb n : Nat) (vs : List Value) (Ls : List (List Chg)) : Prop :=
  ∃ cur, w.heap[tb]? = some (.cells cur 31 (0, 0)) ∧ cur.size = n ∧ vs.length = Ls.length ∧ (∀ i (hi : i < vs.length), cur[i]? = some vs[i]) ∧ ∀ i (hi : i < vs.length) (hj : i < Ls.length), CLie w vs[i] Ls[i]
theorem mkV (n : Nat) (hn : n ≤ 300) : ∃ cs, (∀ w : World, (Instr.makeSlice 54 (.int .i64 (n : Int)) (.int .i64 (n : Int))).run Try.prog w = .ok (.slice (some ⟨w.heap.size, 0, none⟩) n n) (w.alloc (.cells cs 31))) ∧ ∀ (w : World), TR (w.alloc (.cells cs 31)) w.heap.size n [] [] := by
  obtain ⟨i0, hi, hz0, hz1, hz2⟩ := info_parts Try.infoV31
  refine ⟨madeCells (Value.slice none 0 0).cells n, fun w => ?_, fun w => ⟨_, box_at _ _, by simp [size_madeCells], rfl, fun i hi => by simp at hi, fun i hi => by simp at hi⟩⟩
  have := run_makeSlice (P := Try.prog) w 54 31 i0 (.slice none 0 0) Try.underlying54 hi hz0 .i64 .i64 (n : Int) (n : Int) (by omega) (by omega) (by rw [hz1]; omega) (by rw [hz2]; omega) (by omega)
  have e1 : (n : Int).toNat = n := by omega
  rw [e1, hz1, Nat.mul_one] at this
  exact this
/-- Open's journal, and the transactions told so far -/
structure OS (B g : Nat) (r : Option Nat) (tb : Nat) (w : World) (P : Int) (T F S : Nat) (M : List Int) (Ls : List (List Chg)) (vs : List Value) : Prop where
  js : JS g r w P T F S M
  tr : TR w tb S vs Ls
  a1 : tb ≠ g
  a2 : some tb ≠ r
  vo : ∀ v ∈ vs, ∀ x, v.ownBlock = some x → B ≤ x ∧ x < w.heap.size ∧ x ≠ g ∧ some x ≠ r ∧ x ≠ tb
  b1 : B ≤ g
  b2 : ∀ x, r = some x → B ≤ x
  b3 : B ≤ tb
theorem OS.tlt {B g tb : Nat} {r : Option Nat} {w : World} {P : Int} {T F S : Nat} {M : List Int} {Ls : List (List Chg)} {vs : List Value} (h : OS B g r tb w P T F S M Ls vs) : tb < w.heap.size := by
  obtain ⟨cur, k, _⟩ := h.tr
  exact lt_of_block k
theorem TR.same {w w' : World} {tb n : Nat} {vs : List Value} {Ls : List (List Chg)} (h : TR w tb n vs Ls) (hs : w.heap.size ≤ w'.heap.size) (k : w'.heap[tb]? = w.heap[tb]?) (kv : ∀ v ∈ vs, ∀ x, v.ownBlock = some x → w'.heap[x]? = w.heap[x]?) : TR w' tb n vs Ls := by
  obtain ⟨cur, h1, h2, h3, h4, h5⟩ := h
  exact ⟨cur, k.trans h1, h2, h3, h4, fun i hi hj => (h5 i hi hj).same hs (kv _ (List.getElem_mem hi))⟩
theorem OS.keep {B g tb : Nat} {r : Option Nat} {w w' : World} {P : Int} {T F S : Nat} {M : List Int} {Ls : List (List Chg)} {vs : List Value} (h : OS B g r tb w P T F S M Ls vs) (k : Below w.heap.size w w') : OS B g r tb w' P T F S M Ls vs :=
  ⟨h.js.below k, h.tr.same k.size (k.block tb h.tlt) (fun v hv x hx => k.block x (h.vo v hv x hx).2.1), h.a1, h.a2, fun v hv x hx => by
    have := h.vo v hv x hx
    have := k.size
    exact ⟨by omega, by omega, (h.vo v hv x hx).2.2⟩, h.b1, h.b2, h.b3⟩
theorem OS.jstep {B g tb : Nat} {r r' : Option Nat} {w w' : World} {P : Int} {T F S T' F' S' : Nat} {M M' : List Int} {Ls : List (List Chg)} {vs : List Value} (h : OS B g r tb w P T F S M Ls vs) (hS : S' = S) (hj : JS g r' w' P T' F' S' M') (hn : New w r r') (hf : JFr g r w w') : OS B g r' tb w' P T' F' S' M' Ls vs ∧ Below B w w' := by
  subst hS
  have hB : B ≤ w.heap.size := Nat.le_trans h.b1 (Nat.le_of_lt h.js.lt.1)
  have ht := h.tlt
  refine ⟨⟨hj, h.tr.same hf.size (hf.block tb ht h.a1 h.a2) (fun v hv x hx => hf.block x (h.vo v hv x hx).2.1 (h.vo v hv x hx).2.2.1 (h.vo v hv x hx).2.2.2.1), h.a1, ?_, fun v hv x hx => ?_, h.b1, fun x hx => ?_, h.b3⟩, hf.below hB h.b1 h.b2⟩
  · rcases hn with rfl | ⟨k, rfl, hk⟩
    · exact h.a2
    · intro e; cases e; omega
  · obtain ⟨v1, v2, v3, v4, v5⟩ := h.vo v hv x hx
    have := hf.size
    refine ⟨v1, by omega, v3, ?_, v5⟩
    rcases hn with rfl | ⟨k, rfl, hk⟩
    · exact v4
    · intro e; cases e; omega
  · rcases hn with rfl | ⟨k, rfl, hk⟩
    · exact h.b2 x hx
    · cases hx; omega
theorem OS.put {B g tb : Nat} {r : Option Nat} {w : World} {P : Int} {T F S : Nat} {M : List Int} {Ls : List (List Chg)} {vs : List Value} (h : OS B g r tb w P T F S M Ls vs) (hq : Ls.length < S) {v : Value} {L : List Chg} (hc : CLie w v L) (hv : ∀ x, v.ownBlock = some x → B ≤ x ∧ x < w.heap.size ∧ x ≠ g ∧ some x ≠ r ∧ x ≠ tb) :
    OS B g r tb (w.setCell ⟨tb, Ls.length, none⟩ v) P T F S M (Ls ++ [L]) (vs ++ [v]) := by
  have hz : (w.setCell ⟨tb, Ls.length, none⟩ v).heap.size = w.heap.size := by simp
  have hsame : ∀ x, x ≠ tb → (w.setCell ⟨tb, Ls.length, none⟩ v).heap[x]? = w.heap[x]? := fun x hx => Below.heap_setCell _ _ _ _ hx
  refine ⟨h.js.set h.a1 h.a2 _ _, ?_, h.a1, h.a2, fun u hu x hx => ?_, h.b1, h.b2, h.b3⟩
  · obtain ⟨cur, h1, h2, h3, h4, h5⟩ := h.tr
    refine ⟨_, cells_set h1 _, by simp [h2], by simp [h3], fun i hi => ?_, fun i hi hj => ?_⟩
    · rw [Array.set!_eq_setIfInBounds]
      by_cases hiq : i < vs.length
      · rw [Array.getElem?_setIfInBounds_ne (by omega), List.getElem_append_left hiq]
        exact h4 i hiq
      · have hie : i = vs.length := by simp at hi; omega
        subst hie
        rw [show Ls.length = vs.length from h3.symm, Array.getElem?_setIfInBounds_self_of_lt (by omega)]
        simp
    · by_cases hiq : i < vs.length
      · rw [List.getElem_append_left hiq, List.getElem_append_left (by omega)]
        exact (h5 i hiq (by omega)).same (by omega) (fun x hx => hsame x (h.vo _ (List.getElem_mem hiq) x hx).2.2.2.2)
      · have hie : i = vs.length := by simp at hi; omega
        subst hie
        have e1 : (vs ++ [v])[vs.length] = v := by simp
        have e2 : (Ls ++ [L])[vs.length]'hj = L := by simp [h3]
        rw [e1, e2]
        exact hc.same (by omega) (fun x hx => hsame x (hv x hx).2.2.2.2)
  · rw [hz]
    rcases List.mem_append.1 hu with hu | hu
    · exact h.vo u hu x hx
    · rw [List.mem_singleton] at hu
      subst hu
      exact hv x hx
/-- what Open answers -/
def OY (B : Nat) (P : Int) (T F S : Nat) (Ls : List (List Chg)) (e : Ending) (w' : World) : Prop :=
  ∃ g r tb vs, e = .returned (.tuple #[.pointer (some ⟨g, 0, none⟩), .slice (some ⟨tb, 0, none⟩) S S, .int .i64 0]) ∧ OS B g r tb w' P T F S (Ls.map szL) Ls vs
def ON (e : Ending) : Prop := e = .returned (.tuple #[.pointer none, .slice none 0 0, .int .i64 80])
theorem JS.push {g : Nat} {r : Option Nat} {w w7 : World} {P : Int} {T F S : Nat} {l : List Int} {y : Int} {ao a7 : Option Addr} {cap m c7 nl : Nat} (hro : (Value.slice ao nl cap).ownBlock = r) (hI : JIs g w P T F (.slice ao nl cap) S) (hR : JRow w (.slice ao nl cap) l)
    (hR7 : JRow w7 (.slice a7 m c7) (l ++ [y])) (hg7 : w.grownBy w7 (Value.slice ao nl cap).ownBlock) (hn7 : (Value.slice a7 m c7).ownBlock = (Value.slice ao nl cap).ownBlock ∨ ∃ k, (Value.slice a7 m c7).ownBlock = some k ∧ w.heap.size ≤ k) :
    JS g (Value.slice a7 m c7).ownBlock (w7.setCell ⟨g, 3, none⟩ (.slice a7 m c7)) P T F S (l ++ [y]) ∧ New w r (Value.slice a7 m c7).ownBlock ∧ JFr g r w (w7.setCell ⟨g, 3, none⟩ (.slice a7 m c7)) := by
  have hJS : JS g r w P T F S l := ⟨_, hro, hI, hR⟩
  have hltr := hJS.lt
  have hgr : some g ≠ (Value.slice ao nl cap).ownBlock := by
    intro e
    exact (hltr.2 g (hro.symm.trans e.symm)).2 rfl
  have ne7 : ∀ x, (Value.slice a7 m c7).ownBlock = some x → x ≠ g := by
    intro x hx
    rcases hn7 with e | ⟨k, e, hk⟩
    · exact (hltr.2 x (hro.symm.trans (e.symm.trans hx))).2
    · rw [hx] at e
      injection e with e
      have := hltr.1
      omega
  have hI7 : JIs g w7 P T F (.slice ao nl cap) S := (hg7.block g hltr.1 hgr).trans hI
  refine ⟨⟨_, rfl, hI7.set3 _, hR7.same fun x hx => Below.heap_setCell _ _ _ _ ?_⟩, ?_, ?_⟩
  · exact ne7 x hx
  · rcases hn7 with e | ⟨k, e, hk⟩
    · exact .inl (e.trans hro)
    · exact .inr ⟨k, e, hk⟩
  · have k7 : JFr g r w w7 := ⟨hg7.os, hg7.tape, hg7.output, hg7.size, fun k hk _ h2 => hg7.block k hk (by rw [hro]; exact h2)⟩
    exact k7.set (.inl rfl) _ _
end Go.Proofs.Ytmcahiebcflfoaa
