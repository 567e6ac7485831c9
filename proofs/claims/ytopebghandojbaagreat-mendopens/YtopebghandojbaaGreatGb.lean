import Derived.Test.YtopebghandojbaaGreatMz
import Derived.Test.YtopebghandojbaaGreatYq
import Derived.Test.YtopebghandojbaaGreatDxs
import Derived.Test.YtopebghandojbaaGreatRw
import Derived.Deep.RegionHeld3
namespace Go.Proofs.YtopebghandojbaaGreat
open Go.RowKit Go.Maps

/-- an act's kind, as the document's store has it -/
def rk (k : Int) : Int := if k = 3 then 1 else if k = 2 then 2 else 0
def encR (c : AT) : List Value := [.int .i64 c.a, .string c.d, .int .i64 (rk c.k)]
def ra (l : List AT) : List Value := l.flatMap encR
theorem ra_append (a b : List AT) : ra (a ++ b) = ra a ++ ra b := by simp [ra]
theorem ra_one (c : AT) : ra [c] = encR c := by simp [ra]
theorem ra_cons (c : AT) (l : List AT) : ra (c :: l) = encR c ++ ra l := rfl
theorem ra_len : ∀ l : List AT, (ra l).length = l.length * 3
  | [] => rfl
  | c :: l => by rw [ra_cons, List.length_append, ra_len l]; simp [encR]; omega
/-- the document's row of acts, maybe cut at its front, with room behind -/
def RRow (w : World) (v : Value) (l : List AT) : Prop :=
  (v = .slice none 0 0 ∧ l = []) ∨ ∃ b off cap cur, v = .slice (some ⟨b, off, none⟩) l.length cap ∧ w.heap[b]? = some (.cells cur 130 (0, 0)) ∧ l.length ≤ cap ∧ cap ≤ maxLen ∧ off + cap * 3 ≤ cur.size ∧ ∀ i u, (ra l)[i]? = some u → cur[off + i]? = some u
theorem RRow.nil (w : World) : RRow w (.slice none 0 0) [] := .inl ⟨rfl, rfl⟩
theorem RRow.same {w w' : World} {v : Value} {l : List AT} (h : RRow w v l) (k : ∀ x, v.ownBlock = some x → w'.heap[x]? = w.heap[x]?) : RRow w' v l := by
  obtain h | ⟨b, off, cap, cur, rfl, h1, h2⟩ := h
  · exact .inl h
  · exact .inr ⟨b, off, cap, cur, rfl, (k b rfl).trans h1, h2⟩
theorem RRow.own {w : World} {v : Value} {l : List AT} (h : RRow w v l) : ∀ x, v.ownBlock = some x → ∃ cur, w.heap[x]? = some (.cells cur 130 (0, 0)) := by
  obtain ⟨rfl, _⟩ | ⟨b, off, cap, cur, rfl, h1, h2⟩ := h
  · intro x hx; cases hx
  · intro x hx; cases hx; exact ⟨_, h1⟩
theorem RRow.below {w w' : World} {v : Value} {l : List AT} (h : RRow w v l) (k : Below w.heap.size w w') : RRow w' v l :=
  h.same fun x hx => by obtain ⟨cur, hc⟩ := h.own x hx; exact k.block x (lt_of_block hc)
theorem RRow.len {w : World} {v : Value} {l : List AT} (h : RRow w v l) : ∃ ao cap, v = .slice ao l.length cap ∧ l.length ≤ cap ∧ cap ≤ maxLen := by
  obtain ⟨rfl, rfl⟩ | ⟨b, off, cap, cur, rfl, h1, h2, h3, _⟩ := h
  · exact ⟨none, 0, rfl, by simp, by decide⟩
  · exact ⟨_, cap, rfl, h2, h3⟩
theorem Tryz.infoR130 : (Tryz.prog.info? 130).map (fun i => (i.zero, i.size, i.bytes)) = some (some (.agg #[.int .i64 0, .string ⟨#[]⟩, .int .i64 0]), 3, 32) := by kernel_rfl
theorem run_size130 (w : World) : (sizeOf (Tryz.prog.elem 52)).run Tryz.prog w = .ok 3 w := by
  obtain ⟨i0, hi, hz0, hz1, hz2⟩ := info_parts Tryz.infoR130
  have e : Tryz.prog.elem 52 = 130 := by simp [Program.elem, Tryz.underlying52]
  rw [e]
  simp [sizeOf, typeInfo, hi, hz1]
theorem under52 : Tryz.prog.underlying 52 = some (.slice (Tryz.prog.elem 52)) := by
  have e : Tryz.prog.elem 52 = 130 := by simp [Program.elem, Tryz.underlying52]
  rw [e]
  exact Tryz.underlying52
theorem add3 (b off : Nat) : (⟨b, off, none⟩ : Addr).add 3 = ⟨b, off + 3, none⟩ := by unfold Addr.add; split <;> simp_all
set_option maxRecDepth 100000 in
/-- the first act, and the row without it -/
theorem RRow.cut {w0 : World} {ao : Option Addr} {cap : Nat} {c : AT} {l : List AT} (h0 : RRow w0 (.slice ao (l.length + 1) cap) (c :: l)) (hlc : l.length + 1 ≤ cap) :
    ∃ b off ao', ao = some ⟨b, off, none⟩ ∧ b < w0.heap.size ∧ w0.cell? ⟨b, off, none⟩ = some (.int .i64 c.a) ∧ w0.cell? ⟨b, off + 1, none⟩ = some (.string c.d) ∧ w0.cell? ⟨b, off + 2, none⟩ = some (.int .i64 (rk c.k)) ∧
      (∀ w : World, (Instr.slice 52 (.slice (some ⟨b, off, none⟩) (l.length + 1) cap) (some (.int .i64 1)) none none).run Tryz.prog w = .ok (.slice ao' l.length (cap - 1)) w) ∧ (∀ x, (Value.slice ao' l.length (cap - 1)).ownBlock = some x → x = b) ∧
      ∀ w : World, RRow w (.slice (some ⟨b, off, none⟩) (l.length + 1) cap) (c :: l) → RRow w (.slice ao' l.length (cap - 1)) l := by
  obtain ⟨_, e⟩ | ⟨b, off, cap', cur, e, h1, h2, h3, h4, h5⟩ := h0
  · cases e
  injection e with e0 e1 e2
  subst e0 e2
  have k0 := h5 0 (.int .i64 c.a) (by simp [ra_cons, encR])
  have k1 := h5 1 (.string c.d) (by simp [ra_cons, encR])
  have k2 := h5 2 (.int .i64 (rk c.k)) (by simp [ra_cons, encR])
  have hadd := add3 b off
  refine ⟨b, off, if cap = 1 then some ⟨b, off, none⟩ else some ⟨b, off + 3, none⟩, rfl, lt_of_block h1, (cell_of h1 off).trans k0, (cell_of h1 (off + 1)).trans k1, (cell_of h1 (off + 2)).trans k2, fun w => ?_, ?_, ?_⟩
  · have := run_slice_l (P := Tryz.prog) w 52 (some ⟨b, off, none⟩) (l.length + 1) cap under52 .i64 1 (by omega) (by omega)
    rw [this, run_size130]
    simp [Result.andThen, sliced, hadd]
  · intro x hx
    by_cases hc : cap = 1
    · rw [if_pos hc] at hx; cases hx; rfl
    · rw [if_neg hc] at hx; cases hx; rfl
  · intro w h
    obtain ⟨e, _⟩ | ⟨b', off', cap', cur', e, g1, g2, g3, g4, g5⟩ := h
    · cases e
    injection e with e0 e1 e2
    cases e0
    subst e2
    by_cases hc : cap = 1
    · rw [if_pos hc]
      have hl : l = [] := List.eq_nil_of_length_eq_zero (by omega)
      subst hl
      exact .inr ⟨b, off, cap - 1, cur', rfl, g1, by simp, by omega, by omega, fun i u hi => by simp [ra] at hi⟩
    · rw [if_neg hc]
      refine .inr ⟨b, off + 3, cap - 1, cur', rfl, g1, by omega, by omega, by omega, fun i u hi => ?_⟩
      rw [show off + 3 + i = off + (i + 3) by omega]
      refine g5 (i + 3) u ?_
      rw [ra_cons]
      show ([_, _, _] ++ ra l)[i + 3]? = some u
      simpa using hi
set_option maxRecDepth 100000 in
theorem RRow.of {base : Nat} {w : World} {v : Value} {l : List AT} (h : w.ownsRow base 130 3 v l.length (ra l)) : RRow w v l := by
  obtain ⟨e1, ⟨rfl, hz⟩ | ⟨x, cap, cur, rfl, e4, e5, r1, r2, r3, r4⟩⟩ := h
  · exact .inl ⟨rfl, List.eq_nil_of_length_eq_zero hz⟩
  · refine .inr ⟨x, 0, cap, cur, rfl, e5, r1, r2, by omega, fun i u hi => ?_⟩
    have hl : i < l.length * 3 := by
      have := (List.getElem?_eq_some_iff.1 hi).1
      rw [ra_len] at this; exact this
    have e1 : cur.toList[i]? = (ra l)[i]? := by rw [← r4, List.getElem?_take_of_lt (by omega)]
    rw [Array.getElem?_toList, hi] at e1
    rw [Nat.zero_add, e1]
set_option maxRecDepth 100000 in
/-- one act more -/
theorem pushR {ops : Array Oper} {rest : List Oper} {o : Oper} {a : Act} {Q : Exit → Act → World → Prop} {w0 : World} (hgd : o.guard = none) (s x : Operand)
    (ho : o.op = .call { callee := .builtin .append, args := #[s, x], argTypes := #[52, 52] }) (bb : Nat) (v : Value) (T : List AT) (y : AT) (n : Int) (hyn : n = rk y.k)
    (hs : a.eval s = v) (hx : a.eval x = .slice (some ⟨bb, 0, none⟩) 1 1) (hbb : bb = w0.heap.size) (hA : RRow w0 v T) (hn : T.length ≤ 5000)
    (h : ∀ v' w', RRow w' v' (T ++ [y]) → w0.grownBy w' v.ownBlock → (v'.ownBlock = v.ownBlock ∨ ∃ k, v'.ownBlock = some k ∧ w0.heap.size ≤ k) → wpList Tryz.prog ops Q rest (a.put o.dst v') w') :
    wpList Tryz.prog ops Q (o :: rest) a (w0.alloc (.cells #[.int .i64 y.a, .string y.d, .int .i64 n] 130)) := by
  subst hbb
  subst hyn
  obtain ⟨i0, hi, hz0, hz1, hz2⟩ := info_parts Tryz.infoR130
  have hnew : ∀ j u, (encR y)[j]? = some u → (w0.alloc (.cells #[.int .i64 y.a, .string y.d, .int .i64 (rk y.k)] 130)).cell? ((⟨w0.heap.size, 0, none⟩ : Addr).add j) = some u := by
    intro j u hu
    match j, hu with
    | 0, hu => simp [encR] at hu; subst hu; simp [Addr.add]
    | 1, hu => simp [encR] at hu; subst hu; simp [Addr.add]
    | 2, hu => simp [encR] at hu; subst hu; simp [Addr.add]
    | j + 3, hu => simp [encR] at hu
  have hone : ∀ u ∈ encR y, u.oneCell' = true := by intro u hu; simp [encR] at hu; rcases hu with rfl | rfl | rfl <;> rfl
  obtain ⟨o1, ho1⟩ : ∃ o1, o1 = Obj.cells #[.int .i64 y.a, .string y.d, .int .i64 (rk y.k)] 130 := ⟨_, rfl⟩
  rw [← ho1] at hnew ⊢
  have grow : ∀ {row : Option Nat} {w'}, (w0.alloc o1).grownBy w' row → w0.grownBy w' row := fun hg => ⟨hg.os, hg.tape, hg.output, by have := hg.size; simp at this; omega, fun k hk hne => (hg.block k (by simp; omega) hne).trans (Below.heap_alloc _ _ k hk)⟩
  have hel : (encR y).length = 3 := rfl
  have back : ∀ {base : Nat} {w' v'}, w'.ownsRow base 130 3 v' (T.length + 1) (ra T ++ encR y) → RRow w' v' (T ++ [y]) := by
    intro base w' v' hown
    refine RRow.of (base := base) ?_
    rw [List.length_append, ra_append, ra_one]
    exact hown
  rcases hA with ⟨rfl, rfl⟩ | ⟨b, off, cap, cur, rfl, h1, h2, h3, h4, h5⟩
  · refine wpList_append_own_at _ hgd s x 52 ho 0 130 i0 (.agg #[.int .i64 0, .string ⟨#[]⟩, .int .i64 0]) 3 32 Tryz.underlying52 hi hz0 hz1 hz2 rfl (by decide) _ 0 [] hs (World.ownsRow_nil _ _ _ _) ⟨w0.heap.size, 0, none⟩ 1 1 (encR y) hx rfl hnew hone (by decide) (by decide) (Nat.zero_le _) ?_
    intro v' w' hown hg _ hat
    refine h v' w' (back hown) (grow hg) ?_
    rcases hat with e | e
    · exact .inl e
    · exact .inr ⟨_, e, by simp⟩
  · have hb := lt_of_block h1
    have hb1 : (w0.alloc o1).heap[b]? = some (.cells cur 130 (0, 0)) := (Below.heap_alloc _ _ b hb).trans h1
    have hcell : ∀ j, (w0.alloc o1).cell? ⟨b, j, none⟩ = cur[j]? := fun j => cell_of hb1 j
    refine wpList_append_arg _ hgd s x 52 ho 130 i0 (.agg #[.int .i64 0, .string ⟨#[]⟩, .int .i64 0]) 3 32 Tryz.underlying52 hi hz0 hz1 hz2 rfl (by decide) b off T.length cap (ra T) hs (ra_len T) ?_ ⟨w0.heap.size, 0, none⟩ 1 1 (encR y) hx rfl hnew hone ?_ (by unfold maxLen; omega) (by omega) ?_ ?_
    · intro j u hu
      rw [hcell]
      exact h5 j u hu
    · intro hr j hj
      rw [hel] at hj
      refine ⟨?_, frees hb1 _⟩
      rw [hcell, Array.getElem?_eq_getElem (show off + T.length * 3 + j < cur.size by omega)]
      rfl
    · intro hr
      obtain ⟨p, hp⟩ : ∃ p, p = off + T.length * 3 := ⟨_, rfl⟩
      rw [← hp]
      have e : (w0.alloc o1).setCells b p (encR y) = (((w0.alloc o1).setCell ⟨b, p, none⟩ (.int .i64 y.a)).setCell ⟨b, p + 1, none⟩ (.string y.d)).setCell ⟨b, p + 2, none⟩ (.int .i64 (rk y.k)) := by simp [World.setCells, encR]
      rw [e]
      refine h _ _ ?_ ?_ (.inl rfl)
      · refine .inr ⟨b, off, cap, ((cur.set! p (.int .i64 y.a)).set! (p + 1) (.string y.d)).set! (p + 2) (.int .i64 (rk y.k)), by simp, cells_set (cells_set (cells_set hb1 _) _) _, by simp; omega, h3, by simp; omega, fun i u hi => ?_⟩
        rw [ra_append, ra_one] at hi
        simp only [Array.set!_eq_setIfInBounds]
        by_cases hit : i < T.length * 3
        · rw [List.getElem?_append_left (by rw [ra_len]; exact hit)] at hi
          rw [Array.getElem?_setIfInBounds_ne (by omega), Array.getElem?_setIfInBounds_ne (by omega), Array.getElem?_setIfInBounds_ne (by omega)]
          exact h5 i u hi
        · rw [List.getElem?_append_right (by rw [ra_len]; omega), ra_len] at hi
          obtain ⟨j, hj⟩ : ∃ j, j = i - T.length * 3 := ⟨_, rfl⟩
          rw [← hj] at hi
          match j, hi with
          | 0, hi =>
            simp [encR] at hi; subst hi
            rw [show off + i = p by omega, Array.getElem?_setIfInBounds_ne (by omega), Array.getElem?_setIfInBounds_ne (by omega), Array.getElem?_setIfInBounds_self_of_lt (by omega)]
          | 1, hi =>
            simp [encR] at hi; subst hi
            rw [show off + i = p + 1 by omega, Array.getElem?_setIfInBounds_ne (by omega), Array.getElem?_setIfInBounds_self_of_lt (by simp; omega)]
          | 2, hi =>
            simp [encR] at hi; subst hi
            rw [show off + i = p + 2 by omega, Array.getElem?_setIfInBounds_self_of_lt (by simp; omega)]
          | j + 3, hi => simp [encR] at hi
      · refine ⟨rfl, rfl, rfl, by simp, fun k hk hne => ?_⟩
        have hkb : k ≠ b := by rintro rfl; exact hne rfl
        rw [Below.heap_setCell _ _ _ _ hkb, Below.heap_setCell _ _ _ _ hkb, Below.heap_setCell _ _ _ _ hkb]
        exact Below.heap_alloc _ _ k hk
    · intro hr v' w' hown hg
      have hg2 := grow hg
      refine h v' w' (back hown) ⟨hg2.os, hg2.tape, hg2.output, hg2.size, fun k hk _ => hg2.block k hk (by simp)⟩ ?_
      rcases hown.2 with ⟨_, hz⟩ | ⟨k, _, _, rfl, hk, _⟩
      · omega
      · exact .inr ⟨k, rfl, by simp at hk; omega⟩
end Go.Proofs.YtopebghandojbaaGreat
namespace Go.Proofs.YtopebghandojbaaGreat
open Go.RowKit Go.Maps

/-- the document's store -/
def rsC (d x y z j : Nat) (ov nv av : Value) (c : Int) : Array Value := #[.pointer (some ⟨d, 0, none⟩), .int .i64 (x : Int), .int .i64 (y : Int), .int .i64 (z : Int), .pointer (some ⟨j, 0, none⟩), ov, nv, av, .int .i64 c]
def RSt (s : Nat) (w : World) (d x y z j : Nat) (ov nv av : Value) (c : Int) : Prop := w.heap[s]? = some (.cells (rsC d x y z j ov nv av c) 54 (0, 0))
section
variable {s d x y z j : Nat} {w w' : World} {ov nv av : Value} {c : Int}
theorem RSt.cell (h : RSt s w d x y z j ov nv av c) (i : Nat) : w.cell? ⟨s, i, none⟩ = (rsC d x y z j ov nv av c)[i]? := cell_of h i
theorem RSt.free (h : RSt s w d x y z j ov nv av c) (i : Nat) : w.frozen? ⟨s, i, none⟩ = false := frees h _
theorem RSt.lt (h : RSt s w d x y z j ov nv av c) : s < w.heap.size := lt_of_block h
theorem RSt.below (h : RSt s w d x y z j ov nv av c) (k : Below w.heap.size w w') : RSt s w' d x y z j ov nv av c := (k.block s h.lt).trans h
theorem RSt.only {fp : List Nat} (h : RSt s w d x y z j ov nv av c) (k : Dv.Only fp w w') (hs : s ∉ fp) : RSt s w' d x y z j ov nv av c := (k.block s h.lt hs).trans h
theorem RSt.over (h : RSt s w d x y z j ov nv av c) (v : Value) : RSt s (w.setCell ⟨s, 5, none⟩ v) d x y z j v nv av c := cells_set h v
theorem RSt.new (h : RSt s w d x y z j ov nv av c) (v : Value) : RSt s (w.setCell ⟨s, 6, none⟩ v) d x y z j ov v av c := cells_set h v
theorem RSt.acts (h : RSt s w d x y z j ov nv av c) (v : Value) : RSt s (w.setCell ⟨s, 7, none⟩ v) d x y z j ov nv v c := cells_set h v
theorem RSt.count (h : RSt s w d x y z j ov nv av c) (n : Int) : RSt s (w.setCell ⟨s, 8, none⟩ (.int .i64 n)) d x y z j ov nv av n := cells_set h _
theorem RSt.cells (h : RSt s w d x y z j ov nv av c) : w.cell? ⟨s, 0, none⟩ = some (.pointer (some ⟨d, 0, none⟩)) ∧ w.cell? ⟨s, 1, none⟩ = some (.int .i64 x) ∧ w.cell? ⟨s, 2, none⟩ = some (.int .i64 y) ∧ w.cell? ⟨s, 3, none⟩ = some (.int .i64 z) ∧ w.cell? ⟨s, 4, none⟩ = some (.pointer (some ⟨j, 0, none⟩)) ∧ w.cell? ⟨s, 5, none⟩ = some ov ∧ w.cell? ⟨s, 6, none⟩ = some nv ∧ w.cell? ⟨s, 7, none⟩ = some av ∧ w.cell? ⟨s, 8, none⟩ = some (.int .i64 c) :=
  ⟨(h.cell 0).trans rfl, (h.cell 1).trans rfl, (h.cell 2).trans rfl, (h.cell 3).trans rfl, (h.cell 4).trans rfl, (h.cell 5).trans rfl, (h.cell 6).trans rfl, (h.cell 7).trans rfl, (h.cell 8).trans rfl⟩
end
/-- what a step of the document's store leaves -/
def RPost (B s d x y z j : Nat) (av : Value) (fp : List Nat) (w : World) (ov' nv' : Value) (c' : Int) (A : List AT) (f' : Nat → Option ByteArray) (Q' : List (Nat × ByteArray)) (e : Ending) (w' : World) : Prop :=
  e = .returned (.tuple #[.bool (!decide (0 < A.length)), .int .i64 0]) ∧ ∃ av' fp', RSt s w' d x y z j ov' nv' av' c' ∧ RRow w' av' A ∧ (∀ b, av'.ownBlock = some b → av.ownBlock = some b) ∧ Dv.XD B d w' x f' Q' fp' ∧ (∀ k ∈ fp', k ∈ fp ∨ w.heap.size ≤ k) ∧ Dv.Only (s :: fp) w w'
theorem len_eq0 (A : List AT) : (((A.length : Nat) : Int) == 0) = !decide (0 < A.length) := by
  cases A with
  | nil => rfl
  | cons a l =>
    have h : ¬ (((a :: l).length : Nat) : Int) = 0 := by rw [List.length_cons]; omega
    rw [decide_eq_true (show 0 < (a :: l).length by simp)]
    exact beq_eq_false_iff_ne.2 h
theorem Dv.Only.weak {fp fp' : List Nat} {w w' : World} (h : Dv.Only fp w w') (hs : ∀ a ∈ fp, a ∈ fp') : Dv.Only fp' w w' := ⟨h.os, h.tape, h.output, h.size, fun k hk hn => h.block k hk (fun hm => hn (hs k hm))⟩
set_option maxRecDepth 100000 in
set_option maxHeartbeats 4000000 in
theorem rstep_w {B s d x y z j : Nat} {ov nv av : Value} {c : Int} {f : Nat → Option ByteArray} {Q : List (Nat × ByteArray)} {fp : List Nat} (n : Nat) (dd : ByteArray) (hd : dd.size = 128) (hn : n < x) (A : List AT) (hlen : A.length ≤ 5000) (hQ : Q.length ≤ 100000) (w : World) (hst : RSt s w d x y z j ov nv av c) (hA : RRow w av (⟨0, (n : Int), dd⟩ :: A)) (hD : Dv.XD B d w x f Q fp) (hs : s ∉ fp) (hav : ∀ b, av.ownBlock = some b → b ∉ fp) (hB : B ≤ w.heap.size) :
    Calls Tryz.prog 19 #[.pointer (some ⟨s, 0, none⟩)] w (RPost B s d x y z j av fp w ov nv c A f (Q ++ [(n, dd)])) := by
  unfold RPost
  obtain ⟨ao, cap, hve, hlc, hcm⟩ := hA.len
  have hve : av = .slice ao (A.length + 1) cap := hve
  have hlc : A.length + 1 ≤ cap := hlc
  subst hve
  unfold maxLen at hcm
  obtain ⟨b, off, ao', rfl, hbl, k0, k1, k2, hcut, hown, hrow⟩ := hA.cut hlc
  replace k0 : w.cell? ⟨b, off, none⟩ = some (.int .i64 (n : Int)) := k0
  replace k1 : w.cell? ⟨b, off + 1, none⟩ = some (.string dd) := k1
  replace k2 : w.cell? ⟨b, off + 2, none⟩ = some (.int .i64 0) := k2
  have hbs : b ≠ s := by
    rintro rfl
    obtain ⟨cur, hc⟩ := hA.own b rfl
    unfold RSt at hst
    rw [hst] at hc; cases hc
  have hbf : b ∉ fp := hav b rfl
  obtain ⟨bb, hbb⟩ : ∃ bb, bb = !decide (0 < A.length) := ⟨_, rfl⟩
  have e0 := len_eq0 A
  rw [← hbb] at e0 ⊢
  clear hbb
  obtain ⟨c0, c1, c2, c3, c4, c5, c6, c7, c8⟩ := hst.cells
  have f7 := hst.free 7
  have hsl := hst.lt
  have HST := hid hst
  have HA := hid hA
  have HD := hid hD
  have HROW := hid hrow
  have HOWN := hid hown
  clear hst hA hD hrow hown hve
  have hne := Dv.empty_ne (d := dd) (by omega)
  clear hav
  go_enter Tryz.func19, Tryz.ntmps19
  go_upto_region 5 with fail
  have hO1 : Dv.Only [s] w (w.setCell ⟨s, 7, none⟩ (.slice ao' A.length (cap - 1))) := Dv.Only.setCell (fp := [s]) _ (by simp)
  have hS1 := HST.out.acts (.slice ao' A.length (cap - 1))
  have hz1 : (w.setCell ⟨s, 7, none⟩ (.slice ao' A.length (cap - 1))).heap.size = w.heap.size := by simp
  obtain ⟨w1, hw1⟩ : ∃ w1, w1 = w.setCell ⟨s, 7, none⟩ (.slice ao' A.length (cap - 1)) := ⟨_, rfl⟩
  rw [← hw1] at hO1 hS1 hz1 ⊢
  clear hw1 k0 k1 k2 c0 c1 c2 c3 c4 c5 c6 c7 c8 f7
  have hb2 := below_alloc w1 (.cells #[.int .i64 (n : Int), .string dd, .int .i64 0] 130)
  have hV2 := box_at w1 (.cells #[.int .i64 (n : Int), .string dd, .int .i64 0] 130)
  rw [hz1] at hV2
  have hS2 := hS1.below hb2
  have hO2 : Dv.Only [s] w (w1.alloc (.cells #[.int .i64 (n : Int), .string dd, .int .i64 0] 130)) := hO1.trans (Dv.Only.of_below (fp := []) hb2) (fun _ h => by cases h)
  obtain ⟨w2, hw2⟩ : ∃ w2, w2 = w1.alloc (.cells #[.int .i64 (n : Int), .string dd, .int .i64 0] 130) := ⟨_, rfl⟩
  rw [← hw2] at hO2 hS2 hV2 ⊢
  clear hw2 hb2 hS1 hO1
  have HO2 := hid hO2
  have HS2 := hid hS2
  have HV2 := hid hV2
  have hA2 := HROW.out w2 (HA.out.same (fun a ha => hO2.block a (by cases ha; exact hbl) (by cases ha; simp; exact hbs)))
  have HA2 := hid hA2
  have HD2 := hid (HD.out.other hO2 (fun a ha => by simp; exact fun e => hs (e ▸ ha)))
  have hlo := HD.out.lo
  have HLO := hid hlo
  have hs2 := hO2.size
  have hV2l : w.heap.size < w2.heap.size := lt_of_block hV2
  have hav2 : ∀ a, (Value.slice ao' A.length (cap - 1)).ownBlock = some a → a = b := HOWN.out
  have HAV := hid hav2
  obtain ⟨v0, v1, v2⟩ := three_cells hV2
  obtain ⟨c0, _, _, _, _, c5, c6, c7, c8⟩ := hS2.cells
  have f8 := hS2.free 8
  clear hO2 hS2 hV2 hA2 hlo hav2 hcut HROW HOWN
  have HWR := hid (fun w' (hb : Dv.Only [] w2 w') => HD2.out.other hb (fun _ _ => by simp))
  go_upto_region 7 with fail
  go_region_held3 (fun w' => w'.cell? ⟨s, 0, none⟩ = some (.pointer (some ⟨d, 0, none⟩)) ∧ w'.cell? ⟨w.heap.size, 0, none⟩ = some (.int .i64 n) ∧ w'.cell? ⟨w.heap.size, 1, none⟩ = some (.string dd)) (first | exact ⟨c0, v0, v1⟩ | exact q3 | go_keep) (first
    | (go_at_call 30; refine (Dv.XD.write n dd hd hn hQ _ (HWR.out _ (by exact ⟨rfl, rfl, rfl, Nat.le_refl _, fun _ _ _ => rfl⟩)) (by show B ≤ w2.heap.size; omega)).mono ?_; rintro e w3 ⟨rfl, fp', hd3, ho3', hf3⟩
       have ho3 : Dv.Only fp w2 w3 := ⟨ho3'.os, ho3'.tape, ho3'.output, ho3'.size, ho3'.block⟩
       have hS3 := HS2.out.only ho3 hs
       have hV3 := (ho3.block _ hV2l (fun hm => by have := (HLO.out _ hm).2; omega)).trans HV2.out
       have q0 := hS3.cells.1
       obtain ⟨u0, u1, u2⟩ := three_cells hV3
       have q3 : w3.cell? ⟨s, 0, none⟩ = some (.pointer (some ⟨d, 0, none⟩)) ∧ w3.cell? ⟨w.heap.size, 0, none⟩ = some (.int .i64 n) ∧ w3.cell? ⟨w.heap.size, 1, none⟩ = some (.string dd) := ⟨q0, u0, u1⟩
       clear q0 u0 u1 ho3'))
  clear c0 c5 c6 c7 c8 f8 v0 v1 v2
  obtain ⟨c0, _, _, _, _, c5, c6, c7, c8⟩ := hS3.cells
  obtain ⟨v0, v1, v2⟩ := three_cells hV3
  have HS3 := hid hS3
  have HD3 := hid hd3
  have HO3 := hid ho3
  clear hS3 hd3 ho3 q3 hV3
  go_wp2
  go_ret2
  refine ⟨rfl, .slice ao' A.length (cap - 1), fp', HS3.out, HA2.out.same (fun a ha => HO3.out.block a (by rw [HAV.out a ha]; omega) (by rw [HAV.out a ha]; exact hbf)), (fun a ha => by rw [HAV.out a ha]; rfl), HD3.out, (fun k hk => ?_), (HO2.out.weak (by simp)).trans HO3.out (fun a ha => .inl (by simp [ha]))⟩
  rcases hf3 k hk with h | h
  · exact .inl h
  · exact .inr (by have : w2.heap.size ≤ k := h; omega)
set_option maxRecDepth 100000 in
set_option maxHeartbeats 4000000 in
theorem rstep_f {B s d x y z j : Nat} {ov nv av : Value} {c : Int} {f : Nat → Option ByteArray} {Q : List (Nat × ByteArray)} {fp : List Nat}  (A : List AT) (hlen : A.length ≤ 5000) (hQ : Q.length ≤ 100000) (w : World) (hst : RSt s w d x y z j ov nv av c) (hA : RRow w av (⟨1, 0, ByteArray.empty⟩ :: A)) (hD : Dv.XD B d w x f Q fp) (hs : s ∉ fp) (hav : ∀ b, av.ownBlock = some b → b ∉ fp) (_ : B ≤ w.heap.size) :
    Calls Tryz.prog 19 #[.pointer (some ⟨s, 0, none⟩)] w (RPost B s d x y z j av fp w ov nv c A (Dv.seen f Q) []) := by
  unfold RPost
  obtain ⟨ao, cap, hve, hlc, hcm⟩ := hA.len
  have hve : av = .slice ao (A.length + 1) cap := hve
  have hlc : A.length + 1 ≤ cap := hlc
  subst hve
  unfold maxLen at hcm
  obtain ⟨b, off, ao', rfl, hbl, k0, k1, k2, hcut, hown, hrow⟩ := hA.cut hlc
  replace k0 : w.cell? ⟨b, off, none⟩ = some (.int .i64 0) := k0
  replace k1 : w.cell? ⟨b, off + 1, none⟩ = some (.string ByteArray.empty) := k1
  replace k2 : w.cell? ⟨b, off + 2, none⟩ = some (.int .i64 0) := k2
  have hbs : b ≠ s := by
    rintro rfl
    obtain ⟨cur, hc⟩ := hA.own b rfl
    unfold RSt at hst
    rw [hst] at hc; cases hc
  have hbf : b ∉ fp := hav b rfl
  obtain ⟨bb, hbb⟩ : ∃ bb, bb = !decide (0 < A.length) := ⟨_, rfl⟩
  have e0 := len_eq0 A
  rw [← hbb] at e0 ⊢
  clear hbb
  obtain ⟨c0, c1, c2, c3, c4, c5, c6, c7, c8⟩ := hst.cells
  have f7 := hst.free 7
  have hsl := hst.lt
  have HST := hid hst
  have HA := hid hA
  have HD := hid hD
  have HROW := hid hrow
  have HOWN := hid hown
  clear hst hA hD hrow hown hve
  have hem : (ByteArray.empty.toList == []) = true := by rw [Lib.toList_data]; rfl
  clear hav
  go_enter Tryz.func19, Tryz.ntmps19
  go_upto_region 5 with fail
  have hO1 : Dv.Only [s] w (w.setCell ⟨s, 7, none⟩ (.slice ao' A.length (cap - 1))) := Dv.Only.setCell (fp := [s]) _ (by simp)
  have hS1 := HST.out.acts (.slice ao' A.length (cap - 1))
  have hz1 : (w.setCell ⟨s, 7, none⟩ (.slice ao' A.length (cap - 1))).heap.size = w.heap.size := by simp
  obtain ⟨w1, hw1⟩ : ∃ w1, w1 = w.setCell ⟨s, 7, none⟩ (.slice ao' A.length (cap - 1)) := ⟨_, rfl⟩
  rw [← hw1] at hO1 hS1 hz1 ⊢
  clear hw1 k0 k1 k2 c0 c1 c2 c3 c4 c5 c6 c7 c8 f7
  have hb2 := below_alloc w1 (.cells #[.int .i64 0, .string ByteArray.empty, .int .i64 0] 130)
  have hV2 := box_at w1 (.cells #[.int .i64 0, .string ByteArray.empty, .int .i64 0] 130)
  rw [hz1] at hV2
  have hS2 := hS1.below hb2
  have hO2 : Dv.Only [s] w (w1.alloc (.cells #[.int .i64 0, .string ByteArray.empty, .int .i64 0] 130)) := hO1.trans (Dv.Only.of_below (fp := []) hb2) (fun _ h => by cases h)
  obtain ⟨w2, hw2⟩ : ∃ w2, w2 = w1.alloc (.cells #[.int .i64 0, .string ByteArray.empty, .int .i64 0] 130) := ⟨_, rfl⟩
  rw [← hw2] at hO2 hS2 hV2 ⊢
  clear hw2 hb2 hS1 hO1
  have HO2 := hid hO2
  have HS2 := hid hS2
  have HV2 := hid hV2
  have hA2 := HROW.out w2 (HA.out.same (fun a ha => hO2.block a (by cases ha; exact hbl) (by cases ha; simp; exact hbs)))
  have HA2 := hid hA2
  have HD2 := hid (HD.out.other hO2 (fun a ha => by simp; exact fun e => hs (e ▸ ha)))
  have hlo := HD.out.lo
  have HLO := hid hlo
  have hs2 := hO2.size
  have hV2l : w.heap.size < w2.heap.size := lt_of_block hV2
  have hav2 : ∀ a, (Value.slice ao' A.length (cap - 1)).ownBlock = some a → a = b := HOWN.out
  have HAV := hid hav2
  obtain ⟨v0, v1, v2⟩ := three_cells hV2
  obtain ⟨c0, _, _, _, _, c5, c6, c7, c8⟩ := hS2.cells
  have f8 := hS2.free 8
  clear hO2 hS2 hV2 hA2 hlo hav2 hcut HROW HOWN
  have HFL := hid (Dv.XD.flush hQ w2 HD2.out)
  go_upto_region 8 with (first
    | (go_at_call 32; refine HFL.out.mono ?_; rintro e w3 ⟨rfl, hd3, ho3⟩
       have hS3 := HS2.out.only ho3 hs
       have hV3 := (ho3.block _ hV2l (fun hm => by have := (HLO.out _ hm).2; omega)).trans HV2.out))
  clear c0 c5 c6 c7 c8 f8 v0 v1 v2 HFL
  obtain ⟨c0, _, _, _, _, c5, c6, c7, c8⟩ := hS3.cells
  obtain ⟨v0, v1, v2⟩ := three_cells hV3
  have f5 := hS3.free 5
  have f8 := hS3.free 8
  have hs3 := hS3.lt
  have HS3 := hid hS3
  have HD3 := hid hd3
  have HO3 := hid ho3
  have HV3 := hid hV3
  clear hS3 hd3 ho3 hV3
  go_wp2
  go_ret2
  exact ⟨rfl, .slice ao' A.length (cap - 1), fp, HS3.out, HA2.out.same (fun a ha => HO3.out.block a (by rw [HAV.out a ha]; omega) (by rw [HAV.out a ha]; exact hbf)), (fun a ha => by rw [HAV.out a ha]; rfl), HD3.out, (fun k hk => .inl hk), (HO2.out.weak (by simp)).trans HO3.out (fun a ha => .inl (by simp [ha]))⟩
set_option maxRecDepth 100000 in
set_option maxHeartbeats 4000000 in
theorem rstep_l {B s d x y z j : Nat} {ov nv av : Value} {c : Int} {f : Nat → Option ByteArray} {Q : List (Nat × ByteArray)} {fp : List Nat}  (A : List AT) (hlen : A.length ≤ 5000) (hQ : Q.length ≤ 100000) (w : World) (hst : RSt s w d x y z j ov nv av c) (hA : RRow w av (⟨2, 0, ByteArray.empty⟩ :: A)) (hD : Dv.XD B d w x f Q fp) (hs : s ∉ fp) (hav : ∀ b, av.ownBlock = some b → b ∉ fp) (_ : B ≤ w.heap.size) :
    Calls Tryz.prog 19 #[.pointer (some ⟨s, 0, none⟩)] w (RPost B s d x y z j av fp w (.slice none 0 0) nv c A (Dv.seen f Q) []) := by
  unfold RPost
  obtain ⟨ao, cap, hve, hlc, hcm⟩ := hA.len
  have hve : av = .slice ao (A.length + 1) cap := hve
  have hlc : A.length + 1 ≤ cap := hlc
  subst hve
  unfold maxLen at hcm
  obtain ⟨b, off, ao', rfl, hbl, k0, k1, k2, hcut, hown, hrow⟩ := hA.cut hlc
  replace k0 : w.cell? ⟨b, off, none⟩ = some (.int .i64 0) := k0
  replace k1 : w.cell? ⟨b, off + 1, none⟩ = some (.string ByteArray.empty) := k1
  replace k2 : w.cell? ⟨b, off + 2, none⟩ = some (.int .i64 2) := k2
  have hbs : b ≠ s := by
    rintro rfl
    obtain ⟨cur, hc⟩ := hA.own b rfl
    unfold RSt at hst
    rw [hst] at hc; cases hc
  have hbf : b ∉ fp := hav b rfl
  obtain ⟨bb, hbb⟩ : ∃ bb, bb = !decide (0 < A.length) := ⟨_, rfl⟩
  have e0 := len_eq0 A
  rw [← hbb] at e0 ⊢
  clear hbb
  obtain ⟨c0, c1, c2, c3, c4, c5, c6, c7, c8⟩ := hst.cells
  have f7 := hst.free 7
  have hsl := hst.lt
  have HST := hid hst
  have HA := hid hA
  have HD := hid hD
  have HROW := hid hrow
  have HOWN := hid hown
  clear hst hA hD hrow hown hve
  have hem : (ByteArray.empty.toList == []) = true := by rw [Lib.toList_data]; rfl
  clear hav
  go_enter Tryz.func19, Tryz.ntmps19
  go_upto_region 5 with fail
  have hO1 : Dv.Only [s] w (w.setCell ⟨s, 7, none⟩ (.slice ao' A.length (cap - 1))) := Dv.Only.setCell (fp := [s]) _ (by simp)
  have hS1 := HST.out.acts (.slice ao' A.length (cap - 1))
  have hz1 : (w.setCell ⟨s, 7, none⟩ (.slice ao' A.length (cap - 1))).heap.size = w.heap.size := by simp
  obtain ⟨w1, hw1⟩ : ∃ w1, w1 = w.setCell ⟨s, 7, none⟩ (.slice ao' A.length (cap - 1)) := ⟨_, rfl⟩
  rw [← hw1] at hO1 hS1 hz1 ⊢
  clear hw1 k0 k1 k2 c0 c1 c2 c3 c4 c5 c6 c7 c8 f7
  have hb2 := below_alloc w1 (.cells #[.int .i64 0, .string ByteArray.empty, .int .i64 2] 130)
  have hV2 := box_at w1 (.cells #[.int .i64 0, .string ByteArray.empty, .int .i64 2] 130)
  rw [hz1] at hV2
  have hS2 := hS1.below hb2
  have hO2 : Dv.Only [s] w (w1.alloc (.cells #[.int .i64 0, .string ByteArray.empty, .int .i64 2] 130)) := hO1.trans (Dv.Only.of_below (fp := []) hb2) (fun _ h => by cases h)
  obtain ⟨w2, hw2⟩ : ∃ w2, w2 = w1.alloc (.cells #[.int .i64 0, .string ByteArray.empty, .int .i64 2] 130) := ⟨_, rfl⟩
  rw [← hw2] at hO2 hS2 hV2 ⊢
  clear hw2 hb2 hS1 hO1
  have HO2 := hid hO2
  have HS2 := hid hS2
  have HV2 := hid hV2
  have hA2 := HROW.out w2 (HA.out.same (fun a ha => hO2.block a (by cases ha; exact hbl) (by cases ha; simp; exact hbs)))
  have HA2 := hid hA2
  have HD2 := hid (HD.out.other hO2 (fun a ha => by simp; exact fun e => hs (e ▸ ha)))
  have hlo := HD.out.lo
  have HLO := hid hlo
  have hs2 := hO2.size
  have hV2l : w.heap.size < w2.heap.size := lt_of_block hV2
  have hav2 : ∀ a, (Value.slice ao' A.length (cap - 1)).ownBlock = some a → a = b := HOWN.out
  have HAV := hid hav2
  obtain ⟨v0, v1, v2⟩ := three_cells hV2
  obtain ⟨c0, _, _, _, _, c5, c6, c7, c8⟩ := hS2.cells
  have f8 := hS2.free 8
  clear hO2 hS2 hV2 hA2 hlo hav2 hcut HROW HOWN
  have HFL := hid (Dv.XD.flush hQ w2 HD2.out)
  go_upto_region 8 with (first
    | (go_at_call 32; refine HFL.out.mono ?_; rintro e w3 ⟨rfl, hd3, ho3⟩
       have hS3 := HS2.out.only ho3 hs
       have hV3 := (ho3.block _ hV2l (fun hm => by have := (HLO.out _ hm).2; omega)).trans HV2.out))
  clear c0 c5 c6 c7 c8 f8 v0 v1 v2 HFL
  obtain ⟨c0, _, _, _, _, c5, c6, c7, c8⟩ := hS3.cells
  obtain ⟨v0, v1, v2⟩ := three_cells hV3
  have f5 := hS3.free 5
  have f8 := hS3.free 8
  have hs3 := hS3.lt
  have HS3 := hid hS3
  have HD3 := hid hd3
  have HO3 := hid ho3
  have HV3 := hid hV3
  clear hS3 hd3 ho3 hV3
  go_wp2
  go_ret2
  have ho4 : Dv.Only [s] w3 (w3.setCell ⟨s, 5, none⟩ (.slice none 0 0)) := Dv.Only.setCell (fp := [s]) _ (by simp)
  exact ⟨rfl, .slice ao' A.length (cap - 1), fp, HS3.out.over _, (HA2.out.same (fun a ha => HO3.out.block a (by rw [HAV.out a ha]; omega) (by rw [HAV.out a ha]; exact hbf))).same (fun a ha => by rw [HAV.out a ha]; exact Below.heap_setCell _ _ _ _ hbs), (fun a ha => by rw [HAV.out a ha]; rfl), HD3.out.other ho4 (fun a ha => by simp; exact fun e => hs (e ▸ ha)), (fun k hk => .inl hk), ((HO2.out.weak (by simp)).trans HO3.out (fun a ha => .inl (by simp [ha]))).trans ho4 (fun a ha => .inl (by simp at ha; simp [ha]))⟩

/-- what the end of a commit leaves -/
def CPost (B s d x y z j : Nat) (ov nv av : Value) (c : Int) (fp : List Nat) (w : World) (M U : List Chg) (A : List AT) (f' : Nat → Option ByteArray) (e : Ending) (w' : World) : Prop :=
  e = .returned (.tuple #[.bool (!decide (0 < A.length)), .int .i64 0]) ∧ ∃ ov' av', RSt s w' d x y z j ov' nv av' (c + 1) ∧ CLie w' ov' (Um.mergeL M U) ∧ (ov' = ov ∨ ∀ b, ov'.ownBlock = some b → w.heap.size ≤ b ∧ ∃ cur, w'.heap[b]? = some (.cells cur 94 (0, 0))) ∧ RRow w' av' A ∧ (∀ b, av'.ownBlock = some b → av.ownBlock = some b) ∧ Dv.XD B d w' x f' [] fp ∧ Dv.Only (s :: fp) w w'
theorem CLie.only2 {fp : List Nat} {w w' : World} {v : Value} {l : List Chg} (k : Dv.Only fp w w') (h : CLie w v l) (hn : l ≠ [] → ∀ b, v.ownBlock = some b → b ∉ fp) : CLie w' v l := by
  cases l with
  | nil =>
    obtain ⟨ao, cap, e, h1, h2, _⟩ := h
    exact ⟨ao, cap, e, h1, h2, fun i hi => absurd hi (Nat.not_lt_zero _)⟩
  | cons c l => exact CLie.only k h (hn (by simp))
theorem mergeL_fold : ∀ (b a : List Chg), Um.mergeL a b = b.foldl Um.withL a
  | [], _ => rfl
  | c :: b, a => mergeL_fold b (Um.withL a c)
theorem mergeL_take (M U : List Chg) (q : Nat) (h : q < U.length) : Um.mergeL M (U.take (q + 1)) = Um.withL (Um.mergeL M (U.take q)) U[q] := by
  rw [mergeL_fold, mergeL_fold, List.take_succ_eq_append_getElem h, List.foldl_append]
  rfl
set_option maxRecDepth 100000 in
set_option maxHeartbeats 4000000 in
theorem rstep_c {B s d x y z j : Nat} {ov nv av : Value} {c : Int} {f : Nat → Option ByteArray} {Q : List (Nat × ByteArray)} {fp : List Nat} {M U : List Chg} (A : List AT) (hlen : A.length ≤ 5000) (hQ : Q.length ≤ 100000) (w : World) (hst : RSt s w d x y z j ov nv av c) (hA : RRow w av (⟨3, 0, ByteArray.empty⟩ :: A)) (hD : Dv.XD B d w x f Q fp) (hs : s ∉ fp) (hav : ∀ b, av.ownBlock = some b → b ∉ fp) (_ : B ≤ w.heap.size) (hc : 0 ≤ c ∧ c ≤ 2000000000000) (hM : CLie w ov M) (hU : CLie w nv U) (hof : ∀ b, ov.ownBlock = some b → b ∉ fp ∧ b ≠ s) (hnf : U ≠ [] → ∀ b, nv.ownBlock = some b → b ∉ fp ∧ b ≠ s) (hri : ∀ q, Rise (Um.mergeL M (U.take q)) ∧ (Um.mergeL M (U.take q)).length ≤ 600) :
    Calls Tryz.prog 19 #[.pointer (some ⟨s, 0, none⟩)] w (CPost B s d x y z j ov nv av c fp w M U A (Dv.seen f Q)) := by
  unfold CPost
  obtain ⟨ao, cap, hve, hlc, hcm⟩ := hA.len
  have hve : av = .slice ao (A.length + 1) cap := hve
  have hlc : A.length + 1 ≤ cap := hlc
  subst hve
  unfold maxLen at hcm
  obtain ⟨b, off, ao', rfl, hbl, k0, k1, k2, hcut, hown, hrow⟩ := hA.cut hlc
  replace k0 : w.cell? ⟨b, off, none⟩ = some (.int .i64 0) := k0
  replace k1 : w.cell? ⟨b, off + 1, none⟩ = some (.string ByteArray.empty) := k1
  replace k2 : w.cell? ⟨b, off + 2, none⟩ = some (.int .i64 1) := k2
  have hbs : b ≠ s := by
    rintro rfl
    obtain ⟨cur, hc⟩ := hA.own b rfl
    unfold RSt at hst
    rw [hst] at hc; cases hc
  have hbf : b ∉ fp := hav b rfl
  obtain ⟨bb, hbb⟩ : ∃ bb, bb = !decide (0 < A.length) := ⟨_, rfl⟩
  have e0 := len_eq0 A
  rw [← hbb] at e0 ⊢
  clear hbb
  obtain ⟨c0, c1, c2, c3, c4, c5, c6, c7, c8⟩ := hst.cells
  have f7 := hst.free 7
  have hsl := hst.lt
  have HST := hid hst
  have HA := hid hA
  have HD := hid hD
  have HROW := hid hrow
  have HOWN := hid hown
  clear hst hA hD hrow hown hve
  have hem : (ByteArray.empty.toList == []) = true := by rw [Lib.toList_data]; rfl
  have HOF : Hid (∀ b, ov.ownBlock = some b → b ∉ fp ∧ b ≠ s) := hid hof
  have HNF : Hid (U ≠ [] → ∀ b, nv.ownBlock = some b → b ∉ fp ∧ b ≠ s) := hid hnf
  have HM0 := hid hM
  have HU0 := hid hU
  have HRI := hid hri
  clear hav hof hnf hM hU hri
  go_enter Tryz.func19, Tryz.ntmps19
  go_upto_region 5 with fail
  have hO1 : Dv.Only [s] w (w.setCell ⟨s, 7, none⟩ (.slice ao' A.length (cap - 1))) := Dv.Only.setCell (fp := [s]) _ (by simp)
  have hS1 := HST.out.acts (.slice ao' A.length (cap - 1))
  have hz1 : (w.setCell ⟨s, 7, none⟩ (.slice ao' A.length (cap - 1))).heap.size = w.heap.size := by simp
  obtain ⟨w1, hw1⟩ : ∃ w1, w1 = w.setCell ⟨s, 7, none⟩ (.slice ao' A.length (cap - 1)) := ⟨_, rfl⟩
  rw [← hw1] at hO1 hS1 hz1 ⊢
  clear hw1 k0 k1 k2 c0 c1 c2 c3 c4 c5 c6 c7 c8 f7
  have hb2 := below_alloc w1 (.cells #[.int .i64 0, .string ByteArray.empty, .int .i64 1] 130)
  have hV2 := box_at w1 (.cells #[.int .i64 0, .string ByteArray.empty, .int .i64 1] 130)
  rw [hz1] at hV2
  have hS2 := hS1.below hb2
  have hO2 : Dv.Only [s] w (w1.alloc (.cells #[.int .i64 0, .string ByteArray.empty, .int .i64 1] 130)) := hO1.trans (Dv.Only.of_below (fp := []) hb2) (fun _ h => by cases h)
  obtain ⟨w2, hw2⟩ : ∃ w2, w2 = w1.alloc (.cells #[.int .i64 0, .string ByteArray.empty, .int .i64 1] 130) := ⟨_, rfl⟩
  rw [← hw2] at hO2 hS2 hV2 ⊢
  clear hw2 hb2 hS1 hO1
  have HO2 := hid hO2
  have HS2 := hid hS2
  have HV2 := hid hV2
  have hA2 := HROW.out w2 (HA.out.same (fun a ha => hO2.block a (by cases ha; exact hbl) (by cases ha; simp; exact hbs)))
  have HA2 := hid hA2
  have HD2 := hid (HD.out.other hO2 (fun a ha => by simp; exact fun e => hs (e ▸ ha)))
  have hlo := HD.out.lo
  have HLO := hid hlo
  have hs2 := hO2.size
  have hV2l : w.heap.size < w2.heap.size := lt_of_block hV2
  have hav2 : ∀ a, (Value.slice ao' A.length (cap - 1)).ownBlock = some a → a = b := HOWN.out
  have HAV := hid hav2
  obtain ⟨v0, v1, v2⟩ := three_cells hV2
  obtain ⟨c0, _, _, _, _, c5, c6, c7, c8⟩ := hS2.cells
  have f8 := hS2.free 8
  clear hO2 hS2 hV2 hA2 hlo hav2 hcut HROW HOWN
  have HFL := hid (Dv.XD.flush hQ w2 HD2.out)
  go_upto_region 8 with (first
    | (go_at_call 32; refine HFL.out.mono ?_; rintro e w3 ⟨rfl, hd3, ho3⟩
       have hS3 := HS2.out.only ho3 hs
       have hV3 := (ho3.block _ hV2l (fun hm => by have := (HLO.out _ hm).2; omega)).trans HV2.out))
  clear c0 c5 c6 c7 c8 f8 v0 v1 v2 HFL
  obtain ⟨c0, _, _, _, _, c5, c6, c7, c8⟩ := hS3.cells
  obtain ⟨v0, v1, v2⟩ := three_cells hV3
  have f5 := hS3.free 5
  have f8 := hS3.free 8
  have hs3 := hS3.lt
  have HS3 := hid hS3
  have HD3 := hid hd3
  have HO3 := hid ho3
  have HV3 := hid hV3
  clear hS3 hd3 ho3 hV3
  have HM3 : Hid (CLie w3 ov M) := hid (CLie.only HO3.out (CLie.only HO2.out HM0.out (fun a ha => by simp; exact (HOF.out a ha).2)) (fun a ha => (HOF.out a ha).1))
  have HU3 : Hid (CLie w3 nv U) := hid (CLie.only2 HO3.out (CLie.only2 HO2.out HU0.out (fun hn a ha => by simp; exact (HNF.out hn a ha).2)) (fun hn a ha => (HNF.out hn a ha).1))
  obtain ⟨no, nc, rfl, hnl, hnc, hncell⟩ := HU3.out
  have HNC := hid hncell
  unfold maxLen at hnc
  clear hncell
  have hw : IntKind.i64.wrap (c + 1) = c + 1 := by rw [IntKind.wrap_i64]; omega
  have hz4 : (w3.setCell ⟨s, 8, none⟩ (.int .i64 (c + 1))).heap.size = w3.heap.size := by simp
  have hO4 : Dv.Only [s] w3 (w3.setCell ⟨s, 8, none⟩ (.int .i64 (c + 1))) := Dv.Only.setCell (fp := [s]) _ (by simp)
  have hS4 := HS3.out.count (c + 1)
  have hV4 : (w3.setCell ⟨s, 8, none⟩ (.int .i64 (c + 1))).heap[w.heap.size]? = some (.cells #[.int .i64 0, .string ByteArray.empty, .int .i64 1] 130 (0, 0)) := (Below.heap_setCell _ _ _ _ (by show w.heap.size ≠ s; omega)).trans HV3.out
  have HS4 := hid hS4
  have HO4 := hid hO4
  have HV4 := hid hV4
  clear hS4 hO4 hV4
  go_upto_region 10 with fail
  clear c0 c5 c6 c7 c8 v0 v1 v2 f5 f8
  obtain ⟨w4, hw4⟩ : ∃ w4, w4 = w3.setCell ⟨s, 8, none⟩ (.int .i64 (c + 1)) := ⟨_, rfl⟩
  rw [← hw4] at HS4 HO4 HV4 hz4 ⊢
  clear hw4
  have c6 := HS4.out.cells.2.2.2.2.2.2.1
  have HM4 : Hid (CLie w4 ov M) := hid (CLie.only HO4.out HM3.out (fun a ha => by simp; exact (HOF.out a ha).2))
  have hs4 := HS4.out.lt
  have hl4 : w.heap.size < w4.heap.size := by have := HO3.out.size; omega
  go_wp2
  clear c6
  go_loopw [60] (fun i wr => ∃ (q : Nat) (ov' : Value), i = .int .i64 q ∧ q ≤ U.length ∧ RSt s wr d x y z j ov' (.slice no U.length nc) (.slice ao' A.length (cap - 1)) (c + 1) ∧ CLie wr ov' (Um.mergeL M (U.take q)) ∧ (ov' = ov ∨ ∀ b, ov'.ownBlock = some b → w.heap.size ≤ b ∧ ∃ cur, wr.heap[b]? = some (.cells cur 94 (0, 0))) ∧ Dv.Only [s] w4 wr) (fun i _ => U.length - (intOf i).toNat)
  case atStart => exact ⟨0, ov, rfl, Nat.zero_le _, HS4.out, HM4.out, .inl rfl, Dv.Only.refl _ _⟩
  case round =>
    obtain ⟨q, ov', rfl, hq, hsq, hmq, hoq, hO⟩ := hrel
    have HSq := hid hsq
    have HMq := hid hmq
    have HOq := hid hoq
    have HO := hid hO
    have hzq := hO.size
    have HVq := hid ((hO.block _ (by omega) (by simp; omega)).trans HV4.out)
    clear hsq hmq hoq hO
    by_cases hqk : q < U.length
    · obtain ⟨gb, of2, e, hgl, d0, d1⟩ := HNC.out q hqk
      subst e
      have hgs : gb ≠ s := (HNF.out (List.ne_nil_of_length_pos (by omega)) gb rfl).2
      have HT := hid (mergeL_take M U q hqk)
      obtain ⟨cc, hcc⟩ : ∃ cc, cc = U[q] := ⟨_, rfl⟩
      rw [← hcc] at d0 d1 HT
      clear hcc
      have hg4 : gb < w4.heap.size := by omega
      have cell4 : ∀ i, w4.cell? ⟨gb, i, none⟩ = w3.cell? ⟨gb, i, none⟩ := fun i => by simp only [World.cell?, HO4.out.block gb hgl (by simp; exact hgs)]
      have cellq : ∀ i, wr.cell? ⟨gb, i, none⟩ = w3.cell? ⟨gb, i, none⟩ := fun i => by rw [← cell4 i]; simp only [World.cell?, HO.out.block gb hg4 (by simp; exact hgs)]
      replace d0 := (cellq _).trans d0
      replace d1 := (cellq _).trans d1
      have hgr : gb < wr.heap.size := by omega
      clear cell4 cellq
      obtain ⟨ovo, ovc, rfl, _, _⟩ : ∃ o n, ov' = .slice o (Um.mergeL M (U.take q)).length n ∧ True ∧ True := by obtain ⟨a, b, e, _⟩ := HMq.out; exact ⟨a, b, e, trivial, trivial⟩
      have hB5 := below_alloc wr (.cells #[.int .i64 cc.b, .string cc.d] 94)
      have HB5 := hid hB5
      have hS5 := HSq.out.below hB5
      have HS5 := hid hS5
      obtain ⟨d2, d3⟩ := two_cells (box_at wr (.cells #[.int .i64 cc.b, .string cc.d] 94))
      have hz5 : (wr.alloc (.cells #[.int .i64 cc.b, .string cc.d] 94)).heap.size = wr.heap.size + 1 := by simp
      obtain ⟨_, _, _, _, _, c5, _, _, _⟩ := hS5.cells
      have f5 := hS5.free 5
      have hri := HRI.out q
      have HW := hid (fun w' (k : Below wr.heap.size wr w') => Um.with_any (.slice ovo (Um.mergeL M (U.take q)).length ovc) _ cc w' (HMq.out.below k) hri.1 hri.2)
      clear hB5 hri
      go_upto_region 13 with fail
      obtain ⟨w5, hw5⟩ : ∃ w5, w5 = wr.alloc (.cells #[.int .i64 cc.b, .string cc.d] 94) := ⟨_, rfl⟩
      rw [← hw5] at d2 d3 c5 f5 HB5 HS5 hz5 hS5 ⊢
      clear hw5 d0 d1
      go_region_with (go_at_call 61; refine (HW.out _ (by exact ⟨HB5.out.os, HB5.out.tape, HB5.out.output, HB5.out.size, HB5.out.block⟩)).mono ?_; rintro e w6 ⟨v6, rfl, hc6, hb6, ho6⟩; obtain ⟨o6, n6, rfl, _, _⟩ := id hc6; have hb56 : Below w5.heap.size w5 w6 := ⟨hb6.os, hb6.tape, hb6.output, hb6.size, hb6.block⟩; have hS6 := HS5.out.below hb56; have f6 := hS6.free 5; obtain ⟨_, _, _, _, _, c56, _, _, _⟩ := hS6.cells)
      all_goals
        go_wp2
        go_roundw
        case rel =>
          have hb6' : Below wr.heap.size wr w6 := HB5.out.next hb56
          have hset : ∀ v6, Dv.Only [s] w6 (w6.setCell ⟨s, 5, none⟩ v6) := fun v6 => Dv.Only.setCell (fp := [s]) _ (by simp)
          refine ⟨q + 1, _, by go_num, by omega, hS6.over _, by rw [HT.out]; exact CLie.only (hset _) hc6 (fun a ha => by simp; have := (ho6 a ha).1; have : w5.heap.size ≤ a := this; have := HSq.out.lt; omega), .inr (fun a ha => ?_), (HO.out.trans (Dv.Only.of_below (fp := []) hb6') (fun _ h => by cases h)).trans (hset _) (fun a ha => .inl ha)⟩
          obtain ⟨q1, cur, q2⟩ := ho6 a ha
          have q1 : w5.heap.size ≤ a := q1
          exact ⟨by omega, cur, (Below.heap_setCell _ _ _ _ (by have := HSq.out.lt; show a ≠ s; omega)).trans q2⟩
        case measure => simp only [intOf] at *; omega
    · have hqe : q = U.length := by omega
      subst hqe
      obtain ⟨v0, v1, v2⟩ := three_cells HVq.out
      obtain ⟨_, _, _, _, _, _, _, c7, _⟩ := HSq.out.cells
      go_wp2
      go_ret2
      have hm := HMq.out
      rw [List.take_length] at hm
      have hOt : Dv.Only (s :: fp) w wr := (((HO2.out.weak (by simp)).trans HO3.out (fun a ha => .inl (by simp [ha]))).trans HO4.out (fun a ha => .inl (by simp at ha; simp [ha]))).trans HO.out (fun a ha => .inl (by simp at ha; simp [ha]))
      have hOr : Dv.Only [s] w3 wr := HO4.out.trans HO.out (fun a ha => .inl ha)
      exact ⟨rfl, ov', _, HSq.out, hm, HOq.out, ((HA2.out.same (fun a ha => HO3.out.block a (by rw [HAV.out a ha]; omega) (by rw [HAV.out a ha]; exact hbf))).same (fun a ha => hOr.block a (by rw [HAV.out a ha]; have := HO3.out.size; omega) (by rw [HAV.out a ha]; simp; exact hbs))), (fun a ha => by rw [HAV.out a ha]; rfl), HD3.out.other hOr (fun a ha => by simp; exact fun e => hs (e ▸ ha)), hOt⟩

end Go.Proofs.YtopebghandojbaaGreat
