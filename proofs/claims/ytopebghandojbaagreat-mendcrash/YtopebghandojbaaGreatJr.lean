import Derived.Test.YtopebghandojbaaGreatJi
namespace Go.Proofs.YtopebghandojbaaGreat
open Go.RowKit Go.Maps
/-- a row of numbers of the call's own, maybe cut at its front -/
def ORow (w : World) (v : Value) (l : List Int) : Prop :=
  (v = .slice none 0 0 ∧ l = []) ∨ ∃ b off cap cur, v = .slice (some ⟨b, off, none⟩) l.length cap ∧ w.heap[b]? = some (.cells cur 3 (0, 0)) ∧ l.length ≤ cap ∧ cap ≤ maxLen ∧ off + cap ≤ cur.size ∧ ∀ i (hi : i < l.length), cur[off + i]? = some (.int .i64 l[i])
set_option maxRecDepth 100000 in
theorem ORow.nil (w : World) : ORow w (.slice none 0 0) [] := .inl ⟨rfl, rfl⟩
set_option maxRecDepth 100000 in
theorem ORow.same {w w' : World} {v : Value} {l : List Int} (h : ORow w v l) (k : ∀ x, v.ownBlock = some x → w'.heap[x]? = w.heap[x]?) : ORow w' v l := by
  obtain h | ⟨b, off, cap, cur, rfl, h1, h2⟩ := h
  · exact .inl h
  · exact .inr ⟨b, off, cap, cur, rfl, (k b rfl).trans h1, h2⟩
set_option maxRecDepth 100000 in
theorem ORow.own {w : World} {v : Value} {l : List Int} (h : ORow w v l) : ∀ x, v.ownBlock = some x → x < w.heap.size := by
  obtain ⟨rfl, _⟩ | ⟨b, off, cap, cur, rfl, h1, h2⟩ := h
  · intro x hx; cases hx
  · intro x hx; cases hx; exact lt_of_block h1
set_option maxRecDepth 100000 in
theorem ORow.len {w : World} {v : Value} {l : List Int} (h : ORow w v l) : ∃ ao cap, v = .slice ao l.length cap ∧ l.length ≤ cap ∧ cap ≤ maxLen := by
  obtain ⟨rfl, rfl⟩ | ⟨b, off, cap, cur, rfl, h1, h2, h3, _⟩ := h
  · exact ⟨none, 0, rfl, by simp, by decide⟩
  · exact ⟨_, cap, rfl, h2, h3⟩
set_option maxRecDepth 100000 in
theorem ORow.lie {w : World} {v : Value} {l : List Int} (h : ORow w v l) : ILie w v l := by
  obtain ⟨rfl, rfl⟩ | ⟨b, off, cap, cur, rfl, h1, h2, h3, _, h4⟩ := h
  · exact ⟨none, 0, rfl, Nat.le_refl _, by decide, fun i hi => by simp at hi⟩
  · exact ⟨_, cap, rfl, h2, h3, fun i hi => ⟨b, off, rfl, lt_of_block h1, by simp [World.cell?, h1, h4 i hi]⟩⟩
set_option maxRecDepth 100000 in
theorem ORow.of {base : Nat} {w : World} {v : Value} {l : List Int} (h : IRow base w v l) : ORow w v l := by
  obtain ⟨rfl, e⟩ | ⟨b, off, cap, cur, e, h1, h2, h3, h4, h5⟩ := h.jrow
  · exact .inl ⟨rfl, e⟩
  · obtain ⟨_, ⟨e', _⟩ | ⟨x, cap', cur', e', e4, e5, r1, r2, r3, r4⟩⟩ := h
    · rw [e] at e'; cases e'
    · rw [e] at e'
      injection e' with q1 q2 q3
      injection q1 with q1
      injection q1 with q4 q5
      subst q3 q4 q5
      rw [h1] at e5
      injection e5 with e5
      injection e5 with e6
      subst e6
      exact .inr ⟨b, 0, cap, cur, e, h1, h2, h3, by omega, h4⟩
set_option maxRecDepth 100000 in
theorem ORow.cut {w0 : World} {ao : Option Addr} {cap k : Nat} {l : List Int} (h0 : ORow w0 (.slice ao l.length cap) l) (hlc : l.length ≤ cap) (hcm : cap ≤ maxLen) (hk : k ≤ l.length) :
    ∃ ao' m m', (∀ w : World, (Instr.slice 154 (.slice ao l.length cap) (some (.int .i64 (k : Int))) none none).run Tryz.prog w = .ok (.slice ao' m m') w) ∧ (Value.slice ao' m m').ownBlock = (Value.slice ao l.length cap).ownBlock ∧ ∀ w : World, ORow w (.slice ao l.length cap) l → ORow w (.slice ao' m m') (l.drop k) := by
  refine ⟨(if cap = k then ao else ao.map (·.add (k * 1))), l.length - k, cap - k, fun w => ?_, ?_, fun w h => ?_⟩
  · have := run_slice_l (P := Tryz.prog) w 154 ao l.length cap under72 .i64 (k : Int) (by omega) (by omega)
    rw [this, run_size3]
    simp [Result.andThen, sliced]
  · by_cases h : cap = k
    · rw [if_pos h]; cases ao <;> rfl
    · rw [if_neg h]
      obtain ⟨e, _⟩ | ⟨b, off, cap', cur, e, _⟩ := h0
      · injection e with e0 e1 e3
        rw [e0]; rfl
      · injection e with e0 e1 e3
        rw [e0]; simp only [Option.map_some, Value.ownBlock, Addr.add]; split <;> rfl
  · have hl : (l.drop k).length = l.length - k := List.length_drop
    obtain ⟨e, e2⟩ | ⟨b, off, cap', cur, e, h1, h2, h3, h4, h5⟩ := h
    · injection e with e0 e1 e3
      subst e0
      subst e2
      have : k = 0 := by simpa using hk
      subst this
      subst e3
      exact .inl ⟨rfl, rfl⟩
    · injection e with e0 e1 e3
      subst e0 e3
      by_cases hkl : cap = k
      · rw [if_pos hkl]
        refine .inr ⟨b, off, cap - k, cur, by rw [hl], h1, by omega, by omega, by omega, fun i hi => by omega⟩
      · rw [if_neg hkl]
        refine .inr ⟨b, off + k, cap - k, cur, by rw [hl]; simp [Addr.add], h1, by omega, by omega, by omega, fun i hi => ?_⟩
        rw [List.getElem_drop, show off + k + i = off + (k + i) by omega]
        exact h5 (k + i) (by omega)
set_option maxRecDepth 100000 in
theorem pushO {ops : Array Oper} {rest : List Oper} {o : Oper} {a : Act} {Q : Exit → Act → World → Prop} {w0 : World} (hgd : o.guard = none) (s x : Operand)
    (ho : o.op = .call { callee := .builtin .append, args := #[s, x], argTypes := #[154, 154] }) (bb : Nat) (v : Value) (T : List Int) (y : Int)
    (hs : a.eval s = v) (hx : a.eval x = .slice (some ⟨bb, 0, none⟩) 1 1) (hbb : bb = w0.heap.size) (hA : ORow w0 v T) (hn : T.length ≤ 2000)
    (h : ∀ v' w', ORow w' v' (T ++ [y]) → w0.grownBy w' v.ownBlock → (v'.ownBlock = v.ownBlock ∨ ∃ k, v'.ownBlock = some k ∧ w0.heap.size ≤ k) → wpList Tryz.prog ops Q rest (a.put o.dst v') w') :
    wpList Tryz.prog ops Q (o :: rest) a (w0.alloc (.cells #[.int .i64 y] 3)) := by
  subst hbb
  obtain ⟨i0, hi, hz0, hz1, hz2⟩ := info_parts Tryz.infoR3
  have hnew : ∀ j u, [Value.int .i64 y][j]? = some u → (w0.alloc (.cells #[.int .i64 y] 3)).cell? ((⟨w0.heap.size, 0, none⟩ : Addr).add j) = some u := cell_one_new w0 (.int .i64 y) 3
  have grow : ∀ {row : Option Nat} {w'}, (w0.alloc (.cells #[.int .i64 y] 3)).grownBy w' row → w0.grownBy w' row := fun hg => ⟨hg.os, hg.tape, hg.output, by have := hg.size; simp at this; omega, fun k hk hne => (hg.block k (by simp; omega) hne).trans (Below.heap_alloc _ _ k hk)⟩
  have back : ∀ {base : Nat} {w' v'}, w'.ownsRow base 3 1 v' (T.length + 1) (T.map (Value.int .i64) ++ [.int .i64 y]) → ORow w' v' (T ++ [y]) := by
    intro base w' v' hown
    refine ORow.of (base := base) ?_
    unfold IRow
    rw [List.map_append, List.length_append]
    exact hown
  rcases hA with ⟨rfl, rfl⟩ | ⟨b, off, cap, cur, rfl, h1, h2, h3, h4, h5⟩
  · refine wpList_append_own_at _ hgd s x 154 ho 0 3 i0 (.int .i64 0) 1 8 Tryz.underlying154 hi hz0 hz1 hz2 rfl (by decide) _ 0 [] hs (World.ownsRow_nil _ _ _ _) ⟨w0.heap.size, 0, none⟩ 1 1 [.int .i64 y] hx rfl hnew (by intro u hu; simp at hu; subst hu; rfl) (by decide) (by decide) (Nat.zero_le _) ?_
    intro v' w' hown hg _ hat
    refine h v' w' (back hown) (grow hg) ?_
    rcases hat with e | e
    · exact .inl e
    · exact .inr ⟨_, e, by simp⟩
  · have hb := lt_of_block h1
    have hb1 : (w0.alloc (.cells #[.int .i64 y] 3)).heap[b]? = some (.cells cur 3 (0, 0)) := (Below.heap_alloc _ _ b hb).trans h1
    have hcell : ∀ j, (w0.alloc (.cells #[.int .i64 y] 3)).cell? ⟨b, j, none⟩ = cur[j]? := fun j => cell_of hb1 j
    refine wpList_append_arg _ hgd s x 154 ho 3 i0 (.int .i64 0) 1 8 Tryz.underlying154 hi hz0 hz1 hz2 rfl (by decide) b off T.length cap (T.map (Value.int .i64)) hs (by simp) ?_ ⟨w0.heap.size, 0, none⟩ 1 1 [.int .i64 y] hx rfl hnew (by intro u hu; simp at hu; subst hu; rfl) ?_ (by unfold maxLen; omega) (by omega) ?_ ?_
    · intro j u hu
      rw [List.getElem?_map] at hu
      by_cases hj : j < T.length
      · rw [List.getElem?_eq_getElem hj] at hu
        simp only [Option.map_some, Option.some.injEq] at hu
        subst hu
        rw [hcell]
        exact h5 j hj
      · rw [List.getElem?_eq_none (by omega)] at hu; cases hu
    · intro hr j hj
      have hj0 : j = 0 := by simp at hj; exact hj
      subst hj0
      refine ⟨?_, frees hb1 _⟩
      rw [hcell, Array.getElem?_eq_getElem (show off + T.length * 1 + 0 < cur.size by omega)]
      rfl
    · intro hr
      refine h _ _ ?_ ?_ (.inl rfl)
      · refine .inr ⟨b, off, cap, cur.set! (off + T.length * 1) (.int .i64 y), by simp, cells_set hb1 _, by simp; omega, h3, by simp; omega, fun i hi => ?_⟩
        rw [Nat.mul_one, Array.set!_eq_setIfInBounds]
        by_cases hit : i < T.length
        · rw [Array.getElem?_setIfInBounds_ne (by omega), List.getElem_append_left hit]
          exact h5 i hit
        · have hie : i = T.length := by simp at hi; omega
          subst hie
          rw [Array.getElem?_setIfInBounds_self_of_lt (by omega)]
          simp
      · refine ⟨rfl, rfl, rfl, by simp [World.setCells], fun k hk hne => ?_⟩
        show ((w0.alloc (.cells #[.int .i64 y] 3)).setCell ⟨b, off + T.length * 1, none⟩ (.int .i64 y)).heap[k]? = _
        rw [Below.heap_setCell _ _ _ _ (by rintro rfl; exact hne rfl)]
        exact Below.heap_alloc _ _ k hk
    · intro hr v' w' hown hg
      have hg2 := grow hg
      refine h v' w' (back hown) ⟨hg2.os, hg2.tape, hg2.output, hg2.size, fun k hk _ => hg2.block k hk (by simp)⟩ ?_
      rcases hown.2 with ⟨_, hz⟩ | ⟨k, _, _, rfl, hk, _⟩
      · omega
      · exact .inr ⟨k, rfl, by simp at hk; omega⟩
/-- what is right of a journal's numbers behind so many steps -/
structure JOk (P : Int) (T F S : Nat) (sz : List Int) (m : Nat) : Prop where
  p0 : 0 < P
  p1 : P ≤ 255
  t : (T : Int) < P
  f : 1 ≤ F
  fm : F + sz.length ≤ m + 1
  s : S ≤ sz.length
  pos : ∀ x ∈ sz, 1 ≤ x
  sum : sumI sz ≤ P
set_option maxRecDepth 100000 in
theorem sumI_len : ∀ {l : List Int}, (∀ x ∈ l, 1 ≤ x) → (l.length : Int) ≤ sumI l
  | [], _ => Int.le_refl _
  | y :: l, h => by
    have h1 := sumI_len (l := l) (fun x hx => h x (by simp [hx]))
    have h2 := h y (by simp)
    show ((l.length + 1 : Nat) : Int) ≤ y + sumI l
    omega
set_option maxRecDepth 100000 in
theorem JOk.len {P : Int} {T F S m : Nat} {sz : List Int} (h : JOk P T F S sz m) : sz.length ≤ 255 := by
  have h1 := sumI_len h.pos
  have h2 := h.sum
  have h3 := h.p1
  omega
set_option maxRecDepth 100000 in
theorem JOk.nn {P : Int} {T F S m : Nat} {sz : List Int} (h : JOk P T F S sz m) : ∀ x ∈ sz, 0 ≤ x := fun x hx => by have := h.pos x hx; omega
set_option maxRecDepth 100000 in
theorem JOk.new {n : Int} (h : 8 ≤ n ∧ n ≤ 256) : JOk (n - 1) 0 1 0 [] 0 := ⟨by omega, by omega, by omega, Nat.le_refl _, by simp, Nat.le_refl _, by simp, by show (0 : Int) ≤ n - 1; omega⟩
set_option maxRecDepth 100000 in
theorem JOk.more {P : Int} {T F S m m' : Nat} {sz : List Int} (h : JOk P T F S sz m) (hm : m ≤ m') : JOk P T F S sz m' := ⟨h.p0, h.p1, h.t, h.f, by have := h.fm; omega, h.s, h.pos, h.sum⟩
set_option maxRecDepth 100000 in
theorem JOk.push {P : Int} {T F S m : Nat} {sz : List Int} (h : JOk P T F S sz m) {n : Nat} (hs : sumI sz + n + 1 ≤ P) : JOk P T F S (sz ++ [(n : Int) + 1]) (m + 1) := by
  refine ⟨h.p0, h.p1, h.t, h.f, by have := h.fm; simp; omega, by have := h.s; simp; omega, fun x hx => ?_, by rw [sumI_snoc]; omega⟩
  rcases List.mem_append.1 hx with hx | hx
  · exact h.pos x hx
  · simp at hx; omega
set_option maxRecDepth 100000 in
theorem JOk.seal {P : Int} {T F S m : Nat} {sz : List Int} (h : JOk P T F S sz m) : JOk P T F sz.length sz m := ⟨h.p0, h.p1, h.t, h.f, h.fm, Nat.le_refl _, h.pos, h.sum⟩
set_option maxRecDepth 100000 in
theorem JOk.done {P : Int} {T F S m : Nat} {sz : List Int} (h : JOk P T F S sz m) {k T' : Nat} (hk : k ≤ S) (hT' : (T' : Int) = ((T : Int) + sumI (sz.take k)) % P) : JOk P T' (F + k) (S - k) (sz.drop k) m := by
  have hs := h.s
  have hf := h.fm
  refine ⟨h.p0, h.p1, by rw [hT']; exact Int.emod_lt_of_pos _ h.p0, by have := h.f; omega, by rw [List.length_drop]; omega, by rw [List.length_drop]; omega, fun x hx => h.pos x (List.mem_of_mem_drop hx), ?_⟩
  have h1 := sumI_app (sz.take k) (sz.drop k)
  rw [List.take_append_drop] at h1
  have h2 := (sumI_take h.nn k).1
  have h3 := h.sum
  omega
set_option maxRecDepth 100000 in
theorem JS.same {g : Nat} {r : Option Nat} {w w' : World} {P : Int} {T F S : Nat} {l : List Int} (h : JS g r w P T F S l) (k : w'.heap[g]? = w.heap[g]?) (kr : ∀ x, r = some x → w'.heap[x]? = w.heap[x]?) : JS g r w' P T F S l := by
  obtain ⟨sv, h0, h1, h2⟩ := h
  exact ⟨sv, h0, k.trans h1, h2.same fun x hx => kr x (h0.symm.trans hx)⟩
/-- a journal and a row of numbers apart from it -/
structure RS (B g : Nat) (r : Option Nat) (w : World) (P : Int) (T F S : Nat) (sz : List Int) (sv : Value) (sl : List Int) : Prop where
  js : JS g r w P T F S sz
  row : ORow w sv sl
  ag : ∀ x, sv.ownBlock = some x → x ≠ g ∧ some x ≠ r
  gB : B ≤ g
  rB : ∀ x, r = some x → B ≤ x
  vB : ∀ x, sv.ownBlock = some x → B ≤ x
set_option maxRecDepth 100000 in
theorem RS.keep {B g : Nat} {r : Option Nat} {w w' : World} {P : Int} {T F S : Nat} {sz sl : List Int} {sv : Value} (h : RS B g r w P T F S sz sv sl) (k : Below w.heap.size w w') : RS B g r w' P T F S sz sv sl :=
  ⟨h.js.below k, h.row.same fun x hx => k.block x (h.row.own x hx), h.ag, h.gB, h.rB, h.vB⟩
set_option maxRecDepth 100000 in
theorem RS.jstep {B g : Nat} {r r' : Option Nat} {w w' : World} {P : Int} {T F S T' F' S' : Nat} {sz sz' sl : List Int} {sv : Value} (h : RS B g r w P T F S sz sv sl) (hj : JS g r' w' P T' F' S' sz') (hn : New w r r') (hf : JFr g r w w') : RS B g r' w' P T' F' S' sz' sv sl ∧ Below B w w' := by
  have hB : B ≤ w.heap.size := Nat.le_trans h.gB (Nat.le_of_lt h.js.lt.1)
  refine ⟨⟨hj, h.row.same fun x hx => hf.block x (h.row.own x hx) (h.ag x hx).1 (h.ag x hx).2, fun x hx => ⟨(h.ag x hx).1, ?_⟩, h.gB, fun x hx => ?_, h.vB⟩, hf.below hB h.gB h.rB⟩
  · rcases hn with rfl | ⟨k, rfl, hk⟩
    · exact (h.ag x hx).2
    · have := h.row.own x hx
      intro e; cases e; omega
  · rcases hn with rfl | ⟨k, rfl, hk⟩
    · exact h.rB x hx
    · cases hx; omega
set_option maxRecDepth 100000 in
theorem RS.vstep {B g : Nat} {r : Option Nat} {w w' : World} {P : Int} {T F S : Nat} {sz sl sl' : List Int} {sv sv' : Value} (h : RS B g r w P T F S sz sv sl) (hr : ORow w' sv' sl') (hg : w.grownBy w' sv.ownBlock) (hn : sv'.ownBlock = sv.ownBlock ∨ ∃ k, sv'.ownBlock = some k ∧ w.heap.size ≤ k) : RS B g r w' P T F S sz sv' sl' ∧ Below B w w' := by
  have hl := h.js.lt
  have hB : B ≤ w.heap.size := Nat.le_trans h.gB (Nat.le_of_lt hl.1)
  refine ⟨⟨h.js.same (hg.block g hl.1 fun e => (h.ag g e.symm).1 rfl) (fun x hx => hg.block x (hl.2 x hx).1 fun e => (h.ag x e.symm).2 hx.symm), hr, fun x hx => ?_, h.gB, h.rB, fun x hx => ?_⟩, ⟨hg.os, hg.tape, hg.output, hg.size, fun k hk => hg.block k (by omega) fun e => by have := h.vB k e.symm; omega⟩⟩
  · rcases hn with e | ⟨k, e, hk⟩
    · exact h.ag x (e.symm.trans hx)
    · rw [hx] at e
      cases e
      refine ⟨by omega, fun e => ?_⟩
      have := (hl.2 x e.symm).1
      omega
  · rcases hn with e | ⟨k, e, hk⟩
    · exact h.vB x (e.symm.trans hx)
    · rw [hx] at e
      cases e
      omega
set_option maxRecDepth 100000 in
theorem RS.reslice {B g : Nat} {r : Option Nat} {w : World} {P : Int} {T F S : Nat} {sz sl sl' : List Int} {sv sv' : Value} (h : RS B g r w P T F S sz sv sl) (hr : ORow w sv' sl') (e : sv'.ownBlock = sv.ownBlock) : RS B g r w P T F S sz sv' sl' :=
  ⟨h.js, hr, fun x hx => h.ag x (e.symm.trans hx), h.gB, h.rB, fun x hx => h.vB x (e.symm.trans hx)⟩
end Go.Proofs.YtopebghandojbaaGreat
