import Derived.Test.YtogiiefaakejlaaCc
import Derived.Test.YtogiiefaakejlaaJo
import Derived.Lib.Join
namespace Go.Proofs.Ytogiiefaakejlaa
open Go.RowKit Go.Maps

theorem add_at (g k n : Nat) : (⟨g, k, none⟩ : Addr).add n = ⟨g, k + n, none⟩ := by unfold Addr.add; split <;> simp_all
/-- a slice that reads as strings -/
def SLie (w : World) (v : Value) (l : List ByteArray) : Prop :=
  ∃ ao cap, v = .slice ao l.length cap ∧ l.length ≤ cap ∧ cap ≤ maxLen ∧ ∀ i (hi : i < l.length), ∃ gb off, ao = some ⟨gb, off, none⟩ ∧ gb < w.heap.size ∧ w.cell? ⟨gb, off + i, none⟩ = some (.string l[i])
theorem SLie.below {w w' : World} {v : Value} {l : List ByteArray} (h : SLie w v l) (k : Below w.heap.size w w') : SLie w' v l := by
  obtain ⟨ao, cap, e, h1, h2, h3⟩ := h
  refine ⟨ao, cap, e, h1, h2, fun i hi => ?_⟩
  obtain ⟨gb, off, e1, hg, c0⟩ := h3 i hi
  exact ⟨gb, off, e1, Nat.lt_of_lt_of_le hg k.size, (k.cell (p := ⟨gb, off + i, none⟩) hg).trans c0⟩
/-- a slice that reads as numbers -/
def ILie (w : World) (v : Value) (l : List Int) : Prop :=
  ∃ ao cap, v = .slice ao l.length cap ∧ l.length ≤ cap ∧ cap ≤ maxLen ∧ ∀ i (hi : i < l.length), ∃ gb off, ao = some ⟨gb, off, none⟩ ∧ gb < w.heap.size ∧ w.cell? ⟨gb, off + i, none⟩ = some (.int .i64 l[i])
theorem ILie.below {w w' : World} {v : Value} {l : List Int} (h : ILie w v l) (k : Below w.heap.size w w') : ILie w' v l := by
  obtain ⟨ao, cap, e, h1, h2, h3⟩ := h
  refine ⟨ao, cap, e, h1, h2, fun i hi => ?_⟩
  obtain ⟨gb, off, e1, hg, c0⟩ := h3 i hi
  exact ⟨gb, off, e1, Nat.lt_of_lt_of_le hg k.size, (k.cell (p := ⟨gb, off + i, none⟩) hg).trans c0⟩
/-- strings, one behind the other -/
def allD (l : List ByteArray) : List UInt8 := (l.map (·.data.toList)).flatten
theorem join_all (l : List ByteArray) : Lib.join (l.map (·.data.toList)) [] = allD l := by
  unfold allD
  cases l with
  | nil => rfl
  | cons x r => rw [List.map_cons, Lib.join_cons]; simp [Lib.joinTail, Function.comp_def]
/-- a row of the call's own: S -/
def SRow (base : Nat) (w : World) (v : Value) (l : List ByteArray) : Prop := w.ownsRow base 9 1 v l.length (l.map Value.string)
theorem Try.infoR9 : (Try.prog.info? 9).map (fun i => (i.zero, i.size, i.bytes)) = some (some (.string ⟨#[]⟩), 1, 16) := by kernel_rfl
theorem SRow.nil (base : Nat) (w : World) : SRow base w (.slice none 0 0) [] := ⟨rfl, .inl ⟨rfl, rfl⟩⟩
theorem SRow.below {base : Nat} {w w' : World} {v : Value} {l : List ByteArray} (h : SRow base w v l) (k : Below w.heap.size w w') : SRow base w' v l := by
  obtain ⟨e1, e2 | ⟨x, cap, cur, e3, e4, e5, e6⟩⟩ := h
  · exact ⟨e1, .inl e2⟩
  · exact ⟨e1, .inr ⟨x, cap, cur, e3, e4, (k.block x (lt_of_block e5)).trans e5, e6⟩⟩
theorem SRow.same {base : Nat} {w w' : World} {v : Value} {l : List ByteArray} (h : SRow base w v l) (k : ∀ x, v.ownBlock = some x → w'.heap[x]? = w.heap[x]?) : SRow base w' v l := by
  obtain ⟨e1, e2 | ⟨x, cap, cur, rfl, e4, e5, e6⟩⟩ := h
  · exact ⟨e1, .inl e2⟩
  · exact ⟨e1, .inr ⟨x, cap, cur, rfl, e4, (k x rfl).trans e5, e6⟩⟩
theorem SRow.own {base : Nat} {w : World} {v : Value} {l : List ByteArray} (h : SRow base w v l) : ∀ x, v.ownBlock = some x → base ≤ x ∧ ∃ cur, w.heap[x]? = some (.cells cur 9 (0, 0)) := by
  obtain ⟨e1, ⟨rfl, _⟩ | ⟨x, cap, cur, rfl, e4, e5, e6⟩⟩ := h
  · intro x hx; cases hx
  · intro y hy; cases hy; exact ⟨e4, _, e5⟩
theorem SRow.len {base : Nat} {w : World} {v : Value} {l : List ByteArray} (h : SRow base w v l) : ∃ ao cap, v = .slice ao l.length cap ∧ l.length ≤ cap ∧ cap ≤ maxLen := by
  rcases h.2 with ⟨rfl, hz⟩ | ⟨gb, cap, cur, rfl, _, _, r1, r2, _⟩
  · exact ⟨none, 0, by rw [hz], by omega, by decide⟩
  · exact ⟨_, cap, rfl, r1, r2⟩
theorem SRow.lie {base : Nat} {w : World} {v : Value} {l : List ByteArray} (h : SRow base w v l) : SLie w v l := by
  rcases h.2 with ⟨rfl, hz⟩ | ⟨gb, cap, cur, rfl, hbase, hgb, r1, r2, r3, r4⟩
  · have : l = [] := List.eq_nil_of_length_eq_zero hz
    subst this
    exact ⟨none, 0, rfl, Nat.le_refl _, by decide, fun i hi => by simp at hi⟩
  · refine ⟨_, cap, rfl, r1, r2, fun i hi => ⟨gb, 0, rfl, lt_of_block hgb, ?_⟩⟩
    have e1 : cur.toList[i]? = (l.map Value.string)[i]? := by rw [← r4, List.getElem?_take_of_lt (by omega)]
    rw [Array.getElem?_toList, List.getElem?_map, List.getElem?_eq_getElem hi] at e1
    simp [World.cell?, hgb, e1]
theorem pushS {ops : Array Oper} {rest : List Oper} {o : Oper} {a : Act} {Q : Exit → Act → World → Prop} {w0 : World} (hgd : o.guard = none) (s x : Operand)
    (ho : o.op = .call { callee := .builtin .append, args := #[s, x], argTypes := #[22, 22] }) (B1 bb : Nat) (v : Value) (T : List ByteArray) (y : ByteArray)
    (hs : a.eval s = v) (hx : a.eval x = .slice (some ⟨bb, 0, none⟩) 1 1) (hbb : bb = w0.heap.size) (hA : SRow B1 w0 v T) (hn : T.length ≤ 2000) (hbase : B1 ≤ w0.heap.size)
    (h : ∀ v' w', SRow B1 w' v' (T ++ [y]) → Below B1 w0 w' → (∀ k, k < w0.heap.size → some k ≠ v.ownBlock → w'.heap[k]? = w0.heap[k]?) → wpList Try.prog ops Q rest (a.put o.dst v') w') :
    wpList Try.prog ops Q (o :: rest) a (w0.alloc (.cells #[.string y] 9)) := by
  subst hbb
  obtain ⟨i0, hi, hz0, hz1, hz2⟩ := info_parts Try.infoR9
  have ho2 := hA.own
  refine wpList_append_own _ hgd s x 22 ho B1 9 i0 (.string ⟨#[]⟩) 1 16 Try.underlying22 hi hz0 hz1 hz2 rfl (by decide) v T.length (T.map Value.string) hs (World.ownsRow.alloc hA _) ⟨w0.heap.size, 0, none⟩ 1 1 [.string y] hx rfl (by
      intro j u hu
      match j, hu with
      | 0, hu => simp at hu; subst hu; simp [Addr.add]
      | j + 1, hu => simp at hu) (by intro u hu; simp at hu; subst hu; rfl) (by unfold maxLen; omega) (by omega) (by simp; omega) ?_
  intro v' w' hown hg _
  refine h v' w' ?_ ?_ (fun k hk hne => (hg.block k (by simp; omega) hne).trans (Below.heap_alloc _ _ k hk))
  · unfold SRow
    rw [List.map_append, List.length_append]
    exact hown
  · refine (below_alloc w0 (.cells #[.string y] 9)).mono hbase |>.trans ⟨hg.os, hg.tape, hg.output, hg.size, fun k hk => hg.block k ?_ ?_⟩
    · simp; omega
    · intro e
      have := (ho2 k e.symm).1
      omega

/-- a row of the call's own: I -/
def IRow (base : Nat) (w : World) (v : Value) (l : List Int) : Prop := w.ownsRow base 3 1 v l.length (l.map (Value.int .i64))
theorem Try.infoR3 : (Try.prog.info? 3).map (fun i => (i.zero, i.size, i.bytes)) = some (some (.int .i64 0), 1, 8) := by kernel_rfl
theorem IRow.nil (base : Nat) (w : World) : IRow base w (.slice none 0 0) [] := ⟨rfl, .inl ⟨rfl, rfl⟩⟩
theorem IRow.below {base : Nat} {w w' : World} {v : Value} {l : List Int} (h : IRow base w v l) (k : Below w.heap.size w w') : IRow base w' v l := by
  obtain ⟨e1, e2 | ⟨x, cap, cur, e3, e4, e5, e6⟩⟩ := h
  · exact ⟨e1, .inl e2⟩
  · exact ⟨e1, .inr ⟨x, cap, cur, e3, e4, (k.block x (lt_of_block e5)).trans e5, e6⟩⟩
theorem IRow.same {base : Nat} {w w' : World} {v : Value} {l : List Int} (h : IRow base w v l) (k : ∀ x, v.ownBlock = some x → w'.heap[x]? = w.heap[x]?) : IRow base w' v l := by
  obtain ⟨e1, e2 | ⟨x, cap, cur, rfl, e4, e5, e6⟩⟩ := h
  · exact ⟨e1, .inl e2⟩
  · exact ⟨e1, .inr ⟨x, cap, cur, rfl, e4, (k x rfl).trans e5, e6⟩⟩
theorem IRow.own {base : Nat} {w : World} {v : Value} {l : List Int} (h : IRow base w v l) : ∀ x, v.ownBlock = some x → base ≤ x ∧ ∃ cur, w.heap[x]? = some (.cells cur 3 (0, 0)) := by
  obtain ⟨e1, ⟨rfl, _⟩ | ⟨x, cap, cur, rfl, e4, e5, e6⟩⟩ := h
  · intro x hx; cases hx
  · intro y hy; cases hy; exact ⟨e4, _, e5⟩
theorem IRow.len {base : Nat} {w : World} {v : Value} {l : List Int} (h : IRow base w v l) : ∃ ao cap, v = .slice ao l.length cap ∧ l.length ≤ cap ∧ cap ≤ maxLen := by
  rcases h.2 with ⟨rfl, hz⟩ | ⟨gb, cap, cur, rfl, _, _, r1, r2, _⟩
  · exact ⟨none, 0, by rw [hz], by omega, by decide⟩
  · exact ⟨_, cap, rfl, r1, r2⟩
theorem IRow.lie {base : Nat} {w : World} {v : Value} {l : List Int} (h : IRow base w v l) : ILie w v l := by
  rcases h.2 with ⟨rfl, hz⟩ | ⟨gb, cap, cur, rfl, hbase, hgb, r1, r2, r3, r4⟩
  · have : l = [] := List.eq_nil_of_length_eq_zero hz
    subst this
    exact ⟨none, 0, rfl, Nat.le_refl _, by decide, fun i hi => by simp at hi⟩
  · refine ⟨_, cap, rfl, r1, r2, fun i hi => ⟨gb, 0, rfl, lt_of_block hgb, ?_⟩⟩
    have e1 : cur.toList[i]? = (l.map (Value.int .i64))[i]? := by rw [← r4, List.getElem?_take_of_lt (by omega)]
    rw [Array.getElem?_toList, List.getElem?_map, List.getElem?_eq_getElem hi] at e1
    simp [World.cell?, hgb, e1]
theorem pushI {ops : Array Oper} {rest : List Oper} {o : Oper} {a : Act} {Q : Exit → Act → World → Prop} {w0 : World} (hgd : o.guard = none) (s x : Operand)
    (ho : o.op = .call { callee := .builtin .append, args := #[s, x], argTypes := #[52, 52] }) (B1 bb : Nat) (v : Value) (T : List Int) (y : Int)
    (hs : a.eval s = v) (hx : a.eval x = .slice (some ⟨bb, 0, none⟩) 1 1) (hbb : bb = w0.heap.size) (hA : IRow B1 w0 v T) (hn : T.length ≤ 2000) (hbase : B1 ≤ w0.heap.size)
    (h : ∀ v' w', IRow B1 w' v' (T ++ [y]) → Below B1 w0 w' → (∀ k, k < w0.heap.size → some k ≠ v.ownBlock → w'.heap[k]? = w0.heap[k]?) → wpList Try.prog ops Q rest (a.put o.dst v') w') :
    wpList Try.prog ops Q (o :: rest) a (w0.alloc (.cells #[.int .i64 y] 3)) := by
  subst hbb
  obtain ⟨i0, hi, hz0, hz1, hz2⟩ := info_parts Try.infoR3
  have ho2 := hA.own
  refine wpList_append_own _ hgd s x 52 ho B1 3 i0 (.int .i64 0) 1 8 Try.underlying52 hi hz0 hz1 hz2 rfl (by decide) v T.length (T.map (Value.int .i64)) hs (World.ownsRow.alloc hA _) ⟨w0.heap.size, 0, none⟩ 1 1 [.int .i64 y] hx rfl (by
      intro j u hu
      match j, hu with
      | 0, hu => simp at hu; subst hu; simp [Addr.add]
      | j + 1, hu => simp at hu) (by intro u hu; simp at hu; subst hu; rfl) (by unfold maxLen; omega) (by omega) (by simp; omega) ?_
  intro v' w' hown hg _
  refine h v' w' ?_ ?_ (fun k hk hne => (hg.block k (by simp; omega) hne).trans (Below.heap_alloc _ _ k hk))
  · unfold IRow
    rw [List.map_append, List.length_append]
    exact hown
  · refine (below_alloc w0 (.cells #[.int .i64 y] 3)).mono hbase |>.trans ⟨hg.os, hg.tape, hg.output, hg.size, fun k hk => hg.block k ?_ ?_⟩
    · simp; omega
    · intro e
      have := (ho2 k e.symm).1
      omega

/-- a row of the call's own -/
def KRow (base : Nat) (w : World) (v : Value) (l : List Ck) : Prop := w.ownsRow base 35 5 v l.length (l.flatMap Ck.cs)
theorem KRow.nil (base : Nat) (w : World) : KRow base w (.slice none 0 0) [] := ⟨rfl, .inl ⟨rfl, rfl⟩⟩
theorem KRow.frame {base : Nat} {w w' : World} {v : Value} {l : List Ck} (h : KRow base w v l) (k : ∀ (b : Nat) (cs : Array Value) (fz : Nat × Nat), w.heap[b]? = some (.cells cs 35 fz) → w'.heap[b]? = w.heap[b]?) : KRow base w' v l := by
  obtain ⟨e1, e2 | ⟨x, cap, cur, rfl, e4, e5, e6⟩⟩ := h
  · exact ⟨e1, .inl e2⟩
  · exact ⟨e1, .inr ⟨x, cap, cur, rfl, e4, (k x _ _ e5).trans e5, e6⟩⟩
theorem KRow.own {base : Nat} {w : World} {v : Value} {l : List Ck} (h : KRow base w v l) : ∀ x, v.ownBlock = some x → base ≤ x ∧ ∃ cur, w.heap[x]? = some (.cells cur 35 (0, 0)) := by
  obtain ⟨e1, ⟨rfl, _⟩ | ⟨x, cap, cur, rfl, e4, e5, e6⟩⟩ := h
  · intro x hx; cases hx
  · intro y hy; cases hy; exact ⟨e4, _, e5⟩
theorem KRow.below {base : Nat} {w w' : World} {v : Value} {l : List Ck} (h : KRow base w v l) (k : Below w.heap.size w w') : KRow base w' v l :=
  h.frame fun b _ _ hb => k.block b (lt_of_block hb)
theorem KRow.len {base : Nat} {w : World} {v : Value} {l : List Ck} (h : KRow base w v l) : ∃ ao cap, v = .slice ao l.length cap ∧ l.length ≤ cap ∧ cap ≤ maxLen := by
  rcases h.2 with ⟨rfl, hz⟩ | ⟨gb, cap, cur, rfl, _, _, r1, r2, _⟩
  · exact ⟨none, 0, by rw [hz], by omega, by decide⟩
  · exact ⟨_, cap, rfl, r1, r2⟩
theorem Kfl_len : ∀ l : List Ck, (l.flatMap Ck.cs).length = l.length * 5
  | [] => rfl
  | x :: l => by rw [List.flatMap_cons, List.length_append, Kfl_len l, List.length_cons, ck_len]; omega
theorem Kfl_get : ∀ (l : List Ck) (i k : Nat) (hi : i < l.length), k < 5 → (l.flatMap Ck.cs)[i * 5 + k]? = (Ck.cs l[i])[k]?
  | x :: l, 0, k, hi, hk => by
    rw [List.flatMap_cons, Nat.zero_mul, Nat.zero_add, List.getElem?_append_left (by rw [ck_len]; exact hk)]; rfl
  | x :: l, i + 1, k, hi, hk => by
    have := Kfl_get l i k (by simpa using hi) hk
    rw [List.flatMap_cons, List.getElem?_append_right (by rw [ck_len]; omega), ck_len, show (i + 1) * 5 + k - 5 = i * 5 + k by omega, this]; rfl
theorem KRow.at {base : Nat} {w : World} {v : Value} {l : List Ck} (h : KRow base w v l) (hl : 0 < l.length) : ∃ x cap, v = .slice (some ⟨x, 0, none⟩) l.length cap ∧ x < w.heap.size ∧ ∀ i (hi : i < l.length) q, q < 5 → w.cell? ⟨x, i * 5 + q, none⟩ = (Ck.cs l[i])[q]? := by
  have hh := h
  obtain ⟨e1, ⟨rfl, hz⟩ | ⟨x, cap, cur, rfl, e4, e5, r1, r2, r3⟩⟩ := h
  · omega
  · refine ⟨x, cap, rfl, lt_of_block e5, fun i hi q hq => ?_⟩
    rw [World.ownsRow.cellAt hh (i * 5 + q) (by omega)]
    exact Kfl_get l i q hi hq
set_option maxRecDepth 100000 in
theorem Kinfo : (Try.prog.info? 35).map (fun i => (i.zero, i.size, i.bytes)) = some (some (.agg #[.int .i64 0, .int .i64 0, .int .i64 0, .string ⟨#[]⟩, .int .i64 0]), 5, 48) := by kernel_rfl
theorem pushK {ops : Array Oper} {rest : List Oper} {o : Oper} {a : Act} {Q : Exit → Act → World → Prop} {w0 : World} (hgd : o.guard = none) (s x : Operand)
    (ho : o.op = .call { callee := .builtin .append, args := #[s, x], argTypes := #[30, 30] }) (B1 bb : Nat) (v : Value) (T : List Ck) (y : Ck)
    (hs : a.eval s = v) (hx : a.eval x = .slice (some ⟨bb, 0, none⟩) 1 1) (hbb : bb = w0.heap.size) (hA : KRow B1 w0 v T) (hy : ∀ u ∈ Ck.cs y, u.oneCell' = true) (hn : T.length ≤ 2000000) (hbase : B1 ≤ w0.heap.size)
    (h : ∀ v' w', KRow B1 w' v' (T ++ [y]) → Below B1 w0 w' → (∀ k, k < w0.heap.size → some k ≠ v.ownBlock → w'.heap[k]? = w0.heap[k]?) → (∀ b, v'.ownBlock = some b → v.ownBlock = some b ∨ w0.heap.size ≤ b) → wpList Try.prog ops Q rest (a.put o.dst v') w') :
    wpList Try.prog ops Q (o :: rest) a (w0.alloc (.cells (Ck.cs y).toArray 35)) := by
  subst hbb
  obtain ⟨i0, hi, hz0, hz1, hz2⟩ := info_parts Kinfo
  have ho2 := hA.own
  refine wpList_append_own_at _ hgd s x 30 ho B1 35 i0 (.agg #[.int .i64 0, .int .i64 0, .int .i64 0, .string ⟨#[]⟩, .int .i64 0]) 5 48 Try.underlying30 hi hz0 hz1 hz2 rfl (by decide) v T.length (T.flatMap Ck.cs) hs (World.ownsRow.alloc hA _) ⟨w0.heap.size, 0, none⟩ 1 1 (Ck.cs y) hx (by rw [ck_len]) (by
      intro j u hu
      rw [add_at, Nat.zero_add, World.cell?_alloc_at _ _ _ _ rfl, List.getElem?_toArray]
      exact hu) hy (by unfold maxLen; omega) (by omega) (by simp; omega) ?_
  intro v' w' hown hg _ hat
  refine h v' w' ?_ ?_ ?_ (fun b hb => by rcases hat with e | e; exact .inl (e ▸ hb); exact .inr (by rw [e] at hb; have := Option.some.inj hb; simp at this; omega))
  · unfold KRow
    rw [List.flatMap_append, List.length_append]
    simpa using hown
  · refine (below_alloc w0 (.cells (Ck.cs y).toArray 35)).mono hbase |>.trans ⟨hg.os, hg.tape, hg.output, hg.size, fun k hk => hg.block k ?_ ?_⟩
    · simp; omega
    · intro e
      have := (ho2 k e.symm).1
      omega
  · intro k hk hne
    exact (hg.block k (by simp; omega) hne).trans (Below.heap_alloc w0 _ k hk)
/-- a slice that reads as chunks -/
def KLie (w : World) (v : Value) (l : List Ck) : Prop :=
  ∃ ao cap, v = .slice ao l.length cap ∧ l.length ≤ cap ∧ cap ≤ maxLen ∧ ∀ i (hi : i < l.length), ∃ gb off, ao = some ⟨gb, off, none⟩ ∧ gb < w.heap.size ∧ ∀ q, q < 5 → w.cell? ⟨gb, off + i * 5 + q, none⟩ = (Ck.cs l[i])[q]?
theorem KLie.below {w w' : World} {v : Value} {l : List Ck} (h : KLie w v l) (k : Below w.heap.size w w') : KLie w' v l := by
  obtain ⟨ao, cap, e, h1, h2, h3⟩ := h
  refine ⟨ao, cap, e, h1, h2, fun i hi => ?_⟩
  obtain ⟨gb, off, e1, hg, c0⟩ := h3 i hi
  exact ⟨gb, off, e1, Nat.lt_of_lt_of_le hg k.size, fun q hq => (k.cell (p := ⟨gb, off + i * 5 + q, none⟩) hg).trans (c0 q hq)⟩
theorem KRow.lie {base : Nat} {w : World} {v : Value} {l : List Ck} (h : KRow base w v l) : KLie w v l := by
  obtain ⟨ao, cap, e, h1, h2⟩ := h.len
  refine ⟨ao, cap, e, h1, h2, fun i hi => ?_⟩
  obtain ⟨x, cap', e', hx, hc⟩ := h.at (by omega)
  rw [e] at e'
  cases e'
  exact ⟨x, 0, rfl, hx, fun q hq => by rw [Nat.zero_add]; exact hc i hi q hq⟩
end Go.Proofs.Ytogiiefaakejlaa
