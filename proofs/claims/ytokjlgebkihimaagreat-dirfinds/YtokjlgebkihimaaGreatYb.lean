import Derived.Test.YtokjlgebkihimaaGreatYa
namespace Go.Proofs.YtokjlgebkihimaaGreat
open Go.RowKit Go.Maps Go.Shelf

/-- the view, in a world above W; its own block and its first blocks lie below g0 -/
structure RV (W : World) (p q cap g0 : Nat) (B : List ByteArray) (wr : World) : Prop where
  vi : ∃ m, VI sG p q cap m wr sF B ∧ W.heap.size ≤ m
  pq : p < g0 ∧ q < g0 ∧ W.heap.size ≤ p
  bel : Below W.heap.size W wr
  gW : W.heap.size ≤ g0
  gl : g0 ≤ wr.heap.size
theorem RV.next {W : World} {p q cap g0 : Nat} {B : List ByteArray} {wr w' : World} (h : RV W p q cap g0 B wr) (k : Below wr.heap.size wr w') : RV W p q cap g0 B w' := by
  obtain ⟨m, hv, hm⟩ := h.vi
  exact ⟨⟨m, hv.below k, hm⟩, h.pq, h.bel.next k, h.gW, Nat.le_trans h.gl k.size⟩
theorem RV.grow {W : World} {p q cap g0 : Nat} {B : List ByteArray} {wr w' : World} {b : Option Nat} (h : RV W p q cap g0 B wr) (k : wr.grownBy w' b) (hb : ∀ x, b = some x → g0 ≤ x ∧ ∃ cur T, wr.heap[x]? = some (.cells cur T (0, 0))) : RV W p q cap g0 B w' := by
  obtain ⟨m, hv, hm⟩ := h.vi
  obtain ⟨h1, h2, h3⟩ := h.pq
  have hgW := h.gW
  have hs := h.bel.size
  have hm2 : some m ≠ b := by
    intro e
    obtain ⟨_, cur, T, hc⟩ := hb m e.symm
    obtain ⟨M, hM, _⟩ := hv.map
    obtain ⟨es, c, hc2⟩ := hM.isMap
    rw [hc2] at hc; cases hc
  refine ⟨⟨m, hv.same (k.block p hv.pl ?_) (k.block q hv.ql ?_) (k.block m hv.ml hm2), hm⟩, h.pq, h.bel.trans ⟨k.os, k.tape, k.output, k.size, fun x hx => k.block x (by omega) ?_⟩, hgW, Nat.le_trans h.gl k.size⟩
  · intro e; have := (hb p e.symm).1; omega
  · intro e; have := (hb q e.symm).1; omega
  · intro e; have := (hb x e.symm).1; omega
theorem RV.vpd {W : World} {p q cap g0 m : Nat} {B B' : List ByteArray} {wr w' : World} (h : RV W p q cap g0 B wr) (hm : W.heap.size ≤ m) (k : VPd p q cap m B' wr w') : RV W p q cap g0 B' w' := by
  obtain ⟨m', hv', ho, hm'⟩ := k
  have hs := h.bel.size
  obtain ⟨h1, h2, h3⟩ := h.pq
  refine ⟨⟨m', hv', by omega⟩, h.pq, h.bel.trans (ho.below hs ?_), h.gW, Nat.le_trans h.gl ho.size⟩
  intro x hx
  simp at hx
  rcases hx with rfl | rfl
  · exact h3
  · exact hm
/-- blocks of cells of a type stay as they are -/
def KT (T : TypeId) (w w' : World) : Prop := ∀ (b : Nat) (cs : Array Value) (fz : Nat × Nat), w.heap[b]? = some (.cells cs T fz) → w'.heap[b]? = w.heap[b]?
theorem KT.of_below {T : TypeId} {w w' : World} (k : Below w.heap.size w w') : KT T w w' := fun b _ _ hb => k.block b (lt_of_block hb)
theorem KT.trans {T : TypeId} {w w1 w2 : World} (h : KT T w w1) (k : KT T w1 w2) : KT T w w2 := fun b cs fz hb => (k b cs fz ((h b cs fz hb).trans hb)).trans (h b cs fz hb)
theorem VPd.kt {p q cap m : Nat} {B B' : List ByteArray} {w w' : World} {T : TypeId} (hT : T ≠ 76) (hv : VI sG p q cap m w sF B) (k : VPd p q cap m B' w w') : KT T w w' := by
  obtain ⟨m', _, ho, _⟩ := k
  intro b cs fz hb
  refine ho.block b (lt_of_block hb) ?_
  intro hx
  simp at hx
  rcases hx with rfl | rfl
  · rw [hv.own] at hb
    cases hb
    exact hT rfl
  · obtain ⟨M, hM, _⟩ := hv.map
    obtain ⟨es, c, e⟩ := hM.isMap
    rw [e] at hb; cases hb
theorem SB4.kt {q : Nat} {w w' : World} {s : Stp} (h : SB4 q w s) (k : KT 40 w w') : SB4 q w' s := (k q _ _ h).trans h
/-- a name and its number in memory -/
def nC (y : ByteArray × Nat) : List Value := [.string y.1, .int .i64 (y.2 : Int)]
def NRow (base : Nat) (w : World) (v : Value) (l : List (ByteArray × Nat)) : Prop := w.ownsRow base 63 2 v l.length (l.flatMap nC)
theorem NRow.nil (base : Nat) (w : World) : NRow base w (.slice none 0 0) [] := ⟨rfl, .inl ⟨rfl, rfl⟩⟩
theorem NRow.frame {base : Nat} {w w' : World} {v : Value} {l : List (ByteArray × Nat)} (h : NRow base w v l) (k : KT 63 w w') : NRow base w' v l := by
  obtain ⟨e1, e2 | ⟨x, cap, cur, rfl, e4, e5, e6⟩⟩ := h
  · exact ⟨e1, .inl e2⟩
  · exact ⟨e1, .inr ⟨x, cap, cur, rfl, e4, (k x _ _ e5).trans e5, e6⟩⟩
theorem NRow.own {base : Nat} {w : World} {v : Value} {l : List (ByteArray × Nat)} (h : NRow base w v l) : ∀ x, v.ownBlock = some x → base ≤ x ∧ ∃ cur, w.heap[x]? = some (.cells cur 63 (0, 0)) := by
  obtain ⟨e1, ⟨rfl, _⟩ | ⟨x, cap, cur, rfl, e4, e5, e6⟩⟩ := h
  · intro x hx; cases hx
  · intro y hy; cases hy; exact ⟨e4, _, e5⟩
theorem NRow.below {base : Nat} {w w' : World} {v : Value} {l : List (ByteArray × Nat)} (h : NRow base w v l) (k : Below w.heap.size w w') : NRow base w' v l := h.frame (KT.of_below k)
theorem NRow.wide {b c : Nat} {w : World} {v : Value} {l : List (ByteArray × Nat)} (h : NRow c w v l) (hb : b ≤ c) : NRow b w v l := by
  obtain ⟨e1, e2 | ⟨x, cp, cur, e3, e4, e5⟩⟩ := h
  · exact ⟨e1, .inl e2⟩
  · exact ⟨e1, .inr ⟨x, cp, cur, e3, Nat.le_trans hb e4, e5⟩⟩
theorem nC_len (l : List (ByteArray × Nat)) : (l.flatMap nC).length = l.length * 2 := by
  induction l with
  | nil => rfl
  | cons x l ih => rw [List.flatMap_cons, List.length_append, ih, List.length_cons]; show 2 + _ = _; omega
theorem nC_get : ∀ (l : List (ByteArray × Nat)) (i q : Nat) (hi : i < l.length), q < 2 → (l.flatMap nC)[i * 2 + q]? = (nC (l[i]'hi))[q]?
  | x :: l, 0, q, _, hq => by
    rw [List.flatMap_cons, Nat.zero_mul, Nat.zero_add, List.getElem?_append_left (by show q < 2; exact hq)]
    rfl
  | x :: l, i + 1, q, hi, hq => by
    have ih := nC_get l i q (by simpa using hi) hq
    rw [List.flatMap_cons, List.getElem?_append_right (by show 2 ≤ _; omega), show (i + 1) * 2 + q - (nC x).length = i * 2 + q by show (i + 1) * 2 + q - 2 = _; omega]
    exact ih
theorem NRow.at {base : Nat} {w : World} {v : Value} {l : List (ByteArray × Nat)} (h : NRow base w v l) (hl : 0 < l.length) : ∃ x cap, v = .slice (some ⟨x, 0, none⟩) l.length cap ∧ l.length ≤ cap ∧ cap ≤ maxLen ∧ x < w.heap.size ∧ base ≤ x ∧ ∀ i (hi : i < l.length), w.cell? ⟨x, i * 2, none⟩ = some (.string (l[i]'hi).1) ∧ w.cell? ⟨x, i * 2 + 1, none⟩ = some (.int .i64 ((l[i]'hi).2 : Int)) := by
  have hh := h
  obtain ⟨e1, ⟨rfl, hz⟩ | ⟨x, cap, cur, rfl, e4, e5, r1, r2, r3⟩⟩ := h
  · omega
  · refine ⟨x, cap, rfl, r1, r2, lt_of_block e5, e4, fun i hi => ?_⟩
    have k : ∀ q, q < 2 → w.cell? ⟨x, i * 2 + q, none⟩ = (nC (l[i]'hi))[q]? := fun q hq => by
      rw [World.ownsRow.cellAt hh (i * 2 + q) (by omega)]
      exact nC_get l i q hi hq
    exact ⟨k 0 (by decide), k 1 (by decide)⟩
theorem NRow.sl {base : Nat} {w : World} {v : Value} {l : List (ByteArray × Nat)} (h : NRow base w v l) : ∃ ao cap, v = .slice ao l.length cap ∧ l.length ≤ cap ∧ cap ≤ maxLen := by
  obtain ⟨e1, ⟨rfl, hz⟩ | ⟨x, cap, cur, rfl, e4, e5, r1, r2, r3⟩⟩ := h
  · exact ⟨none, 0, by rw [hz], by omega, by decide⟩
  · exact ⟨_, cap, rfl, r1, r2⟩
set_option maxRecDepth 100000 in
theorem Ninfo : (Tryz.prog.info? 63).map (fun i => (i.zero, i.size, i.bytes)) = some (some (.agg #[.string ⟨#[]⟩, .int .i64 0]), 2, 24) := by kernel_rfl
theorem nC_one (l : List (ByteArray × Nat)) : ∀ u ∈ l.flatMap nC, u.oneCell' = true := by
  intro u hu
  obtain ⟨y, _, h⟩ := List.mem_flatMap.1 hu
  simp [nC] at h
  rcases h with rfl | rfl <;> rfl
set_option maxRecDepth 100000 in
theorem appN {ops : Array Oper} {rest : List Oper} {o : Oper} {a : Act} {Q : Exit → Act → World → Prop} {w : World} (hgd : o.guard = none) (s x : Operand)
    (ho : o.op = .call { callee := .builtin .append, args := #[s, x], argTypes := #[61, 61] }) (base : Nat) (v : Value) (T : List (ByteArray × Nat)) (hs : a.eval s = v) (hA : NRow base w v T)
    (xb ox m c : Nat) (U : List (ByteArray × Nat)) (hx : a.eval x = .slice (some ⟨xb, ox, none⟩) m c) (hm : m = U.length)
    (hU : ∀ i (hi : i < U.length), w.cell? ⟨xb, ox + i * 2, none⟩ = some (.string (U[i]'hi).1) ∧ w.cell? ⟨xb, ox + i * 2 + 1, none⟩ = some (.int .i64 ((U[i]'hi).2 : Int)))
    (hT : T.length ≤ 2000) (hUl : U.length ≤ 2000) (hbase : base ≤ w.heap.size)
    (h : ∀ v' w', NRow base w' v' (T ++ U) → w.grownBy w' v.ownBlock → wpList Tryz.prog ops Q rest (a.put o.dst v') w') :
    wpList Tryz.prog ops Q (o :: rest) a w := by
  subst hm
  obtain ⟨i0, hi, hz0, hz1, hz2⟩ := info_parts Ninfo
  refine wpList_append_own_at _ hgd s x 61 ho base 63 i0 (.agg #[.string ⟨#[]⟩, .int .i64 0]) 2 24 Tryz.underlying61 hi hz0 hz1 hz2 rfl (by decide) v T.length (T.flatMap nC) hs hA ⟨xb, ox, none⟩ U.length c (U.flatMap nC) hx (nC_len U) (fun j u hu => ?_) (nC_one U) (by unfold maxLen; omega) (by omega) hbase ?_
  · have hj : j < U.length * 2 := by rw [← nC_len]; exact (List.getElem?_eq_some_iff.1 hu).1
    have e : j = (j / 2) * 2 + j % 2 := by omega
    have h2 : j / 2 < U.length := by omega
    rw [e, nC_get U (j / 2) (j % 2) h2 (by omega)] at hu
    obtain ⟨k0, k1⟩ := hU (j / 2) h2
    rw [add_at]
    rcases (by omega : j % 2 = 0 ∨ j % 2 = 1) with hr | hr
    · rw [hr] at hu
      simp [nC] at hu
      rw [← hu, ← k0]
      congr 2; omega
    · rw [hr] at hu
      simp [nC] at hu
      rw [← hu, ← k1]
      congr 2; omega
  · intro v' w' hown hg _ _
    refine h v' w' ?_ hg
    unfold NRow
    rw [List.flatMap_append, List.length_append]
    exact hown
set_option maxRecDepth 100000 in
theorem elem61 : Tryz.prog.elem 61 = 63 := by unfold Program.elem; rw [Tryz.underlying61]
set_option maxRecDepth 100000 in
theorem under61 : Tryz.prog.underlying 61 = some (.slice (Tryz.prog.elem 61)) := by rw [elem61]; exact Tryz.underlying61
set_option maxRecDepth 100000 in
theorem run_size61 (w : World) : (sizeOf (Tryz.prog.elem 61)).run Tryz.prog w = .ok 2 w := by
  rw [elem61]
  obtain ⟨i, hi, _, hz, _⟩ := info_parts Ninfo
  simp [sizeOf, typeInfo, hi, hz]
theorem run_pre61 (x n cap k : Nat) (hk : k ≤ cap) (w : World) : (Instr.slice 61 (.slice (some ⟨x, 0, none⟩) n cap) none (some (.int .i64 (k : Int))) none).run Tryz.prog w = .ok (.slice (some ⟨x, 0, none⟩) k cap) w := by
  have := run_slice_h (P := Tryz.prog) w 61 (some ⟨x, 0, none⟩) n cap under61 .i64 (k : Int) (by omega) (by omega)
  rw [this, run_size61]
  have e : ((⟨x, 0, none⟩ : Addr).add 0) = ⟨x, 0, none⟩ := by simp [Addr.add]
  simp [Result.andThen, sliced, e]
def sufO (cap k : Nat) : Nat := if cap = k then 0 else k * 2
theorem run_suf61 (x n cap k : Nat) (hk : k ≤ n) (_ : n ≤ cap) (w : World) : (Instr.slice 61 (.slice (some ⟨x, 0, none⟩) n cap) (some (.int .i64 (k : Int))) none none).run Tryz.prog w = .ok (.slice (some ⟨x, sufO cap k, none⟩) (n - k) (cap - k)) w := by
  have := run_slice_l (P := Tryz.prog) w 61 (some ⟨x, 0, none⟩) n cap under61 .i64 (k : Int) (by omega) (by omega)
  rw [this, run_size61]
  simp only [Result.andThen, sliced, Int.toNat_natCast, sufO]
  by_cases c : cap = k
  · rw [if_pos c, if_pos c]
  · rw [if_neg c, if_neg c]
    have e : ((⟨x, 0, none⟩ : Addr).add (k * 2)) = ⟨x, k * 2, none⟩ := by rw [add_at, Nat.zero_add]
    simp only [Option.map_some, e]
end Go.Proofs.YtokjlgebkihimaaGreat
