import Derived.Maps.AppendAt
import Derived.Test.YtabkfmmbjjchdaaTk
namespace Go.Proofs.Ytabkfmmbjjchdaa
open Go.RowKit Go.Maps

/-- a request that began -/
structure Onc where
  c : Int
  r : Int
def Onc.cs (x : Onc) : List Value := [.int .i64 x.c, .int .i64 x.r]
theorem onc_len (x : Onc) : x.cs.length = 2 := rfl
theorem stp_len (x : Stp) : x.cs.length = 9 := rfl
/-- a row of the call's own -/
def BRow (base : Nat) (w : World) (v : Value) (l : List Onc) : Prop := w.ownsRow base 55 2 v l.length (l.flatMap Onc.cs)
theorem BRow.nil (base : Nat) (w : World) : BRow base w (.slice none 0 0) [] := ⟨rfl, .inl ⟨rfl, rfl⟩⟩
theorem BRow.frame {base : Nat} {w w' : World} {v : Value} {l : List Onc} (h : BRow base w v l) (k : ∀ (b : Nat) (cs : Array Value) (fz : Nat × Nat), w.heap[b]? = some (.cells cs 55 fz) → w'.heap[b]? = w.heap[b]?) : BRow base w' v l := by
  obtain ⟨e1, e2 | ⟨x, cap, cur, rfl, e4, e5, e6⟩⟩ := h
  · exact ⟨e1, .inl e2⟩
  · exact ⟨e1, .inr ⟨x, cap, cur, rfl, e4, (k x _ _ e5).trans e5, e6⟩⟩
theorem BRow.own {base : Nat} {w : World} {v : Value} {l : List Onc} (h : BRow base w v l) : ∀ x, v.ownBlock = some x → base ≤ x ∧ ∃ cur, w.heap[x]? = some (.cells cur 55 (0, 0)) := by
  obtain ⟨e1, ⟨rfl, _⟩ | ⟨x, cap, cur, rfl, e4, e5, e6⟩⟩ := h
  · intro x hx; cases hx
  · intro y hy; cases hy; exact ⟨e4, _, e5⟩
theorem BRow.below {base : Nat} {w w' : World} {v : Value} {l : List Onc} (h : BRow base w v l) (k : Below w.heap.size w w') : BRow base w' v l :=
  h.frame fun b _ _ hb => k.block b (lt_of_block hb)
theorem BRow.len {base : Nat} {w : World} {v : Value} {l : List Onc} (h : BRow base w v l) : ∃ ao cap, v = .slice ao l.length cap ∧ l.length ≤ cap ∧ cap ≤ maxLen := by
  rcases h.2 with ⟨rfl, hz⟩ | ⟨gb, cap, cur, rfl, _, _, r1, r2, _⟩
  · exact ⟨none, 0, by rw [hz], by omega, by decide⟩
  · exact ⟨_, cap, rfl, r1, r2⟩
theorem Bfl_len : ∀ l : List Onc, (l.flatMap Onc.cs).length = l.length * 2
  | [] => rfl
  | x :: l => by rw [List.flatMap_cons, List.length_append, Bfl_len l, List.length_cons, onc_len]; omega
theorem Bfl_get : ∀ (l : List Onc) (i k : Nat) (hi : i < l.length), k < 2 → (l.flatMap Onc.cs)[i * 2 + k]? = (Onc.cs l[i])[k]?
  | x :: l, 0, k, hi, hk => by
    rw [List.flatMap_cons, Nat.zero_mul, Nat.zero_add, List.getElem?_append_left (by rw [onc_len]; exact hk)]; rfl
  | x :: l, i + 1, k, hi, hk => by
    have := Bfl_get l i k (by simpa using hi) hk
    rw [List.flatMap_cons, List.getElem?_append_right (by rw [onc_len]; omega), onc_len, show (i + 1) * 2 + k - 2 = i * 2 + k by omega, this]; rfl
theorem BRow.at {base : Nat} {w : World} {v : Value} {l : List Onc} (h : BRow base w v l) (hl : 0 < l.length) : ∃ x cap, v = .slice (some ⟨x, 0, none⟩) l.length cap ∧ x < w.heap.size ∧ ∀ i (hi : i < l.length) q, q < 2 → w.cell? ⟨x, i * 2 + q, none⟩ = (Onc.cs l[i])[q]? := by
  have hh := h
  obtain ⟨e1, ⟨rfl, hz⟩ | ⟨x, cap, cur, rfl, e4, e5, r1, r2, r3⟩⟩ := h
  · omega
  · refine ⟨x, cap, rfl, lt_of_block e5, fun i hi q hq => ?_⟩
    rw [World.ownsRow.cellAt hh (i * 2 + q) (by omega)]
    exact Bfl_get l i q hi hq
set_option maxRecDepth 100000 in
theorem Binfo : (Try.prog.info? 55).map (fun i => (i.zero, i.size, i.bytes)) = some (some (.agg #[.int .i64 0, .int .i64 0]), 2, 16) := by kernel_rfl
theorem pushB {ops : Array Oper} {rest : List Oper} {o : Oper} {a : Act} {Q : Exit → Act → World → Prop} {w0 : World} (hgd : o.guard = none) (s x : Operand)
    (ho : o.op = .call { callee := .builtin .append, args := #[s, x], argTypes := #[53, 53] }) (B1 bb : Nat) (v : Value) (T : List Onc) (y : Onc)
    (hs : a.eval s = v) (hx : a.eval x = .slice (some ⟨bb, 0, none⟩) 1 1) (hbb : bb = w0.heap.size) (hA : BRow B1 w0 v T) (hy : ∀ u ∈ Onc.cs y, u.oneCell' = true) (hn : T.length ≤ 2000000) (hbase : B1 ≤ w0.heap.size)
    (h : ∀ v' w', BRow B1 w' v' (T ++ [y]) → Below B1 w0 w' → (∀ k, k < w0.heap.size → some k ≠ v.ownBlock → w'.heap[k]? = w0.heap[k]?) → (∀ b, v'.ownBlock = some b → v.ownBlock = some b ∨ w0.heap.size ≤ b) → wpList Try.prog ops Q rest (a.put o.dst v') w') :
    wpList Try.prog ops Q (o :: rest) a (w0.alloc (.cells (Onc.cs y).toArray 55)) := by
  subst hbb
  obtain ⟨i0, hi, hz0, hz1, hz2⟩ := info_parts Binfo
  have ho2 := hA.own
  refine wpList_append_own_at _ hgd s x 53 ho B1 55 i0 (.agg #[.int .i64 0, .int .i64 0]) 2 16 Try.underlying53 hi hz0 hz1 hz2 rfl (by decide) v T.length (T.flatMap Onc.cs) hs (World.ownsRow.alloc hA _) ⟨w0.heap.size, 0, none⟩ 1 1 (Onc.cs y) hx (by rw [onc_len]) (by
      intro j u hu
      rw [add_at, Nat.zero_add, World.cell?_alloc_at _ _ _ _ rfl, List.getElem?_toArray]
      exact hu) hy (by unfold maxLen; omega) (by omega) (by simp; omega) ?_
  intro v' w' hown hg _ hat
  refine h v' w' ?_ ?_ ?_ (fun b hb => by rcases hat with e | e; exact .inl (e ▸ hb); exact .inr (by rw [e] at hb; have := Option.some.inj hb; simp at this; omega))
  · unfold BRow
    rw [List.flatMap_append, List.length_append]
    simpa using hown
  · refine (below_alloc w0 (.cells (Onc.cs y).toArray 55)).mono hbase |>.trans ⟨hg.os, hg.tape, hg.output, hg.size, fun k hk => hg.block k ?_ ?_⟩
    · simp; omega
    · intro e
      have := (ho2 k e.symm).1
      omega
  · intro k hk hne
    exact (hg.block k (by simp; omega) hne).trans (Below.heap_alloc w0 _ k hk)
/-- a row of the call's own -/
def DRow (base : Nat) (w : World) (v : Value) (l : List Stp) : Prop := w.ownsRow base 34 9 v l.length (l.flatMap Stp.cs)
theorem DRow.nil (base : Nat) (w : World) : DRow base w (.slice none 0 0) [] := ⟨rfl, .inl ⟨rfl, rfl⟩⟩
theorem DRow.frame {base : Nat} {w w' : World} {v : Value} {l : List Stp} (h : DRow base w v l) (k : ∀ (b : Nat) (cs : Array Value) (fz : Nat × Nat), w.heap[b]? = some (.cells cs 34 fz) → w'.heap[b]? = w.heap[b]?) : DRow base w' v l := by
  obtain ⟨e1, e2 | ⟨x, cap, cur, rfl, e4, e5, e6⟩⟩ := h
  · exact ⟨e1, .inl e2⟩
  · exact ⟨e1, .inr ⟨x, cap, cur, rfl, e4, (k x _ _ e5).trans e5, e6⟩⟩
theorem DRow.own {base : Nat} {w : World} {v : Value} {l : List Stp} (h : DRow base w v l) : ∀ x, v.ownBlock = some x → base ≤ x ∧ ∃ cur, w.heap[x]? = some (.cells cur 34 (0, 0)) := by
  obtain ⟨e1, ⟨rfl, _⟩ | ⟨x, cap, cur, rfl, e4, e5, e6⟩⟩ := h
  · intro x hx; cases hx
  · intro y hy; cases hy; exact ⟨e4, _, e5⟩
theorem DRow.below {base : Nat} {w w' : World} {v : Value} {l : List Stp} (h : DRow base w v l) (k : Below w.heap.size w w') : DRow base w' v l :=
  h.frame fun b _ _ hb => k.block b (lt_of_block hb)
theorem DRow.len {base : Nat} {w : World} {v : Value} {l : List Stp} (h : DRow base w v l) : ∃ ao cap, v = .slice ao l.length cap ∧ l.length ≤ cap ∧ cap ≤ maxLen := by
  rcases h.2 with ⟨rfl, hz⟩ | ⟨gb, cap, cur, rfl, _, _, r1, r2, _⟩
  · exact ⟨none, 0, by rw [hz], by omega, by decide⟩
  · exact ⟨_, cap, rfl, r1, r2⟩
theorem Dfl_len : ∀ l : List Stp, (l.flatMap Stp.cs).length = l.length * 9
  | [] => rfl
  | x :: l => by rw [List.flatMap_cons, List.length_append, Dfl_len l, List.length_cons, stp_len]; omega
theorem Dfl_get : ∀ (l : List Stp) (i k : Nat) (hi : i < l.length), k < 9 → (l.flatMap Stp.cs)[i * 9 + k]? = (Stp.cs l[i])[k]?
  | x :: l, 0, k, hi, hk => by
    rw [List.flatMap_cons, Nat.zero_mul, Nat.zero_add, List.getElem?_append_left (by rw [stp_len]; exact hk)]; rfl
  | x :: l, i + 1, k, hi, hk => by
    have := Dfl_get l i k (by simpa using hi) hk
    rw [List.flatMap_cons, List.getElem?_append_right (by rw [stp_len]; omega), stp_len, show (i + 1) * 9 + k - 9 = i * 9 + k by omega, this]; rfl
theorem DRow.at {base : Nat} {w : World} {v : Value} {l : List Stp} (h : DRow base w v l) (hl : 0 < l.length) : ∃ x cap, v = .slice (some ⟨x, 0, none⟩) l.length cap ∧ x < w.heap.size ∧ ∀ i (hi : i < l.length) q, q < 9 → w.cell? ⟨x, i * 9 + q, none⟩ = (Stp.cs l[i])[q]? := by
  have hh := h
  obtain ⟨e1, ⟨rfl, hz⟩ | ⟨x, cap, cur, rfl, e4, e5, r1, r2, r3⟩⟩ := h
  · omega
  · refine ⟨x, cap, rfl, lt_of_block e5, fun i hi q hq => ?_⟩
    rw [World.ownsRow.cellAt hh (i * 9 + q) (by omega)]
    exact Dfl_get l i q hi hq
set_option maxRecDepth 100000 in
theorem Dinfo : (Try.prog.info? 34).map (fun i => (i.zero, i.size, i.bytes)) = some (some (.agg #[.int .i64 0, .int .i64 0, .int .i64 0, .int .i64 0, .string ⟨#[]⟩, .int .i64 0, .int .i64 0, .int .i64 0, .slice none 0 0]), 9, 96) := by kernel_rfl
theorem pushD {ops : Array Oper} {rest : List Oper} {o : Oper} {a : Act} {Q : Exit → Act → World → Prop} {w0 : World} (hgd : o.guard = none) (s x : Operand)
    (ho : o.op = .call { callee := .builtin .append, args := #[s, x], argTypes := #[22, 22] }) (B1 bb : Nat) (v : Value) (T : List Stp) (y : Stp)
    (hs : a.eval s = v) (hx : a.eval x = .slice (some ⟨bb, 0, none⟩) 1 1) (hbb : bb = w0.heap.size) (hA : DRow B1 w0 v T) (hy : ∀ u ∈ Stp.cs y, u.oneCell' = true) (hn : T.length ≤ 2000000) (hbase : B1 ≤ w0.heap.size)
    (h : ∀ v' w', DRow B1 w' v' (T ++ [y]) → Below B1 w0 w' → (∀ k, k < w0.heap.size → some k ≠ v.ownBlock → w'.heap[k]? = w0.heap[k]?) → (∀ b, v'.ownBlock = some b → v.ownBlock = some b ∨ w0.heap.size ≤ b) → wpList Try.prog ops Q rest (a.put o.dst v') w') :
    wpList Try.prog ops Q (o :: rest) a (w0.alloc (.cells (Stp.cs y).toArray 34)) := by
  subst hbb
  obtain ⟨i0, hi, hz0, hz1, hz2⟩ := info_parts Dinfo
  have ho2 := hA.own
  refine wpList_append_own_at _ hgd s x 22 ho B1 34 i0 (.agg #[.int .i64 0, .int .i64 0, .int .i64 0, .int .i64 0, .string ⟨#[]⟩, .int .i64 0, .int .i64 0, .int .i64 0, .slice none 0 0]) 9 96 Try.underlying22 hi hz0 hz1 hz2 rfl (by decide) v T.length (T.flatMap Stp.cs) hs (World.ownsRow.alloc hA _) ⟨w0.heap.size, 0, none⟩ 1 1 (Stp.cs y) hx (by rw [stp_len]) (by
      intro j u hu
      rw [add_at, Nat.zero_add, World.cell?_alloc_at _ _ _ _ rfl, List.getElem?_toArray]
      exact hu) hy (by unfold maxLen; omega) (by omega) (by simp; omega) ?_
  intro v' w' hown hg _ hat
  refine h v' w' ?_ ?_ ?_ (fun b hb => by rcases hat with e | e; exact .inl (e ▸ hb); exact .inr (by rw [e] at hb; have := Option.some.inj hb; simp at this; omega))
  · unfold DRow
    rw [List.flatMap_append, List.length_append]
    simpa using hown
  · refine (below_alloc w0 (.cells (Stp.cs y).toArray 34)).mono hbase |>.trans ⟨hg.os, hg.tape, hg.output, hg.size, fun k hk => hg.block k ?_ ?_⟩
    · simp; omega
    · intro e
      have := (ho2 k e.symm).1
      omega
  · intro k hk hne
    exact (hg.block k (by simp; omega) hne).trans (Below.heap_alloc w0 _ k hk)
/-- what is known of a request that is done -/
def dn (x : Kx) (d : Stp) : Prop := d.r ≤ x.n ∧ (x.n = d.r → x.d = true ∧ x.e = d.R.e ∧ x.t = d.R.t ∧ x.a = d.R.a ∧ x.b = d.R.b ∧ x.c = d.R.c ∧ x.ns = d.R.ns) ∧ okc d.c d.r = true
/-- begun and done, against a table -/
structure BD (L : List Kx) (B : List Onc) (D : List Stp) : Prop where
  b : ∀ x ∈ B, x.r ≤ (at_ L x.c).n
  d : ∀ x ∈ D, dn (at_ L x.c) x
theorem begE_zero {L : List Kx} {c r : Int} (h : begE L c r = 0) : okc c r = true ∧ (at_ L c).n < r ∧ begL L c r = withL L (mkK c r false rz) := by
  refine ⟨?_, ?_, by unfold begL; rw [if_pos h]⟩
  · unfold begE at h
    split at h
    · assumption
    · omega
  · unfold begE at h
    split at h
    · split at h
      · rename_i hs
        unfold stt at hs
        split at hs
        · assumption
        · split at hs
          · omega
          · split at hs <;> omega
      · omega
    · omega
theorem donE_zero {L : List Kx} {c r : Int} (h : donE L c r = 0) : okc c r = true ∧ (at_ L c).n = r ∧ (at_ L c).d = false ∧ ∀ R, donL L c r R = withL L (mkK c r true R) := by
  have h0 := h
  unfold donE at h
  split at h
  · rename_i ho
    split at h
    · rename_i hs
      unfold stt at hs
      split at hs
      · omega
      · split at hs
        · omega
        · split at hs
          · omega
          · rename_i h1 h2 h3
            exact ⟨ho, by omega, by simpa using h3, fun R => by unfold donL; rw [if_pos h0]⟩
    · split at h <;> omega
  · omega
theorem BD.begin {L : List Kx} {B : List Onc} {D : List Stp} (h : BD L B D) (hr : Rise L) {c r : Int} (he : begE L c r = 0) : (∀ x ∈ B, x.c = c → x.r < r) ∧ BD (begL L c r) (B ++ [⟨c, r⟩]) D := by
  obtain ⟨_, h2, h3⟩ := begE_zero he
  refine ⟨fun x hx e => ?_, ?_⟩
  · have := h.b x hx; rw [e] at this; omega
  · rw [h3]
    refine ⟨fun x hx => ?_, fun x hx => ?_⟩
    · rw [at_withL hr]
      rcases List.mem_append.1 hx with hx | hx
      · have := h.b x hx
        split
        · rename_i e
          have e' : c = x.c := e
          rw [← e'] at this
          show x.r ≤ r
          omega
        · exact this
      · rw [List.mem_singleton] at hx
        subst hx
        rw [if_pos (show (mkK c r false rz).k = c from rfl)]
        exact Int.le_refl _
    · obtain ⟨d1, d2, d3⟩ := h.d x hx
      rw [at_withL hr]
      split
      · rename_i e
        have e' : c = x.c := e
        rw [← e'] at d1
        refine ⟨?_, fun hh => ?_, d3⟩
        · show x.r ≤ r; omega
        · have : r = x.r := hh; omega
      · exact ⟨d1, d2, d3⟩
theorem BD.done {L : List Kx} {B : List Onc} {D : List Stp} (h : BD L B D) (hr : Rise L) {s : Stp} (he : donE L s.c s.r = 0) (v : Value) : (∀ x ∈ D, x.c = s.c → x.r ≠ s.r) ∧ BD (donL L s.c s.r { s.R with nv := v }) B (D ++ [s]) := by
  obtain ⟨h1, h2, h3, h4⟩ := donE_zero he
  have hne : ∀ x ∈ D, x.c = s.c → x.r ≠ s.r := fun x hx e e2 => by
    obtain ⟨d1, d2, _⟩ := h.d x hx
    have := (d2 (by rw [e, e2]; exact h2)).1
    rw [e, h3] at this
    cases this
  refine ⟨hne, ?_⟩
  rw [h4]
  refine ⟨fun x hx => ?_, fun x hx => ?_⟩
  · rw [at_withL hr]
    have := h.b x hx
    split
    · rename_i e
      have e' : s.c = x.c := e
      rw [← e'] at this
      show x.r ≤ s.r
      omega
    · exact this
  · rw [at_withL hr]
    rcases List.mem_append.1 hx with hx | hx
    · obtain ⟨d1, d2, d3⟩ := h.d x hx
      split
      · rename_i e
        have e' : s.c = x.c := e
        rw [← e'] at d1
        refine ⟨?_, fun hh => ?_, d3⟩
        · show x.r ≤ s.r; omega
        · have : s.r = x.r := hh
          exact absurd this.symm (hne x hx e'.symm)
      · exact ⟨d1, d2, d3⟩
    · rw [List.mem_singleton] at hx
      subst hx
      rw [if_pos (show (mkK x.c x.r true _).k = x.c from rfl)]
      exact ⟨Int.le_refl _, fun _ => ⟨rfl, rfl, rfl, rfl, rfl, rfl, rfl⟩, h1⟩
/-- what the law asks of a request that is done -/
theorem dn_ask {x : Kx} {d : Stp} (h : dn x d) : askE d.c d.r = 0 ∧ ((x.n = d.r ∧ askS x d.c d.r = 3 ∧ (askR x d.c d.r).e = d.R.e ∧ (askR x d.c d.r).t = d.R.t ∧ (askR x d.c d.r).a = d.R.a ∧ (askR x d.c d.r).b = d.R.b ∧ (askR x d.c d.r).c = d.R.c ∧ (askR x d.c d.r).ns = d.R.ns) ∨ (x.n ≠ d.r ∧ askS x d.c d.r = 4)) := by
  obtain ⟨h1, h2, h3⟩ := h
  unfold askE askS askR
  rw [h3]
  refine ⟨rfl, ?_⟩
  by_cases hn : x.n = d.r
  · obtain ⟨g1, g2, g3, g4, g5, g6, g7⟩ := h2 hn
    have hs : stt x.n x.d d.r = 3 := by unfold stt; rw [if_neg (by omega), if_neg (by omega), if_pos g1]
    rw [hs]
    exact .inl ⟨hn, rfl, g2, g3, g4, g5, g6, g7⟩
  · have hs : stt x.n x.d d.r = 4 := by unfold stt; rw [if_neg (by omega), if_pos (by omega)]
    rw [hs]
    exact .inr ⟨hn, rfl⟩
end Go.Proofs.Ytabkfmmbjjchdaa
