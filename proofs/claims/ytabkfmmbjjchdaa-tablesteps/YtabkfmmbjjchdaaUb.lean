import Derived.Test.YtabkfmmbjjchdaaUa
namespace Go.Proofs.Ytabkfmmbjjchdaa
open Go.RowKit Go.Maps

/-- a Known of the document's, in nine cells -/
def Kx.ks (x : Kx) : List Value := [.int .i64 x.k, .int .i64 x.n, .bool x.d, .int .i64 x.e, .string x.t, .int .i64 x.a, .int .i64 x.b, .int .i64 x.c, x.nv]
theorem ks_len (x : Kx) : x.ks.length = 9 := rfl
/-- a row of the call's own -/
def NRow (base : Nat) (w : World) (v : Value) (l : List Kx) : Prop := w.ownsRow base 46 9 v l.length (l.flatMap Kx.ks)
theorem NRow.nil (base : Nat) (w : World) : NRow base w (.slice none 0 0) [] := ⟨rfl, .inl ⟨rfl, rfl⟩⟩
theorem NRow.frame {base : Nat} {w w' : World} {v : Value} {l : List Kx} (h : NRow base w v l) (k : ∀ (b : Nat) (cs : Array Value) (fz : Nat × Nat), w.heap[b]? = some (.cells cs 46 fz) → w'.heap[b]? = w.heap[b]?) : NRow base w' v l := by
  obtain ⟨e1, e2 | ⟨x, cap, cur, rfl, e4, e5, e6⟩⟩ := h
  · exact ⟨e1, .inl e2⟩
  · exact ⟨e1, .inr ⟨x, cap, cur, rfl, e4, (k x _ _ e5).trans e5, e6⟩⟩
theorem NRow.own {base : Nat} {w : World} {v : Value} {l : List Kx} (h : NRow base w v l) : ∀ x, v.ownBlock = some x → base ≤ x ∧ ∃ cur, w.heap[x]? = some (.cells cur 46 (0, 0)) := by
  obtain ⟨e1, ⟨rfl, _⟩ | ⟨x, cap, cur, rfl, e4, e5, e6⟩⟩ := h
  · intro x hx; cases hx
  · intro y hy; cases hy; exact ⟨e4, _, e5⟩
theorem NRow.below {base : Nat} {w w' : World} {v : Value} {l : List Kx} (h : NRow base w v l) (k : Below w.heap.size w w') : NRow base w' v l :=
  h.frame fun b _ _ hb => k.block b (lt_of_block hb)
theorem NRow.len {base : Nat} {w : World} {v : Value} {l : List Kx} (h : NRow base w v l) : ∃ ao cap, v = .slice ao l.length cap ∧ l.length ≤ cap ∧ cap ≤ maxLen := by
  rcases h.2 with ⟨rfl, hz⟩ | ⟨gb, cap, cur, rfl, _, _, r1, r2, _⟩
  · exact ⟨none, 0, by rw [hz], by omega, by decide⟩
  · exact ⟨_, cap, rfl, r1, r2⟩
theorem Nfl_len : ∀ l : List Kx, (l.flatMap Kx.ks).length = l.length * 9
  | [] => rfl
  | x :: l => by rw [List.flatMap_cons, List.length_append, Nfl_len l, List.length_cons, ks_len]; omega
theorem Nfl_get : ∀ (l : List Kx) (i k : Nat) (hi : i < l.length), k < 9 → (l.flatMap Kx.ks)[i * 9 + k]? = (Kx.ks l[i])[k]?
  | x :: l, 0, k, hi, hk => by
    rw [List.flatMap_cons, Nat.zero_mul, Nat.zero_add, List.getElem?_append_left (by rw [ks_len]; exact hk)]; rfl
  | x :: l, i + 1, k, hi, hk => by
    have := Nfl_get l i k (by simpa using hi) hk
    rw [List.flatMap_cons, List.getElem?_append_right (by rw [ks_len]; omega), ks_len, show (i + 1) * 9 + k - 9 = i * 9 + k by omega, this]; rfl
theorem NRow.at {base : Nat} {w : World} {v : Value} {l : List Kx} (h : NRow base w v l) (hl : 0 < l.length) : ∃ x cap, v = .slice (some ⟨x, 0, none⟩) l.length cap ∧ x < w.heap.size ∧ ∀ i (hi : i < l.length) q, q < 9 → w.cell? ⟨x, i * 9 + q, none⟩ = (Kx.ks l[i])[q]? := by
  have hh := h
  obtain ⟨e1, ⟨rfl, hz⟩ | ⟨x, cap, cur, rfl, e4, e5, r1, r2, r3⟩⟩ := h
  · omega
  · refine ⟨x, cap, rfl, lt_of_block e5, fun i hi q hq => ?_⟩
    rw [World.ownsRow.cellAt hh (i * 9 + q) (by omega)]
    exact Nfl_get l i q hi hq
set_option maxRecDepth 100000 in
theorem Ninfo : (Try.prog.info? 46).map (fun i => (i.zero, i.size, i.bytes)) = some (some (.agg #[.int .i64 0, .int .i64 0, .bool false, .int .i64 0, .string ⟨#[]⟩, .int .i64 0, .int .i64 0, .int .i64 0, .slice none 0 0]), 9, 96) := by kernel_rfl
theorem pushN {ops : Array Oper} {rest : List Oper} {o : Oper} {a : Act} {Q : Exit → Act → World → Prop} {w0 : World} (hgd : o.guard = none) (s x : Operand)
    (ho : o.op = .call { callee := .builtin .append, args := #[s, x], argTypes := #[26, 26] }) (B1 bb : Nat) (v : Value) (T : List Kx) (y : Kx)
    (hs : a.eval s = v) (hx : a.eval x = .slice (some ⟨bb, 0, none⟩) 1 1) (hbb : bb = w0.heap.size) (hA : NRow B1 w0 v T) (hy : ∀ u ∈ Kx.ks y, u.oneCell' = true) (hn : T.length ≤ 2000000) (hbase : B1 ≤ w0.heap.size)
    (h : ∀ v' w', NRow B1 w' v' (T ++ [y]) → Below B1 w0 w' → (∀ k, k < w0.heap.size → some k ≠ v.ownBlock → w'.heap[k]? = w0.heap[k]?) → (∀ b, v'.ownBlock = some b → v.ownBlock = some b ∨ w0.heap.size ≤ b) → wpList Try.prog ops Q rest (a.put o.dst v') w') :
    wpList Try.prog ops Q (o :: rest) a (w0.alloc (.cells (Kx.ks y).toArray 46)) := by
  subst hbb
  obtain ⟨i0, hi, hz0, hz1, hz2⟩ := info_parts Ninfo
  have ho2 := hA.own
  refine wpList_append_own_at _ hgd s x 26 ho B1 46 i0 (.agg #[.int .i64 0, .int .i64 0, .bool false, .int .i64 0, .string ⟨#[]⟩, .int .i64 0, .int .i64 0, .int .i64 0, .slice none 0 0]) 9 96 Try.underlying26 hi hz0 hz1 hz2 rfl (by decide) v T.length (T.flatMap Kx.ks) hs (World.ownsRow.alloc hA _) ⟨w0.heap.size, 0, none⟩ 1 1 (Kx.ks y) hx (by rw [ks_len]) (by
      intro j u hu
      rw [add_at, Nat.zero_add, World.cell?_alloc_at _ _ _ _ rfl, List.getElem?_toArray]
      exact hu) hy (by unfold maxLen; omega) (by omega) (by simp; omega) ?_
  intro v' w' hown hg _ hat
  refine h v' w' ?_ ?_ ?_ (fun b hb => by rcases hat with e | e; exact .inl (e ▸ hb); exact .inr (by rw [e] at hb; have := Option.some.inj hb; simp at this; omega))
  · unfold NRow
    rw [List.flatMap_append, List.length_append]
    simpa using hown
  · refine (below_alloc w0 (.cells (Kx.ks y).toArray 46)).mono hbase |>.trans ⟨hg.os, hg.tape, hg.output, hg.size, fun k hk => hg.block k ?_ ?_⟩
    · simp; omega
    · intro e
      have := (ho2 k e.symm).1
      omega
  · intro k hk hne
    exact (hg.block k (by simp; omega) hne).trans (Below.heap_alloc w0 _ k hk)
/-- the document's table in block r; what it knows; its names lie in what was handed in -/
structure RT (W : World) (r : Nat) (w : World) (R : List Kx) : Prop where
  br : W.heap.size ≤ r
  bel : Below W.heap.size W w
  rise : Rise R
  mem : ∃ v, w.heap[r]? = some (.cells #[v] 28 (0, 0)) ∧ NRow W.heap.size w v R
  nv : ∀ x ∈ R, SLie W x.nv x.ns
theorem RT.lt {W : World} {r : Nat} {w : World} {R : List Kx} (h : RT W r w R) : r < w.heap.size := by
  obtain ⟨v, h1, _⟩ := h.mem
  exact lt_of_block h1
theorem RT.below {W : World} {r : Nat} {w w' : World} {R : List Kx} (h : RT W r w R) (k : Below w.heap.size w w') : RT W r w' R := by
  obtain ⟨v, h1, h2⟩ := h.mem
  exact ⟨h.br, h.bel.next k, h.rise, ⟨v, (k.block r (lt_of_block h1)).trans h1, h2.below k⟩, h.nv⟩
theorem RT.names {W : World} {r : Nat} {w : World} {R : List Kx} (h : RT W r w R) {x : Kx} (hx : x ∈ R) : SLie w x.nv x.ns := (h.nv x hx).below h.bel
theorem RT.slice {W : World} {r : Nat} {w : World} {R : List Kx} (h : RT W r w R) {x : Kx} (hx : x ∈ R) : ∃ ao n cap, x.nv = .slice ao n cap := by
  obtain ⟨ao, cap, e, _⟩ := h.nv x hx
  exact ⟨ao, _, cap, e⟩
/-- a client's place -/
def pl (R : List Kx) (c : Int) : Option Nat := R.findIdx? (fun x => x.k == c)
def plI : Option Nat → Int
  | some j => j
  | none => -1
theorem pl_some {R : List Kx} {c : Int} {j : Nat} (h : pl R c = some j) : ∃ hj : j < R.length, R[j].k = c ∧ lookL R c = some R[j] := by
  unfold pl at h
  obtain ⟨hj, h1, h2⟩ := List.findIdx?_eq_some_iff_getElem.1 h
  refine ⟨hj, by simpa using h1, ?_⟩
  unfold lookL
  rw [List.find?_eq_some_iff_getElem]
  exact ⟨h1, j, hj, rfl, fun i hi => by simpa using h2 i hi⟩
theorem pl_none {R : List Kx} {c : Int} (h : pl R c = none) : lookL R c = none := by
  unfold pl at h
  rw [List.findIdx?_eq_none_iff] at h
  unfold lookL
  rw [List.find?_eq_none]
  intro x hx
  simp [h x hx]
theorem pl_first {R : List Kx} {c : Int} {j : Nat} (hj : j < R.length) (h0 : ∀ i (hi : i < R.length), i < j → R[i].k ≠ c) (h1 : R[j].k = c) : pl R c = some j := by
  unfold pl
  rw [List.findIdx?_eq_some_iff_getElem]
  exact ⟨hj, by simp [h1], fun i hi => by simpa using h0 i (by omega) hi⟩
theorem pl_all {R : List Kx} {c : Int} (h0 : ∀ i (hi : i < R.length), R[i].k ≠ c) : pl R c = none := by
  unfold pl
  rw [List.findIdx?_eq_none_iff]
  intro x hx
  obtain ⟨i, hi, rfl⟩ := List.getElem_of_mem hx
  simpa using h0 i hi
set_option maxRecDepth 100000 in
set_option maxHeartbeats 1000000 in
/-- the document's find -/
theorem rfind_any {W : World} {r : Nat} {w : World} {R : List Kx} (h : RT W r w R) (c : Int) : Calls Try.prog 24 #[.pointer (some ⟨r, 0, none⟩), .int .i64 c] w fun e w' => e = .returned (.int .i64 (plI (pl R c))) ∧ Below w.heap.size w w' := by
  have H := hid h
  obtain ⟨v, h1, h2⟩ := h.mem
  obtain ⟨ao, cap, rfl, hlc, hcm⟩ := h2.len
  unfold maxLen at hcm
  have c0 : w.cell? ⟨r, 0, none⟩ = some (.slice ao R.length cap) := by simp [World.cell?, h1]
  have HR2 := hid h2
  obtain ⟨N, hN⟩ : ∃ N, N = R.length := ⟨_, rfl⟩
  have HN := hid hN
  rw [← hN] at c0 hlc
  clear h1 h2 h
  go_enter Try.func24, Try.ntmps24
  go_wp2
  go_loopw [12] (fun i wr => ∃ j : Nat, j ≤ N ∧ i = .int .i64 j ∧ Hid (∀ i (hi : i < R.length), i < j → R[i].k ≠ c) ∧ Hid (Below w.heap.size w wr)) (fun i _ => N - (intOf i).toNat)
  case atStart => exact ⟨0, Nat.zero_le _, rfl, fun i _ h => by omega, Below.refl _ _⟩
  case round =>
    obtain ⟨j, hj, rfl, HA, HB⟩ := hrel
    rename World => wr
    by_cases hlt : j < N
    · have hj' : j < R.length := by rw [← HN.out]; exact hlt
      obtain ⟨gx, cx, ex, hgx, hcx⟩ := HR2.out.at (by omega)
      rw [← HN.out] at ex
      cases ex
      have hat := hcx j hj'
      obtain ⟨yo, yn, yc, hyv⟩ := H.out.slice (List.getElem_mem hj')
      obtain ⟨y, hy⟩ : ∃ y, y = R[j]'hj' := ⟨_, rfl⟩
      rw [← hy] at hat hyv
      have HY := hid hy
      obtain ⟨yk, yn', yd, ye, yt, ya, yb, ycc, ynv, yns⟩ := y
      simp only at hyv
      subst hyv
      have hcl : ∀ q, q < 9 → wr.cell? ⟨gx, j * 9 + q, none⟩ = _ := fun q hq => (HB.out.cell (p := ⟨gx, j * 9 + q, none⟩) hgx).trans (hat q hq)
      have a0 : wr.cell? ⟨gx, j * 9, none⟩ = some (.int .i64 yk) := hcl 0 (by omega)
      have a1 : wr.cell? ⟨gx, j * 9 + 1, none⟩ = some (.int .i64 yn') := hcl 1 (by omega)
      have a2 : wr.cell? ⟨gx, j * 9 + 2, none⟩ = some (.bool yd) := hcl 2 (by omega)
      have a3 : wr.cell? ⟨gx, j * 9 + 3, none⟩ = some (.int .i64 ye) := hcl 3 (by omega)
      have a4 : wr.cell? ⟨gx, j * 9 + 4, none⟩ = some (.string yt) := hcl 4 (by omega)
      have a5 : wr.cell? ⟨gx, j * 9 + 5, none⟩ = some (.int .i64 ya) := hcl 5 (by omega)
      have a6 : wr.cell? ⟨gx, j * 9 + 6, none⟩ = some (.int .i64 yb) := hcl 6 (by omega)
      have a7 : wr.cell? ⟨gx, j * 9 + 7, none⟩ = some (.int .i64 ycc) := hcl 7 (by omega)
      have a8 : wr.cell? ⟨gx, j * 9 + 8, none⟩ = some (.slice yo yn yc) := hcl 8 (by omega)
      clear hcl hat hcx hy
      by_cases hk : yk = c
      · have HP : Hid (pl R c = some j) := pl_first hj' HA.out (by rw [← HY.out]; exact hk)
        subst hk
        go_wp2
        go_ret
        refine ⟨?_, HB.out.next (below_alloc _ _)⟩
        rw [HP.out]
        rfl
      · go_wp2
        go_roundw
        case rel =>
          refine ⟨j + 1, hlt, by simp, fun i hi hij => ?_, HB.out.next (below_alloc _ _)⟩
          by_cases e : i = j
          · subst e; rw [← HY.out]; exact hk
          · exact HA.out i hi (by omega)
        case measure => simp [intOf]; omega
    · have HP : Hid (pl R c = none) := pl_all fun i hi => HA.out i hi (by rw [← HN.out] at hi; omega)
      go_wp2
      go_ret
      refine ⟨?_, HB.out⟩
      rw [HP.out]
      rfl
end Go.Proofs.Ytabkfmmbjjchdaa
