import Derived.Test.YtglhibmfbbbdiaaCp
namespace Go.Proofs.Ytglhibmfbbbdiaa
open Go.RowKit Go.Maps

/-- how many blocks a text is, and each -/
def cnt (d : ByteArray) : Nat := d.size / 128
def piece (d : ByteArray) (i : Nat) : ByteArray := d.extract (i * 128) ((i + 1) * 128)
/-- blocks, and a write's first m ones over them -/
def over (f : Nat → Option ByteArray) (a : Nat) (d : ByteArray) (m : Nat) : Nat → Option ByteArray := fun k => if a ≤ k ∧ k < a + m then some (piece d (k - a)) else f k
theorem over_zero (f : Nat → Option ByteArray) (a : Nat) (d : ByteArray) : over f a d 0 = f := by
  funext k; unfold over; rw [if_neg (by omega)]
theorem over_succ (f : Nat → Option ByteArray) (a : Nat) (d : ByteArray) (m : Nat) : upd (over f a d m) (a + m) (piece d m) = over f a d (m + 1) := by
  funext k
  unfold upd over
  by_cases h : k = a + m
  · rw [if_pos h, if_pos (by omega), h, Nat.add_sub_cancel_left]
  · rw [if_neg h]
    by_cases h2 : a ≤ k ∧ k < a + m
    · rw [if_pos h2, if_pos (by omega)]
    · rw [if_neg h2, if_neg (by omega)]
def wrV (a : Nat) (d : ByteArray) : Value := .agg #[.int .i64 (a : Int), .string d]

theorem two_cells {w : World} {g : Nat} {u v : Value} {t : TypeId} (h : w.heap[g]? = some (.cells #[u, v] t (0, 0))) : w.cell? ⟨g, 0, none⟩ = some u ∧ w.cell? ⟨g, 1, none⟩ = some v := by
  simp [World.cell?, h]
theorem size_any (a : Int) (d : ByteArray) (_hd : d.size ≤ 1000000000) (w : World) : Calls Try.prog 24 #[.agg #[.int .i64 a, .string d]] w fun e w' => e = .returned (.int .i64 (cnt d : Nat)) ∧ Below w.heap.size w w' := by
  unfold cnt
  go_enter Try.func24, Try.ntmps24
  go_wp2
  go_ret
  exact ⟨ret_int (by omega), below_alloc w _⟩

set_option maxHeartbeats 4000000 in
set_option maxRecDepth 100000 in
theorem do_any (a : Nat) (d : ByteArray) (m b N : Nat) (f : Nat → Option ByteArray) (hm : m ≤ cnt d) (ha : a + m ≤ 1024) (_hd : d.size ≤ 1000000000) (hN : N ≤ 1000000000) (w : World) (h : MIs b w N f) :
    Calls Try.prog 25 #[.agg #[.int .i64 a, .string d], .int .i64 m, .map (some b)] w fun e w' => e = .returned (.tuple #[]) ∧ MIs b w' (N + m) (over f a d m) ∧ w.grownBy w' (some b) := by
  have hb := h.lt
  go_enter Try.func25, Try.ntmps25
  go_wp2
  go_loopw [8] (fun i wr => ∃ j : Nat, i = .int .i64 j ∧ j ≤ m ∧ MIs b wr (N + j) (over f a d j) ∧ wr.heap[w.heap.size]? = some (.cells #[.int .i64 a, .string d] 58 (0, 0)) ∧ w.grownBy wr (some b)) (fun i _ => m - (intOf i).toNat)
  case atStart =>
    refine ⟨0, rfl, Nat.zero_le _, ?_, ?_, World.grownBy_alloc w _ _⟩
    · rw [over_zero]; exact h.same (Below.heap_alloc _ _ _ hb)
    · show (w.heap.push _)[w.heap.size]? = _; simp
  case round =>
    obtain ⟨j, rfl, hj, hM, hc, hg⟩ := hrel
    by_cases hlt : j < m
    · have hlen : (j + 1) * 128 ≤ d.size := by unfold cnt at hm; omega
      obtain ⟨hc0, hc1⟩ := two_cells hc
      obtain ⟨w1, hrun, hM1, hg1, hs1⟩ := MIs.store (w := wr.drew) (hM.same rfl) (by unfold maxLen; omega) (a + j) (by omega) (piece d j)
      have hrun' : (Instr.mapUpdate 53 (.map (some b)) (.agg #[.int .i64 ((a : Int) + (j : Int))]) (.agg #[.string (d.extract (j * 128) ((j + 1) * 128))])).run Try.prog wr.drew = .ok () w1 := by
        rw [show ((a : Int) + (j : Int)) = ((a + j : Nat) : Int) by omega]
        exact hrun
      clear hrun
      rw [over_succ] at hM1
      go_wp2
      go_region
      have hcl := lt_of_block hc
      have hg2 : wr.grownBy w1 (some b) := ⟨hg1.os, hg1.tape, hg1.output, hg1.size, hg1.block⟩
      have hc2 := (hg2.block w.heap.size hcl (fun e => by have := Option.some.inj e; omega)).trans hc
      have hg3 := hg.andThen hg2 (fun j hj => .inr hj)
      clear hc hg hg1 hg2 hM hrun' hc0 hc1
      go_wp2
      go_roundw
      case rel => exact ⟨j + 1, by go_num, by omega, hM1, hc2, hg3⟩
      case measure => simp [intOf]; omega
    · have hjm : j = m := by omega
      subst hjm
      go_wp2
      go_end0
      exact ⟨rfl, hM, hg⟩

/-- what a device is: how many blocks, what lasts, what waits -/
structure DS where
  n : Nat
  L : Nat → Option ByteArray
  Q : List (Nat × ByteArray)
/-- what is seen of the writes that wait -/
def seen (f : Nat → Option ByteArray) (Q : List (Nat × ByteArray)) : Nat → Option ByteArray := Q.foldl (fun f q => over f q.1 q.2 (cnt q.2)) f
/-- a write, in the row of the ones that wait -/
def wc (Q : List (Nat × ByteArray)) : List Value := Q.flatMap fun q => [.int .i64 (q.1 : Int), .string q.2]
theorem wc_len (Q : List (Nat × ByteArray)) : (wc Q).length = Q.length * 2 := by
  induction Q with
  | nil => rfl
  | cons q Q ih => simp [wc] at *; omega
theorem wc_append (A B : List (Nat × ByteArray)) : wc (A ++ B) = wc A ++ wc B := by simp [wc]
/-- outside some blocks the world is as it was -/
structure Only (fp : List Nat) (w w' : World) : Prop where
  os : w'.os = w.os
  tape : w'.tape = w.tape
  output : w'.output = w.output
  size : w.heap.size ≤ w'.heap.size
  block : ∀ k, k < w.heap.size → k ∉ fp → w'.heap[k]? = w.heap[k]?
theorem Only.refl (fp : List Nat) (w : World) : Only fp w w := ⟨rfl, rfl, rfl, Nat.le_refl _, fun _ _ _ => rfl⟩
theorem Only.of_below {fp : List Nat} {w w' : World} (h : Below w.heap.size w w') : Only fp w w' := ⟨h.os, h.tape, h.output, h.size, fun k hk _ => h.block k hk⟩
theorem Only.of_grown {fp : List Nat} {w w' : World} {b : Nat} (h : w.grownBy w' (some b)) (hb : b ∈ fp) : Only fp w w' := ⟨h.os, h.tape, h.output, h.size, fun k hk hn => h.block k hk (fun e => hn (by have := Option.some.inj e; subst this; exact hb))⟩
theorem Only.trans {fp fp' : List Nat} {w w1 w2 : World} (h : Only fp w w1) (k : Only fp' w1 w2) (hf : ∀ x ∈ fp', x ∈ fp ∨ w.heap.size ≤ x) : Only fp w w2 :=
  ⟨k.os.trans h.os, k.tape.trans h.tape, k.output.trans h.output, Nat.le_trans h.size k.size, fun i hi hn => (k.block i (Nat.lt_of_lt_of_le hi h.size) (fun hm => by rcases hf i hm with h1 | h1; exact hn h1; omega)).trans (h.block i hi hn)⟩
theorem Only.below {fp : List Nat} {w w' : World} {B : Nat} (h : Only fp w w') (hB : B ≤ w.heap.size) (hf : ∀ x ∈ fp, B ≤ x) : Below B w w' :=
  ⟨h.os, h.tape, h.output, h.size, fun k hk => h.block k (by omega) (fun hm => by have := hf k hm; omega)⟩
theorem Only.setCell {fp : List Nat} {w : World} {a : Addr} (v : Value) (ha : a.block ∈ fp) : Only fp w (w.setCell a v) :=
  ⟨rfl, rfl, rfl, by simp [World.setCell], fun k _ hn => Below.heap_setCell _ _ _ _ (fun e => hn (by rw [e]; exact ha))⟩
theorem Only.drew {fp : List Nat} {w w' : World} (h : Only fp w w') : Only fp w w'.drew := ⟨h.os, h.tape, h.output, h.size, h.block⟩

/-- a device, behind the pointer to block g; the blocks of memory that are its; at most N entries in each map -/
structure DIs (base g : Nat) (w : World) (N : Nat) (S : DS) (fp : List Nat) : Prop where
  ex : ∃ bl bf wv, w.heap[g]? = some (.cells #[.int .i64 (S.n : Int), .map (some bl), .map (some bf), wv] 56 (0, 0)) ∧ bl ≠ bf ∧
    MIs bl w N S.L ∧ MIs bf w N (seen (fun _ => none) S.Q) ∧ w.ownsRow base 58 2 wv S.Q.length (wc S.Q) ∧ g ∈ fp ∧ bl ∈ fp ∧ bf ∈ fp ∧ (∀ b, wv.ownBlock = some b → b ∈ fp)
  n1 : 1 ≤ S.n
  n2 : S.n ≤ 1024
  ok : ∀ q ∈ S.Q, q.1 + cnt q.2 ≤ S.n ∧ q.2.size ≤ 1000000
  lo : ∀ k ∈ fp, base ≤ k ∧ k < w.heap.size
theorem DIs.other {base g N : Nat} {w w' : World} {S : DS} {fp fp' : List Nat} (h : DIs base g w N S fp) (k : Only fp' w w') (hd : ∀ x ∈ fp, x ∉ fp') : DIs base g w' N S fp := by
  obtain ⟨⟨bl, bf, wv, h1, h2, h3, h4, h5, m1, m2, m3, m4⟩, h6, h7, h8, h9⟩ := h
  have hb : ∀ x ∈ fp, w'.heap[x]? = w.heap[x]? := fun x hx => k.block x (h9 x hx).2 (hd x hx)
  refine ⟨⟨bl, bf, wv, (hb g m1).trans h1, h2, h3.same (hb bl m2), h4.same (hb bf m3), ?_, m1, m2, m3, m4⟩, h6, h7, h8, fun x hx => ⟨(h9 x hx).1, Nat.lt_of_lt_of_le (h9 x hx).2 k.size⟩⟩
  obtain ⟨e1, e2 | ⟨b, cap, cur, rfl, e3, e4, e5⟩⟩ := h5
  · exact ⟨e1, .inl e2⟩
  · exact ⟨e1, .inr ⟨b, cap, cur, rfl, e3, (hb b (m4 b rfl)).trans e4, e5⟩⟩
theorem DIs.below {base g N : Nat} {w w' : World} {S : DS} {fp : List Nat} (h : DIs base g w N S fp) (k : Below w.heap.size w w') : DIs base g w' N S fp :=
  h.other (fp' := []) (Only.of_below k) (fun _ _ => by simp)
theorem DIs.mono {base g N N' : Nat} {w : World} {S : DS} {fp : List Nat} (h : DIs base g w N S fp) (hn : N ≤ N') : DIs base g w N' S fp := by
  obtain ⟨⟨bl, bf, wv, h1, h2, h3, h4, h5⟩, h6, h7, h8, h9⟩ := h
  exact ⟨⟨bl, bf, wv, h1, h2, h3.mono hn, h4.mono hn, h5⟩, h6, h7, h8, h9⟩
theorem DIs.lt {base g N : Nat} {w : World} {S : DS} {fp : List Nat} (h : DIs base g w N S fp) : g < w.heap.size := by
  obtain ⟨⟨bl, bf, wv, h1, _⟩, _⟩ := h
  exact lt_of_block h1
theorem four_cells {w : World} {g : Nat} {a b c d : Value} {t : TypeId} (h : w.heap[g]? = some (.cells #[a, b, c, d] t (0, 0))) :
    w.cell? ⟨g, 0, none⟩ = some a ∧ w.cell? ⟨g, 1, none⟩ = some b ∧ w.cell? ⟨g, 2, none⟩ = some c ∧ w.cell? ⟨g, 3, none⟩ = some d := by
  simp [World.cell?, h]
theorem four_free {w : World} {g : Nat} {a b c d : Value} {t : TypeId} (h : w.heap[g]? = some (.cells #[a, b, c, d] t (0, 0))) (i : Nat) : w.frozen? ⟨g, i, none⟩ = false := by
  simp [World.frozen?, h]
theorem four_set3 {w : World} {g : Nat} {a b c d u : Value} {t : TypeId} (h : w.heap[g]? = some (.cells #[a, b, c, d] t (0, 0))) : (w.setCell ⟨g, 3, none⟩ u).heap[g]? = some (.cells #[a, b, c, u] t (0, 0)) := by
  have hlt := lt_of_block h
  have h' : w.heap[g] = .cells #[a, b, c, d] t (0, 0) := by simpa [Array.getElem?_eq_getElem hlt] using h
  show (w.heap.modify g _)[g]? = _
  rw [Array.getElem?_eq_getElem (by simpa using hlt), Array.getElem_modify_self, h']
  rfl

theorem blocks_nil (w : World) : Calls Try.prog 19 #[.pointer none] w fun e w' => e = .returned (.int .i64 0) ∧ w' = w := by
  go_enter Try.func19, Try.ntmps19
  go_wp2
  go_ret
  exact ⟨rfl, rfl⟩
theorem blocks_any {base g N : Nat} {S : DS} {fp : List Nat} (w : World) (h : DIs base g w N S fp) : Calls Try.prog 19 #[.pointer (some ⟨g, 0, none⟩)] w fun e w' => e = .returned (.int .i64 S.n) ∧ w' = w := by
  obtain ⟨⟨bl, bf, wv, h1, _⟩, _⟩ := h
  obtain ⟨c0, c1, c2, c3⟩ := four_cells h1
  clear h1 c1 c2 c3
  go_enter Try.func19, Try.ntmps19
  go_wp2
  go_ret
  exact ⟨rfl, rfl⟩
theorem waits_nil (w : World) : Calls Try.prog 18 #[.pointer none] w fun e w' => e = .returned (.int .i64 0) ∧ w' = w := by
  go_enter Try.func18, Try.ntmps18
  go_wp2
  go_ret
  exact ⟨rfl, rfl⟩
theorem waits_any {base g N : Nat} {S : DS} {fp : List Nat} (w : World) (h : DIs base g w N S fp) : Calls Try.prog 18 #[.pointer (some ⟨g, 0, none⟩)] w fun e w' => e = .returned (.int .i64 S.Q.length) ∧ w' = w := by
  obtain ⟨⟨bl, bf, wv, h1, _, _, _, h5, _⟩, _⟩ := h
  obtain ⟨c0, c1, c2, c3⟩ := four_cells h1
  clear h1 c1 c2 c0
  obtain ⟨e1, ⟨rfl, e2⟩ | ⟨b, cap, cur, rfl, e3, e4, e5⟩⟩ := h5
  · rw [e2]
    clear e1 e2
    go_enter Try.func18, Try.ntmps18
    go_wp2
    go_ret
    exact ⟨rfl, rfl⟩
  · clear e1 e3 e4 e5
    go_enter Try.func18, Try.ntmps18
    go_wp2
    go_ret
    exact ⟨rfl, rfl⟩
theorem new_bad (n : Int) (h : ¬ (1 ≤ n ∧ n ≤ 1024)) (w : World) : Calls Try.prog 8 #[.int .i64 n] w fun e w' => e = .returned (.tuple #[.pointer none, .int .i64 1]) ∧ w' = w := by
  by_cases h1 : n < 1
  · go_enter Try.func8, Try.ntmps8
    go_wp2
    go_ret2
    exact ⟨rfl, rfl⟩
  · have h2 : 1024 < n := by omega
    go_enter Try.func8, Try.ntmps8
    go_wp2
    go_ret2
    exact ⟨rfl, rfl⟩
theorem new_any (n : Nat) (h1 : 1 ≤ n) (h2 : n ≤ 1024) (base : Nat) (w : World) (hb : base ≤ w.heap.size) :
    Calls Try.prog 8 #[.int .i64 n] w fun e w' => e = .returned (.tuple #[.pointer (some ⟨w.heap.size + 2, 0, none⟩), .int .i64 0]) ∧ DIs base (w.heap.size + 2) w' 0 ⟨n, fun _ => none, []⟩ [w.heap.size, w.heap.size + 1, w.heap.size + 2] ∧ Below w.heap.size w w' := by
  have hmm := @run_makeMap Try.prog
  go_enter Try.func8, Try.ntmps8
  go_wp2
  go_ret2
  have e1 : (w.alloc (.map #[] 0)).heap.size = w.heap.size + 1 := by simp
  have e2 : ((w.alloc (.map #[] 0)).alloc (.map #[] 0)).heap.size = w.heap.size + 2 := by simp
  refine ⟨rfl, ⟨⟨w.heap.size, w.heap.size + 1, .slice none 0 0, ?_, by omega, ?_, ?_, World.ownsRow_nil _ _ _ _, by simp, by simp, by simp, (fun b h => by cases h)⟩, h1, h2, (fun q hq => by cases hq), fun k hk => ?_⟩, ?_⟩
  · have hp : ((w.heap.push (Obj.map #[] 0)).push (Obj.map #[] 0)).size = w.heap.size + 2 := by simp
    show (((w.heap.push (Obj.map #[] 0)).push (Obj.map #[] 0)).push _)[w.heap.size + 2]? = _
    rw [← hp]
    exact Array.getElem?_push_size
  · refine (MIs.made w).same ((Below.heap_alloc _ _ _ (by rw [e2]; omega)).trans (Below.heap_alloc _ _ _ (by rw [e1]; omega)))
  · have := MIs.made (w.alloc (.map #[] 0))
    rw [e1] at this
    exact this.same (Below.heap_alloc _ _ _ (by rw [e2]; omega))
  · have e3 : ∀ o, (((w.alloc (.map #[] 0)).alloc (.map #[] 0)).alloc o).heap.size = w.heap.size + 3 := fun o => by simp
    simp at hk
    rw [e3]
    rcases hk with rfl | rfl | rfl <;> omega
  · exact (((Below.refl w.heap.size w).alloc (Nat.le_refl _) _).alloc (by rw [e1]; omega) _).alloc (by rw [e2]; omega) _
end Go.Proofs.Ytglhibmfbbbdiaa
