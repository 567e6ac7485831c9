import Derived.Test.YtopebghandojbaaGreatDcr
namespace Go.Proofs.YtopebghandojbaaGreat.Dv
open Go.RowKit Go.Maps

/-- texts as cells -/
def tc (L : List ByteArray) : List Value := L.map Value.string
/-- the reference's device, behind the pointer to block g -/
structure XIs (base g : Nat) (w : World) (L : List ByteArray) (Q : List (Nat × ByteArray)) (fp : List Nat) : Prop where
  ex : ∃ bl qv, w.heap[g]? = some (.cells #[.slice (some ⟨bl, 0, none⟩) L.length L.length, qv] 58 (0, 0)) ∧ w.heap[bl]? = some (.cells (tc L).toArray 9 (0, 0)) ∧ w.ownsRow base 146 2 qv Q.length (wc Q) ∧ g ∈ fp ∧ bl ∈ fp ∧ (∀ b, qv.ownBlock = some b → b ∈ fp)
  n1 : 1 ≤ L.length
  n2 : L.length ≤ 1024
  ok : ∀ q ∈ Q, q.1 + cnt q.2 ≤ L.length ∧ q.2.size ≤ 1000000
  lo : ∀ k ∈ fp, base ≤ k ∧ k < w.heap.size
theorem row62_same {w w' : World} {base n : Nat} {v : Value} {xs : List Value} (hr : w.ownsRow base 146 2 v n xs) (hb : ∀ b, v.ownBlock = some b → w'.heap[b]? = w.heap[b]?) : w'.ownsRow base 146 2 v n xs := by
  obtain ⟨e1, e2 | ⟨b, cap, cur, rfl, e3, e4, e5⟩⟩ := hr
  · exact ⟨e1, .inl e2⟩
  · exact ⟨e1, .inr ⟨b, cap, cur, rfl, e3, (hb b rfl).trans e4, e5⟩⟩
theorem XIs.other {base g : Nat} {w w' : World} {L : List ByteArray} {Q : List (Nat × ByteArray)} {fp fp' : List Nat} (h : XIs base g w L Q fp) (k : Only fp' w w') (hd : ∀ x ∈ fp, x ∉ fp') : XIs base g w' L Q fp := by
  obtain ⟨⟨bl, qv, h1, h2, h3, m1, m2, m3⟩, h6, h7, h8, h9⟩ := h
  have hb : ∀ x ∈ fp, w'.heap[x]? = w.heap[x]? := fun x hx => k.block x (h9 x hx).2 (hd x hx)
  exact ⟨⟨bl, qv, (hb g m1).trans h1, (hb bl m2).trans h2, row62_same h3 (fun b e => hb b (m3 b e)), m1, m2, m3⟩, h6, h7, h8, fun x hx => ⟨(h9 x hx).1, Nat.lt_of_lt_of_le (h9 x hx).2 k.size⟩⟩
theorem XIs.below {base g : Nat} {w w' : World} {L : List ByteArray} {Q : List (Nat × ByteArray)} {fp : List Nat} (h : XIs base g w L Q fp) (k : Below w.heap.size w w') : XIs base g w' L Q fp :=
  h.other (fp' := []) (Only.of_below k) (fun _ _ => by simp)
theorem tc_cell {w : World} {bl : Nat} {L : List ByteArray} (h : w.heap[bl]? = some (.cells (tc L).toArray 9 (0, 0))) (k : Nat) (hk : k < L.length) : w.cell? ⟨bl, k, none⟩ = some (.string L[k]) := by
  simp [World.cell?, h, tc, hk]
theorem Tryz.info9 : (Tryz.prog.info? 9).map (fun i => (i.zero, i.size, i.bytes)) = some (some (.string ⟨#[]⟩), 1, 16) := by kernel_rfl
theorem made_str (n : Nat) : madeCells (Value.string ⟨#[]⟩).cells n = (tc (List.replicate n ByteArray.empty)).toArray := by
  unfold madeCells tc
  apply Array.ext'
  simp [Value.cells, List.map_const', Nat.mod_one]
  exact .inr rfl
theorem mk_str (n : Nat) (hn : n ≤ 1024) (w : World) : (Instr.makeSlice 55 (.int .i64 (n : Int)) (.int .i64 (n : Int))).run Tryz.prog w = .ok (.slice (some ⟨w.heap.size, 0, none⟩) n n) (w.alloc (.cells (tc (List.replicate n ByteArray.empty)).toArray 9)) := by
  obtain ⟨i0, hi, hz0, hz1, hz2⟩ := info_parts Tryz.info9
  have := run_makeSlice (P := Tryz.prog) w 55 9 i0 (.string ⟨#[]⟩) Tryz.underlying55 hi hz0 .i64 .i64 n n (by omega) (by omega) (by rw [hz1]; omega) (by rw [hz2]; omega) (by omega)
  rw [hz1] at this
  rw [Int.toNat_natCast, Nat.mul_one, made_str n] at this
  exact this
set_option maxRecDepth 100000 in
theorem xnew_any (n : Nat) (h1 : 1 ≤ n) (h2 : n ≤ 1024) (base : Nat) (w : World) (hb : base ≤ w.heap.size) :
    Calls Tryz.prog 28 #[.int .i64 n] w fun e w' => e = .returned (.tuple #[.pointer (some ⟨w.heap.size + 1, 0, none⟩), .int .i64 0]) ∧ XIs base (w.heap.size + 1) w' (List.replicate n ByteArray.empty) [] [w.heap.size, w.heap.size + 1] ∧ Below w.heap.size w w' := by
  have hmk := mk_str n h2 w
  obtain ⟨cs, hcs⟩ : ∃ cs, cs = (tc (List.replicate n ByteArray.empty)).toArray := ⟨_, rfl⟩
  rw [← hcs] at hmk
  have HCS := hid hcs
  clear hcs
  go_enter Tryz.func28, Tryz.ntmps28
  go_wp2
  go_ret2
  have e1 : ∀ o, (w.alloc o).heap.size = w.heap.size + 1 := fun o => by simp
  refine ⟨rfl, ⟨⟨w.heap.size, .slice none 0 0, ?_, ?_, World.ownsRow_nil _ _ _ _, by simp, by simp, (fun b e => by cases e)⟩, by simp; omega, by simp; omega, (fun q hq => by cases hq), fun k hk => ?_⟩, ?_⟩
  · have hp : (w.heap.push (Obj.cells cs 9)).size = w.heap.size + 1 := by simp
    show ((w.heap.push (Obj.cells cs 9)).push _)[w.heap.size + 1]? = _
    rw [← hp, List.length_replicate]
    exact Array.getElem?_push_size
  · rw [← HCS.out]
    exact (Below.heap_alloc _ _ _ (by rw [e1]; omega)).trans (by show (w.heap.push _)[w.heap.size]? = _; simp)
  · have e3 : ∀ o o', ((w.alloc o).alloc o').heap.size = w.heap.size + 2 := fun o o' => by simp
    simp at hk
    rw [e3]
    rcases hk with rfl | rfl <;> omega
  · exact ((Below.refl w.heap.size w).alloc (Nat.le_refl _) _).alloc (by rw [e1]; omega) _
theorem xlasts_none {base g : Nat} {L : List ByteArray} {Q : List (Nat × ByteArray)} {fp : List Nat} (a : Int) (ha : ¬ (0 ≤ a ∧ a < L.length)) (w : World) (h : XIs base g w L Q fp) : Calls Tryz.prog 77 #[.pointer (some ⟨g, 0, none⟩), .int .i64 a] w fun e w' => e = .returned (.tuple #[.string ByteArray.empty, .int .i64 6]) ∧ w' = w := by
  obtain ⟨⟨bl, qv, h1, _⟩, _⟩ := h
  obtain ⟨c0, c1⟩ := two_cells h1
  by_cases h0 : a < 0
  · go_enter Tryz.func77, Tryz.ntmps77
    go_wp2
    go_ret2
    exact ⟨rfl, rfl⟩
  · have h2 : (L.length : Int) ≤ a := by omega
    go_enter Tryz.func77, Tryz.ntmps77
    go_wp2
    go_ret2
    exact ⟨rfl, rfl⟩
/-- a block as the reference tells it -/
def xb (s : ByteArray) : ByteArray := if s.size = 0 then Z else s
set_option maxRecDepth 100000 in
theorem xlasts_any {base g : Nat} {L : List ByteArray} {Q : List (Nat × ByteArray)} {fp : List Nat} (k : Nat) (hk : k < L.length) (w : World) (h : XIs base g w L Q fp) : Calls Tryz.prog 77 #[.pointer (some ⟨g, 0, none⟩), .int .i64 k] w fun e w' => e = .returned (.tuple #[.string (xb L[k]), .int .i64 0]) ∧ Below w.heap.size w w' := by
  have hn := h.n2
  obtain ⟨⟨bl, qv, h1, h2, _⟩, _⟩ := h
  obtain ⟨c0, c1⟩ := two_cells h1
  have ck := tc_cell h2 k hk
  obtain ⟨s, hs⟩ : ∃ s, s = L[k] := ⟨_, rfl⟩
  rw [← hs] at ck ⊢
  clear hs h2
  unfold xb
  by_cases h0 : s.size = 0
  · rw [if_pos h0]
    obtain rfl := size_zero h0
    have hmk := mk128
    have hcv : ∀ w : World, (convert 164 9 (.slice (some ⟨w.heap.size, 0, none⟩) 128 128)).run Tryz.prog (w.alloc (.cells (bc (List.replicate 128 0)).toArray 5)) = .ok (.string Z) (w.alloc (.cells (bc (List.replicate 128 0)).toArray 5)) := fun w => (CIs.made w (List.replicate 128 0)).conv 128
    obtain ⟨Z0, hZ0⟩ : ∃ z, z = Z := ⟨_, rfl⟩
    rw [← hZ0] at hcv ⊢
    obtain ⟨cs, hcs⟩ : ∃ cs, cs = (bc (List.replicate 128 0)).toArray := ⟨_, rfl⟩
    rw [← hcs] at hmk hcv
    clear hcs hZ0 h0
    have hcv1 := hcv w
    clear hcv
    go_enter Tryz.func77, Tryz.ntmps77
    go_wp2
    go_ret2
    exact ⟨rfl, below_alloc _ _⟩
  · rw [if_neg h0]
    have hne := empty_ne h0
    go_enter Tryz.func77, Tryz.ntmps77
    go_wp2
    go_ret2
    exact ⟨rfl, Below.refl _ _⟩
end Go.Proofs.YtopebghandojbaaGreat.Dv
namespace Go.Proofs.YtopebghandojbaaGreat.Dv
open Go.RowKit Go.Maps
theorem two_set1 {w : World} {g : Nat} {a b v : Value} {t : Nat} (h : w.heap[g]? = some (.cells #[a, b] t (0, 0))) : (w.setCell ⟨g, 1, none⟩ v).heap[g]? = some (.cells #[a, v] t (0, 0)) := by
  have hlt := lt_of_block h
  have h' : w.heap[g] = .cells #[a, b] t (0, 0) := by simpa [Array.getElem?_eq_getElem hlt] using h
  show (w.heap.modify g _)[g]? = _
  rw [Array.getElem?_eq_getElem (by simpa using hlt), Array.getElem_modify_self, h']
  simp
theorem Tryz.info146 : (Tryz.prog.info? 146).map (fun i => (i.zero, i.size, i.bytes)) = some (some (.agg #[.int .i64 0, .string ⟨#[]⟩]), 2, 24) := by kernel_rfl
/-- one write more at the end of the reference's row -/
theorem push_w {ops : Array Oper} {rest : List Oper} {o : Oper} {a : Act} {Q : Exit → Act → World → Prop} {w0 : World} (hgd : o.guard = none) (s x : Operand)
    (ho : o.op = .call { callee := .builtin .append, args := #[s, x], argTypes := #[56, 56] }) (base : Nat) (v : Value) (l : List (Nat × ByteArray)) (p : Nat) (d : ByteArray)
    (hs : a.eval s = v) (hx : a.eval x = .slice (some ⟨w0.heap.size, 0, none⟩) 1 1) (hown : w0.ownsRow base 146 2 v l.length (wc l)) (hn : l.length ≤ 1000000) (hbase : base ≤ w0.heap.size)
    (h : ∀ r cap w', w'.ownsRow base 146 2 (.slice (some ⟨r, 0, none⟩) (l.length + 1) cap) (l.length + 1) (wc (l ++ [(p, d)])) → (∀ b, b < w0.heap.size → v.ownBlock ≠ some b → w'.heap[b]? = w0.heap[b]?) → w'.os = w0.os → w'.tape = w0.tape → w'.output = w0.output → w0.heap.size ≤ w'.heap.size → (v.ownBlock = some r ∨ w0.heap.size ≤ r) → wpList Tryz.prog ops Q rest (a.put o.dst (.slice (some ⟨r, 0, none⟩) (l.length + 1) cap)) w') :
    wpList Tryz.prog ops Q (o :: rest) a (w0.alloc (.cells #[.int .i64 (p : Int), .string d] 146)) := by
  obtain ⟨i0, hi, hz0, hz1, hz2⟩ := info_parts Tryz.info146
  refine wpList_append_own_at _ hgd s x 56 ho base 146 i0 _ 2 24 Tryz.underlying56 hi hz0 hz1 hz2 rfl (by decide) v l.length (wc l) hs (hown.alloc _) ⟨w0.heap.size, 0, none⟩ 1 1 [.int .i64 (p : Int), .string d] hx rfl ?_ ?_ ?_ ?_ ?_ ?_
  · intro i u hu
    match i, hu with
    | 0, hu => simp at hu; subst hu; simp [Addr.add]
    | 1, hu => simp at hu; subst hu; simp [Addr.add]
    | i + 2, hu => simp at hu
  · intro u hu
    simp at hu
    rcases hu with rfl | rfl <;> rfl
  · unfold maxLen; omega
  · omega
  · simp; omega
  · intro v' w' g1 g2 _ g4
    have hsz : ∀ o, (w0.alloc o).heap.size = w0.heap.size + 1 := fun o => by simp
    have hs2 := g2.size
    rw [hsz] at hs2
    have hblk : ∀ b, b < w0.heap.size → v.ownBlock ≠ some b → w'.heap[b]? = w0.heap[b]? := fun b hb hne => (g2.block b (by rw [hsz]; omega) (fun e => hne e.symm)).trans (Below.heap_alloc _ _ _ hb)
    obtain ⟨r, cap, rfl⟩ : ∃ r cap, v' = .slice (some ⟨r, 0, none⟩) (l.length + 1) cap := by
      obtain ⟨_, e | ⟨g', cap, cur, e, _⟩⟩ := g1
      · exact absurd e.2 (by omega)
      · exact ⟨g', cap, e⟩
    refine h r cap w' (by rw [wc_append]; exact g1) hblk g2.os g2.tape g2.output (by omega) ?_
    rcases g4 with g4 | g4
    · exact .inl g4.symm
    · right
      have : r = (w0.alloc (.cells #[.int .i64 (p : Int), .string d] 146)).heap.size := Option.some.inj g4
      rw [hsz] at this
      omega
theorem two_free {w : World} {g : Nat} {a b : Value} {t : TypeId} (h : w.heap[g]? = some (.cells #[a, b] t (0, 0))) (i : Nat) : w.frozen? ⟨g, i, none⟩ = false := by
  simp [World.frozen?, h]
theorem row62_ne {w : World} {base g n : Nat} {v : Value} {xs : List Value} {c : Array Value} {t : Nat} (ht : t ≠ 146) (hr : w.ownsRow base 146 2 v n xs) (hg : w.heap[g]? = some (.cells c t (0, 0))) : v.ownBlock ≠ some g := by
  obtain ⟨_, h | ⟨b, cap, cur, rfl, _, hb, _⟩⟩ := hr
  · rw [h.1]; intro h; cases h
  · intro h
    cases h
    rw [hg] at hb
    simp at hb
    exact ht hb.2
set_option maxRecDepth 100000 in
theorem xwrite_ok {base g : Nat} {L : List ByteArray} {Q : List (Nat × ByteArray)} {fp : List Nat} (a : Nat) (d : ByteArray) (h0 : d.size ≠ 0) (hm : d.size % 128 = 0) (hd : d.size ≤ 1000000) (hn : a + cnt d ≤ L.length) (hQ : Q.length ≤ 100000) (w : World) (h : XIs base g w L Q fp) (hbase : base ≤ w.heap.size) :
    Calls Tryz.prog 30 #[.pointer (some ⟨g, 0, none⟩), .int .i64 a, .string d] w fun e w' => e = .returned (.int .i64 0) ∧ ∃ fp', XIs base g w' L (Q ++ [(a, d)]) fp' ∧ Only fp w w' ∧ ∀ k ∈ fp', k ∈ fp ∨ w.heap.size ≤ k := by
  have h1 := empty_ne h0
  have h2 : (d.size : Int) % 128 = 0 := by omega
  have hc2 : cnt d ≤ 10000 := by unfold cnt; omega
  have hc1 : 1 ≤ cnt d := by unfold cnt; omega
  have hq : ((d.size : Int).tdiv 128) = cnt d := by unfold cnt; rw [Int.tdiv_eq_ediv_of_nonneg (by omega)]; omega
  have hnn := h.n2
  have HH := hid h
  obtain ⟨⟨bl, qv, e1, e2, e3, m1, m2, m3⟩, _⟩ := h
  have HE := hid (And.intro e1 (And.intro e2 (And.intro e3 (And.intro m1 (And.intro m2 m3)))))
  obtain ⟨c0, c1⟩ := two_cells e1
  obtain ⟨c, hcc⟩ : ∃ c, c = cnt d := ⟨_, rfl⟩
  rw [← hcc] at hc2 hc1 hn hq
  have HC := hid hcc
  clear hcc e1 e2 e3 m1 m2 m3
  have e3 := HE.out.2.2.1
  have k : ∀ (r cap : Nat) (w3 : World), w3.ownsRow base 146 2 (.slice (some ⟨r, 0, none⟩) (Q.length + 1) cap) (Q.length + 1) (wc (Q ++ [(a, d)])) → (∀ b, b < w.heap.size → qv.ownBlock ≠ some b → w3.heap[b]? = w.heap[b]?) → w3.os = w.os → w3.tape = w.tape → w3.output = w.output → w.heap.size ≤ w3.heap.size → (qv.ownBlock = some r ∨ w.heap.size ≤ r) →
      ∃ fp', XIs base g (w3.setCell ⟨g, 1, none⟩ (.slice (some ⟨r, 0, none⟩) (Q.length + 1) cap)) L (Q ++ [(a, d)]) fp' ∧ Only fp w (w3.setCell ⟨g, 1, none⟩ (.slice (some ⟨r, 0, none⟩) (Q.length + 1) cap)) ∧ ∀ k ∈ fp', k ∈ fp ∨ w.heap.size ≤ k := by
    intro r cap w3 g1 g2 g3 g4 g5 g6 g7
    obtain ⟨e1, e2, e3, m1, m2, m3⟩ := HE.out
    have hX := HH.out
    have hg3 : w3.heap[g]? = some (.cells #[.slice (some ⟨bl, 0, none⟩) L.length L.length, qv] 58 (0, 0)) := (g2 g (lt_of_block e1) (row62_ne (by decide) e3 e1)).trans e1
    have hrg : r ≠ g := fun e => row62_ne (by decide) g1 hg3 (by rw [e]; rfl)
    have hbg : bl ≠ g := fun e => by rw [e, e1] at e2; simp at e2
    have hsz : ∀ v, (w3.setCell ⟨g, 1, none⟩ v).heap.size = w3.heap.size := fun v => by simp [World.setCell]
    have hb4 : ∀ v, ∀ b, b ≠ g → (w3.setCell ⟨g, 1, none⟩ v).heap[b]? = w3.heap[b]? := fun v b hb => Below.heap_setCell _ _ _ _ hb
    have hr := g1.lt r rfl
    refine ⟨[g, bl, r], ⟨⟨bl, _, two_set1 hg3, (hb4 _ bl hbg).trans ((g2 bl (lt_of_block e2) (row62_ne (by decide) e3 e2)).trans e2), ?_, by simp, by simp, fun b hb => ?_⟩, hX.n1, hX.n2, fun q hq => ?_, fun k hk => ?_⟩, ⟨g3, g4, g5, by rw [hsz]; exact g6, fun k hk hn => ?_⟩, fun k hk => ?_⟩
    · rw [List.length_append]
      exact row62_same g1 (fun b hb => hb4 _ b (fun e => hrg ((Option.some.inj hb).trans e)))
    · have : r = b := Option.some.inj hb
      simp [this]
    · rcases List.mem_append.1 hq with hq | hq
      · exact hX.ok q hq
      · simp at hq
        subst hq
        exact ⟨by show a + cnt d ≤ L.length; rw [← HC.out]; exact hn, hd⟩
    · rw [hsz]
      simp at hk
      rcases hk with rfl | rfl | rfl
      · have := hX.lo _ m1; omega
      · have := hX.lo _ m2; omega
      · exact hr
    · exact (hb4 _ k (fun e => hn (by rw [e]; exact m1))).trans (g2 k hk (fun e => hn (m3 k e)))
    · simp at hk
      rcases hk with rfl | rfl | rfl
      · exact .inl m1
      · exact .inl m2
      · rcases g7 with g7 | g7
        · exact .inl (m3 _ g7)
        · exact .inr g7
  have HK := hid k
  have HF : Hid (∀ w3 : World, (∀ b, b < w.heap.size → qv.ownBlock ≠ some b → w3.heap[b]? = w.heap[b]?) → w3.heap[g]? = w.heap[g]?) := fun w3 h => h g (lt_of_block HE.out.1) (row62_ne (by decide) e3 HE.out.1)
  clear k
  go_enter Tryz.func30, Tryz.ntmps30
  go_wp2_with (first | (at_builtin; refine push_w rfl (.tmp 45) (.tmp 49) rfl base qv Q a d rfl rfl e3 (by omega) hbase ?_; intro r cap w3 g1 g2 g3 g4 g5 g6 g7; have hg3 := (HF.out w3 g2).trans HE.out.1; have f3 := two_free hg3 1; have k3 := (two_cells hg3).2; have HX := hid (HK.out r cap w3 g1 g2 g3 g4 g5 g6 g7); clear g1 g2 g3 g4 g5 g6 g7 hg3))
  go_ret
  exact ⟨rfl, HX.out⟩
end Go.Proofs.YtopebghandojbaaGreat.Dv
namespace Go.Proofs.YtopebghandojbaaGreat.Dv
open Go.RowKit Go.Maps

theorem row62_at {w : World} {base : Nat} {v : Value} {Q : List (Nat × ByteArray)} (h : w.ownsRow base 146 2 v Q.length (wc Q)) (j : Nat) (hj : j < Q.length) :
    ∃ b cap, v = .slice (some ⟨b, 0, none⟩) Q.length cap ∧ w.cell? ⟨b, j * 2, none⟩ = some (.int .i64 (Q[j].1 : Int)) ∧ w.cell? ⟨b, j * 2 + 1, none⟩ = some (.string Q[j].2) := by
  have hwc : ∀ (Q : List (Nat × ByteArray)) (j : Nat) (hj : j < Q.length), (wc Q)[j * 2]? = some (.int .i64 (Q[j].1 : Int)) ∧ (wc Q)[j * 2 + 1]? = some (.string Q[j].2) := by
    intro Q
    induction Q with
    | nil => intro j hj; simp at hj
    | cons q Q ih =>
      intro j hj
      have e : wc (q :: Q) = .int .i64 (q.1 : Int) :: .string q.2 :: wc Q := rfl
      rw [e]
      cases j with
      | zero => exact ⟨rfl, rfl⟩
      | succ j =>
        have := ih j (by simpa using hj)
        rw [show (j + 1) * 2 = j * 2 + 1 + 1 by omega, show j * 2 + 1 + 1 + 1 = (j * 2 + 1) + 1 + 1 by omega]
        simpa using this
  obtain ⟨h1, h2⟩ := hwc Q j hj
  obtain ⟨_, e | ⟨b, cap, cur, rfl, e3, e4, e5, e6, e7, e8⟩⟩ := h
  · omega
  · refine ⟨b, cap, rfl, ?_, ?_⟩
    · rw [← e8, List.getElem?_take_of_lt (by omega)] at h1
      simpa [World.cell?, e4] using h1
    · rw [← e8, List.getElem?_take_of_lt (by omega)] at h2
      simpa [World.cell?, e4] using h2
/-- a block as the reference sees it, behind some writes -/
def seesX (k : Nat) (s : ByteArray) (Q : List (Nat × ByteArray)) : ByteArray := Q.foldl (fun s q => if q.1 ≤ k ∧ k < q.1 + cnt q.2 then piece q.2 (k - q.1) else s) s
theorem seesX_take (k : Nat) (s : ByteArray) (Q : List (Nat × ByteArray)) (j : Nat) (hj : j < Q.length) : seesX k s (Q.take (j + 1)) = if Q[j].1 ≤ k ∧ k < Q[j].1 + cnt Q[j].2 then piece Q[j].2 (k - Q[j].1) else seesX k s (Q.take j) := by
  unfold seesX
  rw [List.take_add_one, List.getElem?_eq_getElem hj, List.foldl_append]
  rfl
theorem seen_sees (k : Nat) : ∀ (Q : List (Nat × ByteArray)) (f : Nat → Option ByteArray), (seen f Q k).getD Z = seesX k ((f k).getD Z) Q
  | [], f => rfl
  | q :: Q, f => by
    have := seen_sees k Q (over f q.1 q.2 (cnt q.2))
    have e : seen f (q :: Q) = seen (over f q.1 q.2 (cnt q.2)) Q := rfl
    rw [e, this]
    unfold seesX
    rw [List.foldl_cons]
    congr 1
    unfold over
    by_cases h : q.1 ≤ k ∧ k < q.1 + cnt q.2
    · rw [if_pos h, if_pos h]; rfl
    · rw [if_neg h, if_neg h]
set_option maxHeartbeats 1000000 in
set_option maxRecDepth 100000 in
theorem xread_any {base g : Nat} {L : List ByteArray} {Q : List (Nat × ByteArray)} {fp : List Nat} (k : Nat) (hk : k < L.length) (hQ : Q.length ≤ 100000) (w : World) (h : XIs base g w L Q fp) : Calls Tryz.prog 26 #[.pointer (some ⟨g, 0, none⟩), .int .i64 k] w fun e w' => e = .returned (.tuple #[.string (seesX k (xb L[k]) Q), .int .i64 0]) ∧ Below w.heap.size w w' := by
  have HL := hid (xlasts_any k hk w h)
  have hn := h.n2
  obtain ⟨⟨bl, qv, e1, e2, e3, m1, m2, m3⟩, _, _, hok, hlo⟩ := h
  obtain ⟨s0, hs0⟩ : ∃ s, s = xb L[k] := ⟨_, rfl⟩
  rw [← hs0] at HL ⊢
  clear hs0
  have HE := hid e1
  have HR := hid e3
  have HOK := hid hok
  have hlen : ∃ ao cap, qv = .slice ao Q.length cap := by
    obtain ⟨_, e | ⟨b, cap, cur, e, _⟩⟩ := e3
    · exact ⟨none, 0, by rw [e.2]; exact e.1⟩
    · exact ⟨_, cap, e⟩
  obtain ⟨ao, cap, rfl⟩ := hlen
  clear e1 e2 e3 m1 m2 m3 hok hlo
  go_enter Tryz.func26, Tryz.ntmps26
  go_wp2_with (first | (go_at_call 77; refine HL.out.mono ?_; rintro e w1 ⟨rfl, hb1⟩; have hg1 := (hb1.block g (lt_of_block HE.out)).trans HE.out; obtain ⟨c0, c1⟩ := two_cells hg1; clear hg1))
  clear c0 c1
  go_loopw [6, 22] (fun s i wr => ∃ j : Nat, s = .string (seesX k s0 (Q.take j)) ∧ i = .int .i64 j ∧ j ≤ Q.length ∧ Below w.heap.size w wr) (fun _ i _ => Q.length - (intOf i).toNat)
  case atStart => exact ⟨0, rfl, rfl, Nat.zero_le _, hb1⟩
  case round =>
    obtain ⟨j, rfl, rfl, hj, hb⟩ := hrel
    by_cases hlt : j < Q.length
    · have ht := seesX_take k s0 Q j hlt
      obtain ⟨b, cap', hv, r0, r1⟩ := row62_at HR.out j hlt
      obtain ⟨rfl, rfl⟩ : ao = some ⟨b, 0, none⟩ ∧ cap = cap' := by cases hv; exact ⟨rfl, rfl⟩
      have hbl := (HR.out.lt b rfl).2
      have q0 := (World.cell?_of_block (hb.block b hbl)).trans r0
      have q1 := (World.cell?_of_block (hb.block b hbl)).trans r1
      obtain ⟨hc1, hc2⟩ := HOK.out Q[j] (List.getElem_mem hlt)
      obtain ⟨A, hA⟩ : ∃ A, A = Q[j].1 := ⟨_, rfl⟩
      obtain ⟨d, hd⟩ : ∃ d, d = Q[j].2 := ⟨_, rfl⟩
      rw [← hA] at q0 ht hc1
      rw [← hd] at q1 ht hc1 hc2
      have hq : ((d.size : Int).tdiv 128) = cnt d := by unfold cnt; rw [Int.tdiv_eq_ediv_of_nonneg (by omega)]; omega
      clear hA hd r0 r1 hv
      have HT := hid ht
      clear ht
      by_cases hin : A ≤ k ∧ k < A + cnt d
      · have hlen2 : (k - A + 1) * 128 ≤ d.size := by unfold cnt at hin; omega
        have hT : seesX k s0 (Q.take (j + 1)) = d.extract ((k - A) * 128) ((k - A + 1) * 128) := by rw [HT.out, if_pos hin]; rfl
        have HT2 := hid hT
        clear hT HT
        obtain ⟨c, hc⟩ : ∃ c, c = cnt d := ⟨_, rfl⟩
        rw [← hc] at hq hin hc1
        clear hc
        go_wp2
        go_roundw
        case rel => exact ⟨j + 1, by rw [HT2.out], by go_num, by omega, hb.next (below_alloc _ _)⟩
        case measure => simp [intOf]; omega
      · have hT : seesX k s0 (Q.take (j + 1)) = seesX k s0 (Q.take j) := by rw [HT.out, if_neg hin]
        have HT2 := hid hT
        clear hT HT
        obtain ⟨c, hc⟩ : ∃ c, c = cnt d := ⟨_, rfl⟩
        rw [← hc] at hq hin hc1
        clear hc
        obtain ⟨s1, hs1⟩ : ∃ s1, s1 = seesX k s0 (Q.take j) := ⟨_, rfl⟩
        rw [← hs1] at HT2 ⊢
        clear hs1
        by_cases hlo : k < A
        · go_wp2
          go_roundw
          case rel => exact ⟨j + 1, by rw [HT2.out], by go_num, by omega, hb.next (below_alloc _ _)⟩
          case measure => simp [intOf]; omega
        · have hhi : A + c ≤ k := by omega
          go_wp2
          go_roundw
          case rel => exact ⟨j + 1, by rw [HT2.out], by go_num, by omega, hb.next (below_alloc _ _)⟩
          case measure => simp [intOf]; omega
    · have hjm : j = Q.length := by omega
      subst hjm
      go_wp2
      go_ret2
      rw [List.take_length]
      exact ⟨rfl, hb⟩
set_option maxHeartbeats 1000000 in
set_option maxRecDepth 100000 in
theorem xread_none {base g : Nat} {L : List ByteArray} {Q : List (Nat × ByteArray)} {fp : List Nat} (a : Int) (ha : ¬ (0 ≤ a ∧ a < L.length)) (hQ : Q.length ≤ 100000) (w : World) (h : XIs base g w L Q fp) : Calls Tryz.prog 26 #[.pointer (some ⟨g, 0, none⟩), .int .i64 a] w fun e w' => e = .returned (.tuple #[.string ByteArray.empty, .int .i64 6]) ∧ Below w.heap.size w w' := by
  have HL := hid (xlasts_none a ha w h)
  obtain ⟨⟨bl, qv, e1, e2, e3, m1, m2, m3⟩, _, _, hok, hlo⟩ := h
  have HE := hid e1
  have HR := hid e3
  have hlen : ∃ ao cap, qv = .slice ao Q.length cap := by
    obtain ⟨_, e | ⟨b, cap, cur, e, _⟩⟩ := e3
    · exact ⟨none, 0, by rw [e.2]; exact e.1⟩
    · exact ⟨_, cap, e⟩
  obtain ⟨ao, cap, rfl⟩ := hlen
  obtain ⟨c0, c1⟩ := two_cells e1
  clear e1 e2 e3 m1 m2 m3 hok hlo
  obtain ⟨s0, hs0⟩ : ∃ s, s = ByteArray.empty := ⟨_, rfl⟩
  rw [← hs0] at HL ⊢
  clear hs0 ha
  go_enter Tryz.func26, Tryz.ntmps26
  go_wp2_with (first | (go_at_call 77; refine HL.out.mono ?_; rintro e w1 ⟨rfl, hw1⟩; subst hw1))
  clear c0 c1
  go_loopw [6, 22] (fun s i wr => ∃ j : Nat, s = .string s0 ∧ i = .int .i64 j ∧ j ≤ Q.length ∧ Below w1.heap.size w1 wr) (fun _ i _ => Q.length - (intOf i).toNat)
  case atStart => exact ⟨0, rfl, rfl, Nat.zero_le _, Below.refl _ _⟩
  case round =>
    obtain ⟨j, rfl, rfl, hj, hb⟩ := hrel
    by_cases hlt : j < Q.length
    · obtain ⟨b, cap', hv, r0, r1⟩ := row62_at HR.out j hlt
      obtain ⟨rfl, rfl⟩ : ao = some ⟨b, 0, none⟩ ∧ cap = cap' := by cases hv; exact ⟨rfl, rfl⟩
      have hbl := (HR.out.lt b rfl).2
      have q0 := (World.cell?_of_block (hb.block b hbl)).trans r0
      have q1 := (World.cell?_of_block (hb.block b hbl)).trans r1
      obtain ⟨A, hA⟩ : ∃ A, A = Q[j].1 := ⟨_, rfl⟩
      obtain ⟨d, hd⟩ : ∃ d, d = Q[j].2 := ⟨_, rfl⟩
      rw [← hA] at q0
      rw [← hd] at q1
      clear hA hd r0 r1 hv
      go_wp2
      go_roundw
      case rel => exact ⟨j + 1, rfl, by go_num, by omega, hb.next (below_alloc _ _)⟩
      case measure => simp [intOf]; omega
    · have hjm : j = Q.length := by omega
      subst hjm
      go_wp2
      go_ret2
      exact ⟨rfl, hb⟩
end Go.Proofs.YtopebghandojbaaGreat.Dv
namespace Go.Proofs.YtopebghandojbaaGreat.Dv
open Go.RowKit Go.Maps

/-- some blocks of a row put anew -/
def setL (L : List ByteArray) (a : Nat) (d : ByteArray) : Nat → List ByteArray
  | 0 => L
  | m + 1 => (setL L a d m).set (a + m) (piece d m)
theorem setL_len (L : List ByteArray) (a : Nat) (d : ByteArray) : ∀ m, (setL L a d m).length = L.length
  | 0 => rfl
  | m + 1 => by show ((setL L a d m).set _ _).length = _; rw [List.length_set, setL_len L a d m]
/-- a crash, as the reference does it, from the i'th write on -/
def crashL (pk : Nat → Bool) : Nat → Nat → List ByteArray → List (Nat × ByteArray) → List ByteArray
  | _, _, L, [] => L
  | i, t, L, q :: Q => if pk i then crashL pk (i + 1) t (setL L q.1 q.2 (cnt q.2)) Q else crashL pk (i + 1) 0 (setL L q.1 q.2 (min t (cnt q.2))) Q
theorem crashL_cons (pk : Nat → Bool) (i t : Nat) (L : List ByteArray) (q : Nat × ByteArray) (Q : List (Nat × ByteArray)) :
    crashL pk i t L (q :: Q) = if pk i then crashL pk (i + 1) t (setL L q.1 q.2 (cnt q.2)) Q else crashL pk (i + 1) 0 (setL L q.1 q.2 (min t (cnt q.2))) Q := rfl
theorem crashL_end (pk : Nat → Bool) (i t : Nat) (L : List ByteArray) : crashL pk i t L [] = L := by cases i <;> rfl
theorem crashL_len (pk : Nat → Bool) : ∀ (Q : List (Nat × ByteArray)) (i t : Nat) (L : List ByteArray), (crashL pk i t L Q).length = L.length
  | [], i, t, L => by rw [crashL_end]
  | q :: Q, i, t, L => by
    rw [crashL_cons]
    split
    · rw [crashL_len pk Q, setL_len]
    · rw [crashL_len pk Q, setL_len]
theorem tc_set {w : World} {bl : Nat} {L : List ByteArray} (h : w.heap[bl]? = some (.cells (tc L).toArray 9 (0, 0))) (k : Nat) (s : ByteArray) : (w.setCell ⟨bl, k, none⟩ (.string s)).heap[bl]? = some (.cells (tc (L.set k s)).toArray 9 (0, 0)) := by
  have hlt := lt_of_block h
  have h' : w.heap[bl] = .cells (tc L).toArray 9 (0, 0) := by simpa [Array.getElem?_eq_getElem hlt] using h
  show (w.heap.modify bl _)[bl]? = _
  rw [Array.getElem?_eq_getElem (by simpa using hlt), Array.getElem_modify_self, h']
  simp [tc, List.map_set]
theorem tc_free {w : World} {bl : Nat} {c : Array Value} (h : w.heap[bl]? = some (.cells c 9 (0, 0))) (k : Nat) : w.frozen? ⟨bl, k, none⟩ = false := by
  simp [World.frozen?, h]
set_option maxHeartbeats 2000000 in
set_option maxRecDepth 100000 in
theorem xcrash_any {base g : Nat} {L : List ByteArray} {Q : List (Nat × ByteArray)} {fp : List Nat} (pv : Value) (len : Nat) (pk : Nat → Bool) (t : Nat) (ht : t ≤ 1024) (hQ : Q.length ≤ 100000) (w : World) (h : XIs base g w L Q fp) (hp : PIs w pv len pk fp) :
    Calls Tryz.prog 82 #[.pointer (some ⟨g, 0, none⟩), pv, .int .i64 t] w fun e w' => e = .returned (.int .i64 0) ∧ XIs base g w' (crashL pk 0 t L Q) [] fp ∧ Only fp w w' := by
  have hlm := hp.big
  unfold maxLen at hlm
  have hn := h.n2
  have HH := hid h
  obtain ⟨⟨bl, qv, e1, e2, e3, m1, m2, m3⟩, n1, _, hok, hlo⟩ := h
  have hbg : bl ≠ g := fun e => by rw [e, e1] at e2; simp at e2
  have HE := hid (And.intro e1 (And.intro e2 (And.intro m1 (And.intro m2 hlo))))
  have HR := hid e3
  have HOK := hid hok
  have hrow := row62_ne (by decide) e3 e2
  have hlen : ∃ ao cap, qv = .slice ao Q.length cap := by
    obtain ⟨_, e | ⟨b, cap, cur, e, _⟩⟩ := e3
    · exact ⟨none, 0, by rw [e.2]; exact e.1⟩
    · exact ⟨_, cap, e⟩
  obtain ⟨ao, cap, rfl⟩ := hlen
  have HROW := hid hrow
  have hpv : ∃ pao pc, pv = .slice pao len pc ∧ Hid (∀ i, i < len → ∃ pb off, pao = some ⟨pb, off, none⟩ ∧ pb ∉ fp ∧ pb < w.heap.size ∧ w.cell? ⟨pb, off + i, none⟩ = some (.bool (pk i))) := hp.ex
  obtain ⟨pao, pc, rfl, HPK⟩ := hpv
  have HREST := hid hp.rest
  obtain ⟨c0, c1⟩ := two_cells e1
  have HC0 := hid c0
  clear e1 e2 e3 m1 m2 m3 hok hlo hrow hp
  go_enter Tryz.func82, Tryz.ntmps82
  go_wp2
  clear c0 c1
  go_loopw [7, 23] (fun x i wr => ∃ (j : Nat) (fs : Bool) (L' : List ByteArray), x = .bool fs ∧ i = .int .i64 j ∧ j ≤ Q.length ∧ wr.heap[bl]? = some (.cells (tc L').toArray 9 (0, 0)) ∧ L'.length = L.length ∧ Only [bl] w wr ∧ crashL pk j (if fs then t else 0) L' (Q.drop j) = crashL pk 0 t L Q) (fun _ i _ => Q.length - (intOf i).toNat)
  case atStart => exact ⟨0, true, L, rfl, rfl, Nat.zero_le _, HE.out.2.1, rfl, Only.refl _ _, rfl⟩
  case round =>
    obtain ⟨j, fs, L', rfl, rfl, hj, hbl, hL', hO, hcr⟩ := hrel
    rename World => wo
    have hg := (hO.block g (lt_of_block HE.out.1) (by simp [hbg.symm])).trans HE.out.1
    by_cases hlt : j < Q.length
    · obtain ⟨b, cap', hv, r0, r1⟩ := row62_at HR.out j hlt
      obtain ⟨rfl, rfl⟩ : ao = some ⟨b, 0, none⟩ ∧ cap = cap' := by cases hv; exact ⟨rfl, rfl⟩
      have hbb : w.heap[b]? = wo.heap[b]? := (hO.block b (HR.out.lt b rfl).2 (by simp; exact fun e => HROW.out (by rw [e]; rfl))).symm
      have q0 := (World.cell?_of_block hbb.symm).trans r0
      have q1 := (World.cell?_of_block hbb.symm).trans r1
      obtain ⟨hc1, hc2⟩ := HOK.out Q[j] (List.getElem_mem hlt)
      rw [drop_get Q j hlt, crashL_cons] at hcr
      obtain ⟨A, hA⟩ : ∃ A, A = Q[j].1 := ⟨_, rfl⟩
      obtain ⟨d, hd⟩ : ∃ d, d = Q[j].2 := ⟨_, rfl⟩
      rw [← hA] at q0 hc1 hcr
      rw [← hd] at q1 hc1 hc2 hcr
      have hq : ((d.size : Int).tdiv 128) = cnt d := by unfold cnt; rw [Int.tdiv_eq_ediv_of_nonneg (by omega)]; omega
      have hcd : cnt d * 128 ≤ d.size := by unfold cnt; omega
      have hN : (wo.alloc (.cells #[.int .i64 (A : Int), .string d] 146)).heap[bl]? = some (.cells (tc (setL L' A d 0)).toArray 9 (0, 0)) ∧ Only [bl] w (wo.alloc (.cells #[.int .i64 (A : Int), .string d] 146)) ∧ wo.heap.size < (wo.alloc (.cells #[.int .i64 (A : Int), .string d] 146)).heap.size ∧ (wo.alloc (.cells #[.int .i64 (A : Int), .string d] 146)).heap[wo.heap.size]? = some (.cells #[.int .i64 (A : Int), .string d] 146 (0, 0)) :=
        ⟨(Below.heap_alloc _ _ _ (lt_of_block hbl)).trans hbl, hO.trans (Only.of_below (fp := [bl]) (below_alloc _ _)) (fun x hx => .inl hx), by simp, by show (wo.heap.push _)[wo.heap.size]? = _; simp⟩
      have HN := hid hN
      have hblw := lt_of_block hbl
      have HCR := hid hcr
      obtain ⟨c, hc⟩ : ∃ c, c = cnt d := ⟨_, rfl⟩
      rw [← hc] at hq hc1 hcd HCR
      have HC := hid hc
      clear hA hd r0 r1 hv hcr hN hc hbl hbb hg
      have hpk : pk j = true ∧ (∃ pb off, pao = some ⟨pb, off, none⟩ ∧ j < len ∧ (wo.alloc (.cells #[.int .i64 (A : Int), .string d] 146)).cell? ⟨pb, off + j, none⟩ = some (.bool true)) ∨ pk j = false ∧ j < len ∧ (∃ pb off, pao = some ⟨pb, off, none⟩ ∧ (wo.alloc (.cells #[.int .i64 (A : Int), .string d] 146)).cell? ⟨pb, off + j, none⟩ = some (.bool false)) ∨ pk j = false ∧ ¬ j < len := by
        by_cases hjl : j < len
        · obtain ⟨pb, off, e, p1, p2, p3⟩ := HPK.out j hjl
          have hbp : wo.heap[pb]? = w.heap[pb]? := hO.block pb p2 (by simp; exact fun e => p1 (by rw [e]; exact HE.out.2.2.2.1))
          have p4 := (World.cell?_of_block ((Below.heap_alloc wo (.cells #[.int .i64 (A : Int), .string d] 146) pb (Nat.lt_of_lt_of_le p2 hO.size)).trans hbp)).trans p3
          cases hpj : pk j with
          | true => rw [hpj] at p4; exact .inl ⟨rfl, pb, off, e, hjl, p4⟩
          | false => rw [hpj] at p4; exact .inr (.inl ⟨rfl, hjl, pb, off, e, p4⟩)
        · exact .inr (.inr ⟨HREST.out j (by omega), hjl⟩)
      have HO := hid hO
      clear hO
      rcases hpk with ⟨hpj, pb, off, rfl, hjl, hpc⟩ | ⟨hpj, hjl, pb, off, rfl, hpc⟩ | ⟨hpj, hjl⟩
      · go_wp2
        go_loopw [11] (fun i wx => ∃ k : Nat, i = .int .i64 k ∧ k ≤ c ∧ wx.heap[bl]? = some (.cells (tc (setL L' A d k)).toArray 9 (0, 0)) ∧ Only [bl] w wx ∧ wo.heap.size < wx.heap.size ∧ wx.heap[wo.heap.size]? = some (.cells #[.int .i64 (A : Int), .string d] 146 (0, 0))) (fun i _ => c - (intOf i).toNat)
        case atStart => exact ⟨0, rfl, Nat.zero_le _, HN.out.1, HN.out.2.1, HN.out.2.2.1, HN.out.2.2.2⟩
        case round =>
          obtain ⟨k, rfl, hkm, hbl, hO2, hsz, hvr⟩ := hrel
          obtain ⟨v0, v1⟩ := two_cells hvr
          have hsl := setL_len L' A d k
          by_cases hk : k < c
          · have hlen2 : (k + 1) * 128 ≤ d.size := by omega
            have hgx := (hO2.block g (lt_of_block HE.out.1) (by simp [hbg.symm])).trans HE.out.1
            obtain ⟨c0, c1⟩ := two_cells hgx
            have hak : A + k < (setL L' A d k).length := by omega
            have ck := tc_cell hbl (A + k) hak
            have fk := tc_free hbl (A + k)
            have hbl3 := tc_set hbl (A + k) (piece d k)
            have HB3 := hid hbl3
            have HO3 := hid (hO2.trans (Only.setCell (fp := [bl]) (w := wr) (a := ⟨bl, A + k, none⟩) (.string (piece d k)) (by simp)) (fun x hx => .inl hx))
            have HV3 : Hid ((wr.setCell ⟨bl, A + k, none⟩ (.string (piece d k))).heap[wo.heap.size]? = some (.cells #[.int .i64 (A : Int), .string d] 146 (0, 0))) := (Below.heap_setCell _ _ _ _ (show wo.heap.size ≠ bl by omega)).trans hvr
            have HSZ3 : Hid (wo.heap.size < (wr.setCell ⟨bl, A + k, none⟩ (.string (piece d k))).heap.size) := by show _ < _; simpa [World.setCell] using hsz
            clear hbl3 hbl hO2 hgx hvr
            go_wp2
            go_region
            all_goals
              go_wp2
              go_roundw
              case rel => exact ⟨k + 1, by go_num, by omega, HB3.out, HO3.out.drew, HSZ3.out, HV3.out⟩
              case measure => simp [intOf]; omega
          · have hkk : k = c := by omega
            have HPJ := hid hpj
            have HKK := hid hkk
            clear hpj hkk
            go_wp2
            go_roundw
            case rel => exact ⟨j + 1, fs, setL L' A d k, rfl, by go_num, by omega, hbl, hsl.trans hL', hO2, by rw [← HCR.out, HPJ.out]; rw [HKK.out]; rfl⟩
            case measure => simp [intOf]; omega
      · cases fs with
        | true =>
          go_wp2
          go_loopw [11] (fun i wx => ∃ k : Nat, i = .int .i64 k ∧ k ≤ (min t c) ∧ wx.heap[bl]? = some (.cells (tc (setL L' A d k)).toArray 9 (0, 0)) ∧ Only [bl] w wx ∧ wo.heap.size < wx.heap.size ∧ wx.heap[wo.heap.size]? = some (.cells #[.int .i64 (A : Int), .string d] 146 (0, 0))) (fun i _ => (min t c) - (intOf i).toNat)
          case atStart => exact ⟨0, rfl, Nat.zero_le _, HN.out.1, HN.out.2.1, HN.out.2.2.1, HN.out.2.2.2⟩
          case round =>
            obtain ⟨k, rfl, hkm, hbl, hO2, hsz, hvr⟩ := hrel
            obtain ⟨v0, v1⟩ := two_cells hvr
            have hsl := setL_len L' A d k
            by_cases hk : k < t ∧ k < c
            · have hlen2 : (k + 1) * 128 ≤ d.size := by omega
              have hgx := (hO2.block g (lt_of_block HE.out.1) (by simp [hbg.symm])).trans HE.out.1
              obtain ⟨c0, c1⟩ := two_cells hgx
              have hak : A + k < (setL L' A d k).length := by omega
              have ck := tc_cell hbl (A + k) hak
              have fk := tc_free hbl (A + k)
              have hbl3 := tc_set hbl (A + k) (piece d k)
              have HB3 := hid hbl3
              have HO3 := hid (hO2.trans (Only.setCell (fp := [bl]) (w := wr) (a := ⟨bl, A + k, none⟩) (.string (piece d k)) (by simp)) (fun x hx => .inl hx))
              have HV3 : Hid ((wr.setCell ⟨bl, A + k, none⟩ (.string (piece d k))).heap[wo.heap.size]? = some (.cells #[.int .i64 (A : Int), .string d] 146 (0, 0))) := (Below.heap_setCell _ _ _ _ (show wo.heap.size ≠ bl by omega)).trans hvr
              have HSZ3 : Hid (wo.heap.size < (wr.setCell ⟨bl, A + k, none⟩ (.string (piece d k))).heap.size) := by show _ < _; simpa [World.setCell] using hsz
              clear hbl3 hbl hO2 hgx hvr
              go_wp2
              go_region
              all_goals
                go_wp2
                go_roundw
                case rel => exact ⟨k + 1, by go_num, by omega, HB3.out, HO3.out.drew, HSZ3.out, HV3.out⟩
                case measure => simp [intOf]; omega
            · have hkk : k = min t c := by omega
              have HPJ := hid hpj
              have HKK := hid hkk
              clear hpj hkk
              by_cases hk1 : k < t
              · have hk2 : ¬ k < c := by omega
                go_wp2
                go_roundw
                case rel => exact ⟨j + 1, false, setL L' A d k, rfl, by go_num, by omega, hbl, hsl.trans hL', hO2, by rw [← HCR.out, HPJ.out]; rw [HKK.out]; rfl⟩
                case measure => simp [intOf]; omega
              · go_wp2
                go_roundw
                case rel => exact ⟨j + 1, false, setL L' A d k, rfl, by go_num, by omega, hbl, hsl.trans hL', hO2, by rw [← HCR.out, HPJ.out]; rw [HKK.out]; rfl⟩
                case measure => simp [intOf]; omega
        | false =>
          go_wp2
          go_loopw [11] (fun i wx => ∃ k : Nat, i = .int .i64 k ∧ k ≤ 0 ∧ wx.heap[bl]? = some (.cells (tc (setL L' A d k)).toArray 9 (0, 0)) ∧ Only [bl] w wx ∧ wo.heap.size < wx.heap.size ∧ wx.heap[wo.heap.size]? = some (.cells #[.int .i64 (A : Int), .string d] 146 (0, 0))) (fun i _ => 0 - (intOf i).toNat)
          case atStart => exact ⟨0, rfl, Nat.zero_le _, HN.out.1, HN.out.2.1, HN.out.2.2.1, HN.out.2.2.2⟩
          case round =>
            obtain ⟨k, rfl, hkm, hbl, hO2, hsz, hvr⟩ := hrel
            obtain ⟨v0, v1⟩ := two_cells hvr
            have hsl := setL_len L' A d k
            have hkk : k = min 0 c := by omega
            have HPJ := hid hpj
            have HKK := hid hkk
            clear hpj hkk
            have hk0 : k = 0 := by omega
            have HK0 := hid hk0
            go_wp2
            go_roundw
            case rel => exact ⟨j + 1, false, setL L' A d k, rfl, by go_num, by omega, hbl, hsl.trans hL', hO2, by rw [← HCR.out, HPJ.out]; rw [HKK.out]; rfl⟩
            case measure => simp [intOf]; omega
      · cases fs with
        | true =>
          go_wp2
          go_loopw [11] (fun i wx => ∃ k : Nat, i = .int .i64 k ∧ k ≤ (min t c) ∧ wx.heap[bl]? = some (.cells (tc (setL L' A d k)).toArray 9 (0, 0)) ∧ Only [bl] w wx ∧ wo.heap.size < wx.heap.size ∧ wx.heap[wo.heap.size]? = some (.cells #[.int .i64 (A : Int), .string d] 146 (0, 0))) (fun i _ => (min t c) - (intOf i).toNat)
          case atStart => exact ⟨0, rfl, Nat.zero_le _, HN.out.1, HN.out.2.1, HN.out.2.2.1, HN.out.2.2.2⟩
          case round =>
            obtain ⟨k, rfl, hkm, hbl, hO2, hsz, hvr⟩ := hrel
            obtain ⟨v0, v1⟩ := two_cells hvr
            have hsl := setL_len L' A d k
            by_cases hk : k < t ∧ k < c
            · have hlen2 : (k + 1) * 128 ≤ d.size := by omega
              have hgx := (hO2.block g (lt_of_block HE.out.1) (by simp [hbg.symm])).trans HE.out.1
              obtain ⟨c0, c1⟩ := two_cells hgx
              have hak : A + k < (setL L' A d k).length := by omega
              have ck := tc_cell hbl (A + k) hak
              have fk := tc_free hbl (A + k)
              have hbl3 := tc_set hbl (A + k) (piece d k)
              have HB3 := hid hbl3
              have HO3 := hid (hO2.trans (Only.setCell (fp := [bl]) (w := wr) (a := ⟨bl, A + k, none⟩) (.string (piece d k)) (by simp)) (fun x hx => .inl hx))
              have HV3 : Hid ((wr.setCell ⟨bl, A + k, none⟩ (.string (piece d k))).heap[wo.heap.size]? = some (.cells #[.int .i64 (A : Int), .string d] 146 (0, 0))) := (Below.heap_setCell _ _ _ _ (show wo.heap.size ≠ bl by omega)).trans hvr
              have HSZ3 : Hid (wo.heap.size < (wr.setCell ⟨bl, A + k, none⟩ (.string (piece d k))).heap.size) := by show _ < _; simpa [World.setCell] using hsz
              clear hbl3 hbl hO2 hgx hvr
              go_wp2
              go_region
              all_goals
                go_wp2
                go_roundw
                case rel => exact ⟨k + 1, by go_num, by omega, HB3.out, HO3.out.drew, HSZ3.out, HV3.out⟩
                case measure => simp [intOf]; omega
            · have hkk : k = min t c := by omega
              have HPJ := hid hpj
              have HKK := hid hkk
              clear hpj hkk
              by_cases hk1 : k < t
              · have hk2 : ¬ k < c := by omega
                go_wp2
                go_roundw
                case rel => exact ⟨j + 1, false, setL L' A d k, rfl, by go_num, by omega, hbl, hsl.trans hL', hO2, by rw [← HCR.out, HPJ.out]; rw [HKK.out]; rfl⟩
                case measure => simp [intOf]; omega
              · go_wp2
                go_roundw
                case rel => exact ⟨j + 1, false, setL L' A d k, rfl, by go_num, by omega, hbl, hsl.trans hL', hO2, by rw [← HCR.out, HPJ.out]; rw [HKK.out]; rfl⟩
                case measure => simp [intOf]; omega
        | false =>
          go_wp2
          go_loopw [11] (fun i wx => ∃ k : Nat, i = .int .i64 k ∧ k ≤ 0 ∧ wx.heap[bl]? = some (.cells (tc (setL L' A d k)).toArray 9 (0, 0)) ∧ Only [bl] w wx ∧ wo.heap.size < wx.heap.size ∧ wx.heap[wo.heap.size]? = some (.cells #[.int .i64 (A : Int), .string d] 146 (0, 0))) (fun i _ => 0 - (intOf i).toNat)
          case atStart => exact ⟨0, rfl, Nat.zero_le _, HN.out.1, HN.out.2.1, HN.out.2.2.1, HN.out.2.2.2⟩
          case round =>
            obtain ⟨k, rfl, hkm, hbl, hO2, hsz, hvr⟩ := hrel
            obtain ⟨v0, v1⟩ := two_cells hvr
            have hsl := setL_len L' A d k
            have hkk : k = min 0 c := by omega
            have HPJ := hid hpj
            have HKK := hid hkk
            clear hpj hkk
            have hk0 : k = 0 := by omega
            have HK0 := hid hk0
            go_wp2
            go_roundw
            case rel => exact ⟨j + 1, false, setL L' A d k, rfl, by go_num, by omega, hbl, hsl.trans hL', hO2, by rw [← HCR.out, HPJ.out]; rw [HKK.out]; rfl⟩
            case measure => simp [intOf]; omega
    · have hjm : j = Q.length := by omega
      subst hjm
      rw [List.drop_length, crashL_end] at hcr
      subst hcr
      obtain ⟨c0, c1⟩ := two_cells hg
      have f1 := two_free hg 1
      have HG := hid hg
      have HBL := hid hbl
      have HO := hid hO
      clear hg hbl hO
      go_wp2
      go_ret
      have hX := HH.out
      have hOO := HO.out
      obtain ⟨e1, e2, m1, m2, hlo⟩ := HE.out
      have hO4 : Only fp w wo := ⟨hOO.os, hOO.tape, hOO.output, hOO.size, fun k hk hn => hOO.block k hk (by simp; exact fun e => hn (by rw [e]; exact m2))⟩
      have hsz : ∀ v, (wo.setCell ⟨g, 1, none⟩ v).heap.size = wo.heap.size := fun v => by simp [World.setCell]
      refine ⟨rfl, ⟨⟨bl, .slice none 0 0, ?_, ?_, World.ownsRow_nil _ _ _ _, m1, m2, (fun b e => by cases e)⟩, by omega, by omega, (fun q hq => by cases hq), fun k hk => ?_⟩, hO4.trans (Only.setCell (fp := fp) (w := wo) (a := ⟨g, 1, none⟩) _ m1) (fun x hx => .inl hx)⟩
      · rw [hL']; exact two_set1 HG.out
      · exact (Below.heap_setCell _ _ _ _ hbg).trans HBL.out
      · rw [hsz]
        have := hlo k hk
        have := hOO.size
        omega
end Go.Proofs.YtopebghandojbaaGreat.Dv
namespace Go.Proofs.YtopebghandojbaaGreat.Dv
open Go.RowKit Go.Maps

theorem Tryz.info4 : (Tryz.prog.info? 4).map (fun i => (i.zero, i.size, i.bytes)) = some (some (.bool false), 1, 1) := by kernel_rfl
theorem rep_snoc (k : Bool) (m : Nat) : List.replicate m (Value.bool k) ++ [.bool k] = List.replicate (m + 1) (.bool k) := (List.replicate_succ').symm
/-- one true pick more, in a row of the call's own -/
theorem push_t {ops : Array Oper} {rest : List Oper} {o : Oper} {a : Act} {Q : Exit → Act → World → Prop} {w0 : World} (hgd : o.guard = none) (s x : Operand)
    (ho : o.op = .call { callee := .builtin .append, args := #[s, x], argTypes := #[70, 70] }) (base m : Nat) (pv : Value)
    (hs : a.eval s = pv) (hx : a.eval x = .slice (some ⟨w0.heap.size, 0, none⟩) 1 1) (hA : w0.ownsRow base 4 1 pv m (List.replicate m (.bool true))) (hn : m ≤ 1000000) (hbase : base ≤ w0.heap.size)
    (h : ∀ v' w', w'.ownsRow base 4 1 v' (m + 1) (List.replicate (m + 1) (.bool true)) → Below base w0 w' → wpList Tryz.prog ops Q rest (a.put o.dst v') w') :
    wpList Tryz.prog ops Q (o :: rest) a (w0.alloc (.cells #[.bool true] 4)) := by
  obtain ⟨i0, hi, hz0, hz1, hz2⟩ := info_parts Tryz.info4
  refine wpList_append_own_at _ hgd s x 70 ho base 4 i0 (.bool false) 1 1 Tryz.underlying70 hi hz0 hz1 hz2 rfl (by decide) pv m _ hs (hA.alloc _) ⟨w0.heap.size, 0, none⟩ 1 1 [.bool true] hx rfl ?_ ?_ ?_ ?_ ?_ ?_
  · intro j u hj
    match j, hj with
    | 0, hj => simp at hj; subst hj; simp [Addr.add]
  · intro u hu; simp at hu; subst hu; rfl
  · unfold maxLen; omega
  · omega
  · simp; omega
  · intro v' w' g1 g2 _ g4
    have hsz : (w0.alloc (.cells #[.bool true] 4)).heap.size = w0.heap.size + 1 := by simp
    have hs2 := g2.size
    have hblk : ∀ b, b < w0.heap.size → pv.ownBlock ≠ some b → w'.heap[b]? = w0.heap[b]? := fun b hb hne => (g2.block b (by omega) (fun e => hne e.symm)).trans (Below.heap_alloc _ _ _ hb)
    exact h v' w' (by rw [← rep_snoc]; exact g1) ⟨g2.os, g2.tape, g2.output, by omega, fun b hb => hblk b (by omega) (fun e => by have := (hA.lt b e).1; omega)⟩
theorem row_picks {w : World} {base m : Nat} {pv : Value} {fp : List Nat} (hm : m ≤ 1000000) (h4 : w.ownsRow base 4 1 pv m (List.replicate m (.bool true))) (h5 : ∀ b, pv.ownBlock = some b → b ∉ fp) : PIs w pv m (fun i => if i < m then true else false) fp := by
  refine ⟨?_, by unfold maxLen; omega, fun i hi => if_neg (by omega)⟩
  have hh := h4
  obtain ⟨e1, ⟨rfl, rfl⟩ | ⟨b, cap, cur, rfl, e3, e4, e5, e6, e7, e8⟩⟩ := hh
  · exact ⟨none, 0, rfl, fun i hi => by omega⟩
  · refine ⟨_, cap, rfl, fun i hi => ⟨b, 0, rfl, h5 b rfl, lt_of_block e4, ?_⟩⟩
    have hc : cur.toList[i]? = some (.bool true) := by
      have h9 : (cur.toList.take (m * 1))[i]? = some (.bool true) := by rw [e8]; simp [hi]
      rw [List.getElem?_take_of_lt (by omega)] at h9
      exact h9
    simp only [World.cell?, e4]
    simpa [hi] using hc
set_option maxRecDepth 100000 in
theorem xflush_any {base g : Nat} {L : List ByteArray} {Q : List (Nat × ByteArray)} {fp : List Nat} (hQ : Q.length ≤ 100000) (w : World) (h : XIs base g w L Q fp) :
    Calls Tryz.prog 32 #[.pointer (some ⟨g, 0, none⟩)] w fun e w' => e = .returned (.tuple #[]) ∧ XIs base g w' (crashL (fun i => if i < Q.length then true else false) 0 0 L Q) [] fp ∧ Only fp w w' := by
  have HH := hid h
  obtain ⟨⟨bl, qv, e1, e2, e3, m1, m2, m3⟩, n1, _, hok, hlo⟩ := h
  have hlen : ∃ ao cap, qv = .slice ao Q.length cap := by
    obtain ⟨_, e | ⟨b, cap, cur, e, _⟩⟩ := e3
    · exact ⟨none, 0, by rw [e.2]; exact e.1⟩
    · exact ⟨_, cap, e⟩
  obtain ⟨ao, cap, rfl⟩ := hlen
  have HE := hid e1
  have HLO := hid hlo
  clear e1 e2 e3 m1 m2 m3 hok hlo
  go_enter Tryz.func32, Tryz.ntmps32
  go_wp2
  go_loopw [2, 3] (fun v i wr => ∃ j : Nat, i = .int .i64 j ∧ j ≤ Q.length ∧ wr.ownsRow w.heap.size 4 1 v j (List.replicate j (.bool true)) ∧ Below w.heap.size w wr) (fun _ i _ => Q.length - (intOf i).toNat)
  case atStart => exact ⟨0, rfl, Nat.zero_le _, World.ownsRow_nil _ _ _ _, Below.refl _ _⟩
  case round =>
    rename_i v _
    obtain ⟨j, rfl, hj, hown, hb⟩ := hrel
    have hg := (hb.block g (lt_of_block HE.out)).trans HE.out
    obtain ⟨c0, c1⟩ := two_cells hg
    have hsz := hb.size
    clear hg
    by_cases hlt : j < Q.length
    · go_wp2_with (first | (at_builtin; refine push_t rfl (.tmp 13) (.tmp 14) rfl w.heap.size j _ rfl rfl hown (by omega) hsz ?_; intro v' w' hown' hb'))
      go_roundw
      case rel => exact ⟨j + 1, by go_num, by omega, hown', hb.trans hb'⟩
      case measure => simp [intOf]; omega
    · have hjm : j = Q.length := by omega
      subst hjm
      have hX := HH.out.below hb
      have hP := row_picks (fp := fp) (by omega) hown (fun b e hm => by have := (HLO.out b hm).2; have := (hown.lt b e).1; omega)
      have HCR := hid (xcrash_any _ _ _ 0 (by omega) hQ _ hX hP)
      clear hX hP
      go_wp2_with (first | (go_at_call 82; refine HCR.out.mono ?_; rintro e w2 ⟨rfl, hX2, hO2⟩))
      go_end0
      exact ⟨rfl, hX2, (Only.of_below (fp := fp) hb).trans hO2 (fun x hx => .inl hx)⟩
end Go.Proofs.YtopebghandojbaaGreat.Dv
namespace Go.Proofs.YtopebghandojbaaGreat.Dv
open Go.RowKit Go.Maps

/-- what lasts, as the device has it and as the reference has it -/
def RelL (f : Nat → Option ByteArray) (L : List ByteArray) : Prop := ∀ k, k < L.length → L[k]? = some ((f k).getD ByteArray.empty) ∧ ∀ s, f k = some s → s.size ≠ 0
theorem RelL.xb {f : Nat → Option ByteArray} {L : List ByteArray} (h : RelL f L) (k : Nat) (hk : k < L.length) : xb L[k] = (f k).getD Z := by
  obtain ⟨h1, h2⟩ := h k hk
  rw [List.getElem?_eq_getElem hk] at h1
  have h3 := Option.some.inj h1
  rw [h3]
  unfold Dv.xb
  cases hf : f k with
  | none => rfl
  | some s => exact if_neg (h2 s hf)
theorem RelL.new (n : Nat) : RelL (fun _ => none) (List.replicate n ByteArray.empty) := fun k hk => ⟨by rw [List.getElem?_eq_getElem hk]; simp, fun s e => by cases e⟩
theorem piece_ne (d : ByteArray) (m : Nat) (h : m < cnt d) : (piece d m).size ≠ 0 := by
  unfold piece
  unfold cnt at h
  rw [ByteArray.size_extract]
  omega
theorem RelL.upd {f : Nat → Option ByteArray} {L : List ByteArray} (h : RelL f L) (a : Nat) (s : ByteArray) (hs : s.size ≠ 0) : RelL (upd f a s) (L.set a s) := by
  intro k hk
  rw [List.length_set] at hk
  obtain ⟨h1, h2⟩ := h k hk
  unfold Dv.upd
  by_cases e : k = a
  · subst e
    simp [hk]
    exact fun e => hs (by rw [e]; rfl)
  · rw [List.getElem?_set_ne (fun x => e x.symm)]
    simp only [e, if_false]
    exact ⟨h1, h2⟩
theorem RelL.over {f : Nat → Option ByteArray} {L : List ByteArray} (h : RelL f L) (a : Nat) (d : ByteArray) : ∀ m, m ≤ cnt d → RelL (over f a d m) (setL L a d m)
  | 0, _ => by rw [over_zero]; exact h
  | m + 1, hm => by
    rw [← over_succ]
    exact (RelL.over h a d m (by omega)).upd _ _ (piece_ne d m (by omega))
theorem RelL.crash (pk : Nat → Bool) : ∀ (Q : List (Nat × ByteArray)) (i t : Nat) (f : Nat → Option ByteArray) (L : List ByteArray), RelL f L → RelL (crashFrom pk i t f Q) (crashL pk i t L Q)
  | [], i, t, f, L, h => by rw [crash_end, crashL_end]; exact h
  | q :: Q, i, t, f, L, h => by
    rw [crash_cons, crashL_cons]
    split
    · exact RelL.crash pk Q _ _ _ _ (h.over _ _ _ (Nat.le_refl _))
    · exact RelL.crash pk Q _ _ _ _ (h.over _ _ _ (Nat.min_le_right _ _))
theorem crash_all (pk : Nat → Bool) : ∀ (Q : List (Nat × ByteArray)) (i t : Nat) (f : Nat → Option ByteArray), (∀ j, i ≤ j → j < i + Q.length → pk j = true) → crashFrom pk i t f Q = seen f Q
  | [], i, t, f, _ => by rw [crash_end]; rfl
  | q :: Q, i, t, f, h => by
    rw [crash_cons, if_pos (h i (Nat.le_refl _) (by simp)), crash_all pk Q (i + 1) t _ (fun j h1 h2 => h j (by omega) (by simp; omega))]
    rfl
/-- the document's device, as what is flushed and what waits -/
def XD (base g : Nat) (w : World) (n : Nat) (f : Nat → Option ByteArray) (Q : List (Nat × ByteArray)) (fp : List Nat) : Prop := ∃ L, XIs base g w L Q fp ∧ L.length = n ∧ RelL f L
theorem XD.other {base g n : Nat} {w w' : World} {f : Nat → Option ByteArray} {Q : List (Nat × ByteArray)} {fp fp' : List Nat} (h : XD base g w n f Q fp) (k : Only fp' w w') (hd : ∀ x ∈ fp, x ∉ fp') : XD base g w' n f Q fp := by
  obtain ⟨L, h1, h2⟩ := h
  exact ⟨L, h1.other k hd, h2⟩
theorem XD.below {base g n : Nat} {w w' : World} {f : Nat → Option ByteArray} {Q : List (Nat × ByteArray)} {fp : List Nat} (h : XD base g w n f Q fp) (k : Below w.heap.size w w') : XD base g w' n f Q fp := by
  obtain ⟨L, h1, h2⟩ := h
  exact ⟨L, h1.below k, h2⟩
theorem XD.lo {base g n : Nat} {w : World} {f : Nat → Option ByteArray} {Q : List (Nat × ByteArray)} {fp : List Nat} (h : XD base g w n f Q fp) : ∀ k ∈ fp, base ≤ k ∧ k < w.heap.size := by
  obtain ⟨L, h1, h2⟩ := h
  exact h1.lo
/-- its blocks are of these types -/
theorem XD.tight {base g n : Nat} {w : World} {f : Nat → Option ByteArray} {Q : List (Nat × ByteArray)} {fp : List Nat} (h : XD base g w n f Q fp) : ∃ fp', (∀ b ∈ fp', b ∈ fp) ∧ XD base g w n f Q fp' ∧ g ∈ fp' ∧ ∀ b ∈ fp', ∃ cs t, w.heap[b]? = some (.cells cs t (0, 0)) ∧ (t = 58 ∨ t = 9 ∨ t = 146) := by
  obtain ⟨L, ⟨⟨bl, qv, h1, h2, h3, m1, m2, m3⟩, h6, h7, h8, h9⟩, h10⟩ := h
  have hsub : ∀ b ∈ g :: bl :: qv.ownBlock.toList, b ∈ fp := by
    intro b hb
    simp only [List.mem_cons, Option.mem_toList] at hb
    rcases hb with rfl | rfl | hb
    · exact m1
    · exact m2
    · exact m3 b hb
  refine ⟨g :: bl :: qv.ownBlock.toList, hsub, ⟨L, ⟨⟨bl, qv, h1, h2, h3, by simp, by simp, fun b hb => by simp [hb]⟩, h6, h7, h8, fun b hb => h9 b (hsub b hb)⟩, h10⟩, by simp, ?_⟩
  intro b hb
  simp only [List.mem_cons, Option.mem_toList] at hb
  rcases hb with rfl | rfl | hb
  · exact ⟨_, _, h1, .inl rfl⟩
  · exact ⟨_, _, h2, .inr (.inl rfl)⟩
  · obtain ⟨_, e2 | ⟨x, cap, cur, e3, e4, e5, _⟩⟩ := h3
    · rw [e2.1] at hb; cases hb
    · rw [e3] at hb; cases hb
      exact ⟨_, _, e5, .inr (.inr rfl)⟩
theorem XD.write {base g n : Nat} {f : Nat → Option ByteArray} {Q : List (Nat × ByteArray)} {fp : List Nat} (a : Nat) (d : ByteArray) (hd : d.size = 128) (hn : a < n) (hQ : Q.length ≤ 100000) (w : World) (h : XD base g w n f Q fp) (hbase : base ≤ w.heap.size) :
    Calls Tryz.prog 30 #[.pointer (some ⟨g, 0, none⟩), .int .i64 a, .string d] w fun e w' => e = .returned (.int .i64 0) ∧ ∃ fp', XD base g w' n f (Q ++ [(a, d)]) fp' ∧ Only fp w w' ∧ ∀ k ∈ fp', k ∈ fp ∨ w.heap.size ≤ k := by
  obtain ⟨L, h1, h2, h3⟩ := h
  refine (xwrite_ok a d (by omega) (by omega) (by omega) (by unfold cnt; omega) hQ w h1 hbase).mono ?_
  rintro e w' ⟨rfl, fp', k1, k2, k3⟩
  exact ⟨rfl, fp', ⟨L, k1, h2, h3⟩, k2, k3⟩
theorem XD.flush {base g n : Nat} {f : Nat → Option ByteArray} {Q : List (Nat × ByteArray)} {fp : List Nat} (hQ : Q.length ≤ 100000) (w : World) (h : XD base g w n f Q fp) :
    Calls Tryz.prog 32 #[.pointer (some ⟨g, 0, none⟩)] w fun e w' => e = .returned (.tuple #[]) ∧ XD base g w' n (seen f Q) [] fp ∧ Only fp w w' := by
  obtain ⟨L, h1, h2, h3⟩ := h
  refine (xflush_any hQ w h1).mono ?_
  rintro e w' ⟨rfl, k1, k2⟩
  refine ⟨rfl, ⟨_, k1, by rw [crashL_len]; exact h2, ?_⟩, k2⟩
  have := RelL.crash (fun i => if i < Q.length then true else false) Q 0 0 f L h3
  rw [crash_all _ Q 0 0 _ (fun j _ h2 => if_pos (by omega))] at this
  exact this
theorem XD.read {base g n : Nat} {f : Nat → Option ByteArray} {Q : List (Nat × ByteArray)} {fp : List Nat} (k : Nat) (hk : k < n) (hQ : Q.length ≤ 100000) (w : World) (h : XD base g w n f Q fp) :
    Calls Tryz.prog 26 #[.pointer (some ⟨g, 0, none⟩), .int .i64 k] w fun e w' => e = .returned (.tuple #[.string ((seen f Q k).getD Z), .int .i64 0]) ∧ Below w.heap.size w w' := by
  obtain ⟨L, h1, h2, h3⟩ := h
  have := xread_any k (by omega) hQ w h1
  rw [h3.xb k (by omega), ← seen_sees] at this
  exact this
theorem XD.read_none {base g n : Nat} {f : Nat → Option ByteArray} {Q : List (Nat × ByteArray)} {fp : List Nat} (a : Int) (ha : ¬ (0 ≤ a ∧ a < n)) (hQ : Q.length ≤ 100000) (w : World) (h : XD base g w n f Q fp) :
    Calls Tryz.prog 26 #[.pointer (some ⟨g, 0, none⟩), .int .i64 a] w fun e w' => e = .returned (.tuple #[.string ByteArray.empty, .int .i64 6]) ∧ Below w.heap.size w w' := by
  obtain ⟨L, h1, h2, h3⟩ := h
  exact xread_none a (by omega) hQ w h1
theorem xd_new (n : Nat) (h1 : 1 ≤ n) (h2 : n ≤ 1024) (base : Nat) (w : World) (hb : base ≤ w.heap.size) :
    Calls Tryz.prog 28 #[.int .i64 n] w fun e w' => e = .returned (.tuple #[.pointer (some ⟨w.heap.size + 1, 0, none⟩), .int .i64 0]) ∧ XD base (w.heap.size + 1) w' n (fun _ => none) [] [w.heap.size, w.heap.size + 1] ∧ Below w.heap.size w w' := by
  refine (xnew_any n h1 h2 base w hb).mono ?_
  rintro e w' ⟨rfl, k1, k2⟩
  exact ⟨rfl, ⟨_, k1, by simp, RelL.new n⟩, k2⟩
end Go.Proofs.YtopebghandojbaaGreat.Dv
