import Derived.Test.YtglhibmfbbbdiaaXr
namespace Go.Proofs.Ytglhibmfbbbdiaa
open Go.RowKit Go.Maps

theorem xwrite_form (p : Value) (a : Int) (d : ByteArray) (h : d.size = 0 ∨ d.size % 128 ≠ 0) (w : World) : Calls Try.prog 13 #[p, .int .i64 a, .string d] w fun e w' => e = .returned (.int .i64 4) ∧ w' = w := by
  by_cases h0 : d.size = 0
  · obtain rfl := size_zero h0
    clear h h0
    go_enter Try.func13, Try.ntmps13
    go_wp2
    go_ret
    exact ⟨rfl, rfl⟩
  · have h1 := empty_ne h0
    have h2 : ((d.size : Int) % 128 == 0) = false := by simp; omega
    clear h
    go_enter Try.func13, Try.ntmps13
    go_wp2
    go_ret
    exact ⟨rfl, rfl⟩
set_option maxRecDepth 100000 in
theorem xwrite_none {base g : Nat} {L : List ByteArray} {Q : List (Nat × ByteArray)} {fp : List Nat} (a : Int) (ha : -9223372036854775808 ≤ a ∧ a ≤ 9223372036854775807) (d : ByteArray) (h0 : d.size ≠ 0) (hm : d.size % 128 = 0) (hd : d.size ≤ 1000000) (hn : a < 0 ∨ (cnt d : Int) > L.length - a) (w : World) (h : XIs base g w L Q fp) :
    Calls Try.prog 13 #[.pointer (some ⟨g, 0, none⟩), .int .i64 a, .string d] w fun e w' => e = .returned (.int .i64 6) ∧ w' = w := by
  have h1 := empty_ne h0
  have h2 : (d.size : Int) % 128 = 0 := by omega
  have hc2 : cnt d ≤ 10000 := by unfold cnt; omega
  have hc1 : 1 ≤ cnt d := by unfold cnt; omega
  have hq : ((d.size : Int).tdiv 128) = cnt d := by unfold cnt; rw [Int.tdiv_eq_ediv_of_nonneg (by omega)]; omega
  have hnn := h.n2
  obtain ⟨⟨bl, qv, e1, _⟩, _⟩ := h
  obtain ⟨c0, c1⟩ := two_cells e1
  obtain ⟨c, hcc⟩ : ∃ c, c = cnt d := ⟨_, rfl⟩
  rw [← hcc] at hc2 hc1 hn hq
  clear hcc e1
  by_cases h3 : a < 0
  · go_enter Try.func13, Try.ntmps13
    go_wp2
    go_ret
    exact ⟨rfl, rfl⟩
  · by_cases h4 : a ≥ (L.length : Int)
    · go_enter Try.func13, Try.ntmps13
      go_wp2
      go_ret
      exact ⟨rfl, rfl⟩
    · have h5 : (c : Int) > L.length - a := by omega
      clear hn
      go_enter Try.func13, Try.ntmps13
      go_wp2
      go_ret
      exact ⟨rfl, rfl⟩
theorem two_set1 {w : World} {g : Nat} {a b v : Value} {t : Nat} (h : w.heap[g]? = some (.cells #[a, b] t (0, 0))) : (w.setCell ⟨g, 1, none⟩ v).heap[g]? = some (.cells #[a, v] t (0, 0)) := by
  have hlt := lt_of_block h
  have h' : w.heap[g] = .cells #[a, b] t (0, 0) := by simpa [Array.getElem?_eq_getElem hlt] using h
  show (w.heap.modify g _)[g]? = _
  rw [Array.getElem?_eq_getElem (by simpa using hlt), Array.getElem_modify_self, h']
  simp
theorem Try.info62 : (Try.prog.info? 62).map (fun i => (i.zero, i.size, i.bytes)) = some (some (.agg #[.int .i64 0, .string ⟨#[]⟩]), 2, 24) := by kernel_rfl
/-- one write more at the end of the reference's row -/
theorem push_w {ops : Array Oper} {rest : List Oper} {o : Oper} {a : Act} {Q : Exit → Act → World → Prop} {w0 : World} (hgd : o.guard = none) (s x : Operand)
    (ho : o.op = .call { callee := .builtin .append, args := #[s, x], argTypes := #[41, 41] }) (base : Nat) (v : Value) (l : List (Nat × ByteArray)) (p : Nat) (d : ByteArray)
    (hs : a.eval s = v) (hx : a.eval x = .slice (some ⟨w0.heap.size, 0, none⟩) 1 1) (hown : w0.ownsRow base 62 2 v l.length (wc l)) (hn : l.length ≤ 1000000) (hbase : base ≤ w0.heap.size)
    (h : ∀ r cap w', w'.ownsRow base 62 2 (.slice (some ⟨r, 0, none⟩) (l.length + 1) cap) (l.length + 1) (wc (l ++ [(p, d)])) → (∀ b, b < w0.heap.size → v.ownBlock ≠ some b → w'.heap[b]? = w0.heap[b]?) → w'.os = w0.os → w'.tape = w0.tape → w'.output = w0.output → w0.heap.size ≤ w'.heap.size → (v.ownBlock = some r ∨ w0.heap.size ≤ r) → wpList Try.prog ops Q rest (a.put o.dst (.slice (some ⟨r, 0, none⟩) (l.length + 1) cap)) w') :
    wpList Try.prog ops Q (o :: rest) a (w0.alloc (.cells #[.int .i64 (p : Int), .string d] 62)) := by
  obtain ⟨i0, hi, hz0, hz1, hz2⟩ := info_parts Try.info62
  refine wpList_append_own_at _ hgd s x 41 ho base 62 i0 _ 2 24 Try.underlying41 hi hz0 hz1 hz2 rfl (by decide) v l.length (wc l) hs (hown.alloc _) ⟨w0.heap.size, 0, none⟩ 1 1 [.int .i64 (p : Int), .string d] hx rfl ?_ ?_ ?_ ?_ ?_ ?_
  · intro i u hu
    match i, hu with
    | 0, hu => simp at hu; subst hu; simp [Addr.add]
    | 1, hu => simp at hu; subst hu; simp [Addr.add]
    | i + 2, hu => simp at hu
  · intro u hu
    simp at hu
    rcases hu with rfl | rfl <;> rfl
  · unfold maxLen; omega
  · omega
  · simp; omega
  · intro v' w' g1 g2 _ g4
    have hsz : ∀ o, (w0.alloc o).heap.size = w0.heap.size + 1 := fun o => by simp
    have hs2 := g2.size
    rw [hsz] at hs2
    have hblk : ∀ b, b < w0.heap.size → v.ownBlock ≠ some b → w'.heap[b]? = w0.heap[b]? := fun b hb hne => (g2.block b (by rw [hsz]; omega) (fun e => hne e.symm)).trans (Below.heap_alloc _ _ _ hb)
    obtain ⟨r, cap, rfl⟩ : ∃ r cap, v' = .slice (some ⟨r, 0, none⟩) (l.length + 1) cap := by
      obtain ⟨_, e | ⟨g', cap, cur, e, _⟩⟩ := g1
      · exact absurd e.2 (by omega)
      · exact ⟨g', cap, e⟩
    refine h r cap w' (by rw [wc_append]; exact g1) hblk g2.os g2.tape g2.output (by omega) ?_
    rcases g4 with g4 | g4
    · exact .inl g4.symm
    · right
      have : r = (w0.alloc (.cells #[.int .i64 (p : Int), .string d] 62)).heap.size := Option.some.inj g4
      rw [hsz] at this
      omega
theorem two_free {w : World} {g : Nat} {a b : Value} {t : TypeId} (h : w.heap[g]? = some (.cells #[a, b] t (0, 0))) (i : Nat) : w.frozen? ⟨g, i, none⟩ = false := by
  simp [World.frozen?, h]
theorem row62_ne {w : World} {base g n : Nat} {v : Value} {xs : List Value} {c : Array Value} {t : Nat} (ht : t ≠ 62) (hr : w.ownsRow base 62 2 v n xs) (hg : w.heap[g]? = some (.cells c t (0, 0))) : v.ownBlock ≠ some g := by
  obtain ⟨_, h | ⟨b, cap, cur, rfl, _, hb, _⟩⟩ := hr
  · rw [h.1]; intro h; cases h
  · intro h
    cases h
    rw [hg] at hb
    simp at hb
    exact ht hb.2
set_option maxRecDepth 100000 in
theorem xwrite_ok {base g : Nat} {L : List ByteArray} {Q : List (Nat × ByteArray)} {fp : List Nat} (a : Nat) (d : ByteArray) (h0 : d.size ≠ 0) (hm : d.size % 128 = 0) (hd : d.size ≤ 1000000) (hn : a + cnt d ≤ L.length) (hQ : Q.length ≤ 100000) (w : World) (h : XIs base g w L Q fp) (hbase : base ≤ w.heap.size) :
    Calls Try.prog 13 #[.pointer (some ⟨g, 0, none⟩), .int .i64 a, .string d] w fun e w' => e = .returned (.int .i64 0) ∧ ∃ fp', XIs base g w' L (Q ++ [(a, d)]) fp' ∧ Only fp w w' ∧ ∀ k ∈ fp', k ∈ fp ∨ w.heap.size ≤ k := by
  have h1 := empty_ne h0
  have h2 : (d.size : Int) % 128 = 0 := by omega
  have hc2 : cnt d ≤ 10000 := by unfold cnt; omega
  have hc1 : 1 ≤ cnt d := by unfold cnt; omega
  have hq : ((d.size : Int).tdiv 128) = cnt d := by unfold cnt; rw [Int.tdiv_eq_ediv_of_nonneg (by omega)]; omega
  have hnn := h.n2
  have HH := hid h
  obtain ⟨⟨bl, qv, e1, e2, e3, m1, m2, m3⟩, _⟩ := h
  have HE := hid (And.intro e1 (And.intro e2 (And.intro e3 (And.intro m1 (And.intro m2 m3)))))
  obtain ⟨c0, c1⟩ := two_cells e1
  obtain ⟨c, hcc⟩ : ∃ c, c = cnt d := ⟨_, rfl⟩
  rw [← hcc] at hc2 hc1 hn hq
  have HC := hid hcc
  clear hcc e1 e2 e3 m1 m2 m3
  have e3 := HE.out.2.2.1
  have k : ∀ (r cap : Nat) (w3 : World), w3.ownsRow base 62 2 (.slice (some ⟨r, 0, none⟩) (Q.length + 1) cap) (Q.length + 1) (wc (Q ++ [(a, d)])) → (∀ b, b < w.heap.size → qv.ownBlock ≠ some b → w3.heap[b]? = w.heap[b]?) → w3.os = w.os → w3.tape = w.tape → w3.output = w.output → w.heap.size ≤ w3.heap.size → (qv.ownBlock = some r ∨ w.heap.size ≤ r) →
      ∃ fp', XIs base g (w3.setCell ⟨g, 1, none⟩ (.slice (some ⟨r, 0, none⟩) (Q.length + 1) cap)) L (Q ++ [(a, d)]) fp' ∧ Only fp w (w3.setCell ⟨g, 1, none⟩ (.slice (some ⟨r, 0, none⟩) (Q.length + 1) cap)) ∧ ∀ k ∈ fp', k ∈ fp ∨ w.heap.size ≤ k := by
    intro r cap w3 g1 g2 g3 g4 g5 g6 g7
    obtain ⟨e1, e2, e3, m1, m2, m3⟩ := HE.out
    have hX := HH.out
    have hg3 : w3.heap[g]? = some (.cells #[.slice (some ⟨bl, 0, none⟩) L.length L.length, qv] 43 (0, 0)) := (g2 g (lt_of_block e1) (row62_ne (by decide) e3 e1)).trans e1
    have hrg : r ≠ g := fun e => row62_ne (by decide) g1 hg3 (by rw [e]; rfl)
    have hbg : bl ≠ g := fun e => by rw [e, e1] at e2; simp at e2
    have hsz : ∀ v, (w3.setCell ⟨g, 1, none⟩ v).heap.size = w3.heap.size := fun v => by simp [World.setCell]
    have hb4 : ∀ v, ∀ b, b ≠ g → (w3.setCell ⟨g, 1, none⟩ v).heap[b]? = w3.heap[b]? := fun v b hb => Below.heap_setCell _ _ _ _ hb
    have hr := g1.lt r rfl
    refine ⟨[g, bl, r], ⟨⟨bl, _, two_set1 hg3, (hb4 _ bl hbg).trans ((g2 bl (lt_of_block e2) (row62_ne (by decide) e3 e2)).trans e2), ?_, by simp, by simp, fun b hb => ?_⟩, hX.n1, hX.n2, fun q hq => ?_, fun k hk => ?_⟩, ⟨g3, g4, g5, by rw [hsz]; exact g6, fun k hk hn => ?_⟩, fun k hk => ?_⟩
    · rw [List.length_append]
      exact row62_same g1 (fun b hb => hb4 _ b (fun e => hrg ((Option.some.inj hb).trans e)))
    · have : r = b := Option.some.inj hb
      simp [this]
    · rcases List.mem_append.1 hq with hq | hq
      · exact hX.ok q hq
      · simp at hq
        subst hq
        exact ⟨by show a + cnt d ≤ L.length; rw [← HC.out]; exact hn, hd⟩
    · rw [hsz]
      simp at hk
      rcases hk with rfl | rfl | rfl
      · have := hX.lo _ m1; omega
      · have := hX.lo _ m2; omega
      · exact hr
    · exact (hb4 _ k (fun e => hn (by rw [e]; exact m1))).trans (g2 k hk (fun e => hn (m3 k e)))
    · simp at hk
      rcases hk with rfl | rfl | rfl
      · exact .inl m1
      · exact .inl m2
      · rcases g7 with g7 | g7
        · exact .inl (m3 _ g7)
        · exact .inr g7
  have HK := hid k
  have HF : Hid (∀ w3 : World, (∀ b, b < w.heap.size → qv.ownBlock ≠ some b → w3.heap[b]? = w.heap[b]?) → w3.heap[g]? = w.heap[g]?) := fun w3 h => h g (lt_of_block HE.out.1) (row62_ne (by decide) e3 HE.out.1)
  clear k
  go_enter Try.func13, Try.ntmps13
  go_wp2_with (first | (at_builtin; refine push_w rfl (.tmp 45) (.tmp 49) rfl base qv Q a d rfl rfl e3 (by omega) hbase ?_; intro r cap w3 g1 g2 g3 g4 g5 g6 g7; have hg3 := (HF.out w3 g2).trans HE.out.1; have f3 := two_free hg3 1; have k3 := (two_cells hg3).2; have HX := hid (HK.out r cap w3 g1 g2 g3 g4 g5 g6 g7); clear g1 g2 g3 g4 g5 g6 g7 hg3))
  go_ret
  exact ⟨rfl, HX.out⟩
end Go.Proofs.Ytglhibmfbbbdiaa
