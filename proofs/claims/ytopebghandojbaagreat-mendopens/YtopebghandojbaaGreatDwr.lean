import Derived.Test.YtopebghandojbaaGreatDdo
import Derived.Maps.AppendAt
namespace Go.Proofs.YtopebghandojbaaGreat.Dv
open Go.RowKit Go.Maps

set_option maxRecDepth 100000 in
theorem empty_ne {d : ByteArray} (h : d.size ≠ 0) : (d.toList == []) = false := by
  rw [Lib.toList_data]
  have := len_list d
  cases hd : d.data.toList with
  | nil => rw [hd] at this; simp at this; omega
  | cons a l => rfl
set_option maxRecDepth 100000 in
theorem size_zero {d : ByteArray} (h : d.size = 0) : d = ByteArray.empty := by
  apply ByteArray.ext
  apply Array.toList_inj.1
  have := len_list d
  rw [h] at this
  rw [List.eq_nil_of_length_eq_zero this]; rfl
set_option maxRecDepth 100000 in
theorem Tryz.info148 : (Tryz.prog.info? 148).map (fun i => (i.zero, i.size, i.bytes)) = some (some (.agg #[.int .i64 0, .string ⟨#[]⟩]), 2, 24) := by kernel_rfl
set_option maxRecDepth 100000 in
/-- one write more at the end of the row of a device's -/
theorem step_write {ops : Array Oper} {o : Oper} {a : Act} {w : World} {K : Act → World → Prop} {Q : Exit → Act → World → Prop} {E : Prop} (hg : o.guard = none) (s x : Operand)
    (hop : o.op = .call { callee := .builtin .append, args := #[s, x], argTypes := #[136, 136] }) (base : Nat) (v : Value) (l : List (Nat × ByteArray)) (p : Nat) (d : ByteArray)
    (hs : a.eval s = v) (g : Nat) (hx : a.eval x = .slice (some ⟨g, 0, none⟩) 1 1) (hc : w.heap[g]? = some (.cells #[.int .i64 (p : Int), .string d] 148 (0, 0))) (hown : w.ownsRow base 148 2 v l.length (wc l)) (hn : l.length ≤ 1000000) (hbase : base ≤ w.heap.size)
    (h : ∀ r cap w', w'.ownsRow base 148 2 (.slice (some ⟨r, 0, none⟩) (l.length + 1) cap) (l.length + 1) (wc (l ++ [(p, d)])) → w.grownBy w' v.ownBlock → (v.ownBlock = some r ∨ w.heap.size ≤ r) → K (a.put o.dst (.slice (some ⟨r, 0, none⟩) (l.length + 1) cap)) w') :
    if Region.wanted o (yielded ops a.tmps) = true then Oper.wp Tryz.prog o a w K Q else E := by
  have hw : Region.wanted o (yielded ops a.tmps) = true := by simp [Region.wanted, hg]
  rw [if_pos hw]
  obtain ⟨i0, hi, hz0, hz1, hz2⟩ := info_parts Tryz.info148
  obtain ⟨hc0, hc1⟩ := two_cells hc
  obtain ⟨v', w', hr, h1, h2, _, h5⟩ := run_append_own_at (P := Tryz.prog) w base 136 o.type 148 i0 _ 2 24 Tryz.underlying136 hi hz0 hz1 hz2 rfl (by decide) v l.length (wc l) hown ⟨g, 0, none⟩ 1 1 [.int .i64 (p : Int), .string d] rfl
    (by
      intro j u hj
      match j, hj with
      | 0, hj => simp at hj; subst hj; simpa [Addr.add] using hc0
      | 1, hj => simp at hj; subst hj; simpa [Addr.add] using hc1
      | j + 2, hj => simp at hj)
    (by intro u hu; simp at hu; rcases hu with rfl | rfl <;> rfl) (by unfold maxLen; omega) (by omega) hbase
  obtain ⟨r, cap, rfl⟩ : ∃ r cap, v' = .slice (some ⟨r, 0, none⟩) (l.length + 1) cap := by
    obtain ⟨_, e | ⟨g', cap, cur, e, _⟩⟩ := h1
    · exact absurd e.2 (by omega)
    · exact ⟨g', cap, e⟩
  unfold Oper.wp execOp
  simp only [hop, resolve, invoke, builtin, Sem.run_bind, Sem.run_pure, Result.andThen_ok, List.map_toArray, List.map_cons, List.map_nil, hs, hx, hr]
  refine h r cap w' (by rw [wc_append]; exact h1) h2 ?_
  rcases h5 with h5 | h5
  · exact .inl h5.symm
  · right
    have : r = w.heap.size := Option.some.inj h5
    omega

set_option maxRecDepth 100000 in
theorem row_ne {w : World} {base g n : Nat} {v : Value} {xs : List Value} {c : Array Value} (hr : w.ownsRow base 148 2 v n xs) (hg : w.heap[g]? = some (.cells c 138 (0, 0))) : v.ownBlock ≠ some g := by
  obtain ⟨_, h | ⟨b, cap, cur, rfl, _, hb, _⟩⟩ := hr
  · rw [h.1]; intro h; cases h
  · intro h
    cases h
    rw [hg] at hb
    simp at hb
set_option maxRecDepth 100000 in
theorem row_ne_map {w : World} {base g n : Nat} {v : Value} {xs : List Value} {es : Array MapEntry} {k : Nat} (hr : w.ownsRow base 148 2 v n xs) (hg : w.heap[g]? = some (.map es k)) : v.ownBlock ≠ some g := by
  obtain ⟨_, h | ⟨b, cap, cur, rfl, _, hb, _⟩⟩ := hr
  · rw [h.1]; intro h; cases h
  · intro h
    cases h
    rw [hg] at hb
    simp at hb
set_option maxRecDepth 100000 in
theorem row_same {w w' : World} {base n : Nat} {v : Value} {xs : List Value} (hr : w.ownsRow base 148 2 v n xs) (hb : ∀ b, v.ownBlock = some b → w'.heap[b]? = w.heap[b]?) : w'.ownsRow base 148 2 v n xs := by
  obtain ⟨e1, e2 | ⟨b, cap, cur, rfl, e3, e4, e5⟩⟩ := hr
  · exact ⟨e1, .inl e2⟩
  · exact ⟨e1, .inr ⟨b, cap, cur, rfl, e3, (hb b rfl).trans e4, e5⟩⟩
def rowFp (v : Value) : List Nat := match v.ownBlock with | some b => [b] | none => []
set_option maxRecDepth 100000 in
theorem mem_rowFp {v : Value} {b : Nat} : b ∈ rowFp v ↔ v.ownBlock = some b := by
  unfold rowFp
  cases v.ownBlock with
  | none => simp
  | some c => simp [eq_comm]
set_option maxRecDepth 100000 in
theorem seen_snoc (f : Nat → Option ByteArray) (Q : List (Nat × ByteArray)) (a : Nat) (d : ByteArray) : seen f (Q ++ [(a, d)]) = over (seen f Q) a d (cnt d) := by
  unfold seen; rw [List.foldl_append]; rfl
/-- between the two halves of a write -/
def Mid (base g N a : Nat) (d : ByteArray) (S : DS) (fp : List Nat) (w : World) (bl bf : Nat) (wx : World) (v : Value) : Prop :=
  wx.heap[g]? = some (.cells #[.int .i64 (S.n : Int), .map (some bl), .map (some bf), v] 138 (0, 0)) ∧ wx.ownsRow base 148 2 v (S.Q.length + 1) (wc (S.Q ++ [(a, d)])) ∧ MIs bl wx N S.L ∧ MIs bf wx N (seen (fun _ => none) S.Q) ∧
    wx.heap[w.heap.size]? = some (.cells #[.int .i64 (a : Int), .string d] 148 (0, 0)) ∧ Only fp w wx ∧ (∀ b, v.ownBlock = some b → b ∈ fp ∨ w.heap.size ≤ b)
set_option maxRecDepth 100000 in
theorem write_mid {base g N : Nat} {S : DS} {fp : List Nat} {a : Nat} {d : ByteArray} {w w2 : World} {bl bf : Nat} {wv : Value} (h : DIs base g w N S fp) (hbw : Below w.heap.size w w2)
    (hvar : w2.heap[w.heap.size]? = some (.cells #[.int .i64 (a : Int), .string d] 148 (0, 0)))
    (e1 : w2.heap[g]? = some (.cells #[.int .i64 (S.n : Int), .map (some bl), .map (some bf), wv] 138 (0, 0))) (e3 : MIs bl w2 N S.L) (e4 : MIs bf w2 N (seen (fun _ => none) S.Q)) (e5 : w2.ownsRow base 148 2 wv S.Q.length (wc S.Q))
    (m1 : g ∈ fp) (m4 : ∀ b, wv.ownBlock = some b → b ∈ fp) (o : Obj) (r cap : Nat) (w3 : World)
    (hown3 : w3.ownsRow base 148 2 (.slice (some ⟨r, 0, none⟩) (S.Q.length + 1) cap) (S.Q.length + 1) (wc (S.Q ++ [(a, d)]))) (hgrow3 : ((w2.alloc o).drew).grownBy w3 wv.ownBlock) (hr3 : wv.ownBlock = some r ∨ ((w2.alloc o).drew).heap.size ≤ r) :
    Mid base g N a d S fp w bl bf (w3.setCell ⟨g, 3, none⟩ (.slice (some ⟨r, 0, none⟩) (S.Q.length + 1) cap)) (.slice (some ⟨r, 0, none⟩) (S.Q.length + 1) cap) := by
  have hz2 := hbw.size
  have HSZ : ((w2.alloc o).drew).heap.size = w2.heap.size + 1 := by show (w2.heap.push o).size = _; simp
  have hgl := lt_of_block e1
  have hne := row_ne e5 e1
  have hvl := lt_of_block hvar
  have hg3 : w3.heap[g]? = some (.cells #[.int .i64 (S.n : Int), .map (some bl), .map (some bf), wv] 138 (0, 0)) := (hgrow3.block g (by rw [HSZ]; omega) (fun e => hne e.symm)).trans ((Below.heap_alloc _ _ _ hgl).trans e1)
  obtain ⟨w4, hw4⟩ : ∃ w4, w4 = w3.setCell ⟨g, 3, none⟩ (.slice (some ⟨r, 0, none⟩) (S.Q.length + 1) cap) := ⟨_, rfl⟩
  rw [← hw4]
  have hrow : ∀ b, wv.ownBlock = some b → b < w.heap.size := fun b hb => (h.lo b (m4 b hb)).2
  have hold : ∀ k, k < w2.heap.size → k ≠ g → wv.ownBlock ≠ some k → w4.heap[k]? = w2.heap[k]? := fun k hk h5 h6 => by
    rw [hw4]
    exact (Below.heap_setCell _ _ _ _ h5).trans ((hgrow3.block k (by rw [HSZ]; omega) (fun e => h6 e.symm)).trans (Below.heap_alloc _ _ _ hk))
  have hg4 : w4.heap[g]? = some (.cells #[.int .i64 (S.n : Int), .map (some bl), .map (some bf), .slice (some ⟨r, 0, none⟩) (S.Q.length + 1) cap] 138 (0, 0)) := by rw [hw4]; exact four_set3 hg3
  have hrg : r ≠ g := fun e => by
    have := row_ne hown3 hg3
    rw [e] at this
    exact this rfl
  have hown4 : w4.ownsRow base 148 2 (.slice (some ⟨r, 0, none⟩) (S.Q.length + 1) cap) (S.Q.length + 1) (wc (S.Q ++ [(a, d)])) := row_same hown3 (fun b hb => by
    rw [hw4]
    have : r = b := Option.some.inj hb
    exact Below.heap_setCell _ _ _ _ (by rw [← this]; exact hrg.symm.symm))
  have hvar4 : w4.heap[w.heap.size]? = some (.cells #[.int .i64 (a : Int), .string d] 148 (0, 0)) := (hold _ hvl (fun e => by have := h.lt; omega) (fun e => by have := hrow _ e; omega)).trans hvar
  obtain ⟨esl, kl1, hml⟩ := e3.isMap
  obtain ⟨esf, kf1, hmf⟩ := e4.isMap
  have hbl : w4.heap[bl]? = w2.heap[bl]? := hold bl e3.lt (fun e => by rw [e, e1] at hml; cases hml) (row_ne_map e5 hml)
  have hbf : w4.heap[bf]? = w2.heap[bf]? := hold bf e4.lt (fun e => by rw [e, e1] at hmf; cases hmf) (row_ne_map e5 hmf)
  have hsz4 : w2.heap.size ≤ w4.heap.size := by
    have := hgrow3.size
    rw [HSZ] at this
    have e9 : w4.heap.size = w3.heap.size := by rw [hw4]; simp [World.setCell]
    omega
  refine ⟨hg4, hown4, e3.same hbl, e4.same hbf, hvar4, ⟨?_, ?_, ?_, by omega, fun k hk hn => ?_⟩, fun b hb => ?_⟩
  · rw [hw4]; exact hgrow3.os.trans hbw.os
  · rw [hw4]; exact hgrow3.tape.trans hbw.tape
  · rw [hw4]; exact hgrow3.output.trans hbw.output
  · exact (hold k (by omega) (fun e => hn (by rw [e]; exact m1)) (fun e => hn (m4 k e))).trans (hbw.block k hk)
  · have : r = b := Option.some.inj hb
    subst this
    rcases hr3 with e | e
    · exact .inl (m4 r e)
    · right; rw [HSZ] at e; omega
set_option maxRecDepth 100000 in
theorem undrew {w w' : World} (h : Below w.drew.heap.size w.drew w') : Below w.heap.size w w' := ⟨h.os, h.tape, h.output, h.size, h.block⟩
set_option maxRecDepth 100000 in
theorem write_end {base g N : Nat} {S : DS} {fp : List Nat} {a : Nat} {d : ByteArray} {w w4 w5 w6 : World} {bl bf : Nat} {v : Value} (h : DIs base g w N S fp) (hm : Mid base g N a d S fp w bl bf w4 v) (hb5 : Below w4.heap.size w4 w5)
    (m1 : g ∈ fp) (m2 : bl ∈ fp) (m3 : bf ∈ fp) (e2 : bl ≠ bf) (hM6 : MIs bf w6 (N + cnt d) (over (seen (fun _ => none) S.Q) a d (cnt d))) (hgr6 : w5.grownBy w6 (some bf)) (hn : a + cnt d ≤ S.n) (hd : d.size ≤ 1000000) :
    ∃ fp', DIs base g w6 (N + cnt d) ⟨S.n, S.L, S.Q ++ [(a, d)]⟩ fp' ∧ Only fp w w6 ∧ ∀ k ∈ fp', k ∈ fp ∨ w.heap.size ≤ k := by
  obtain ⟨hg4, hown, hML, hMF, hvar, hO, hr⟩ := hm
  obtain ⟨esf, kf1, hmf⟩ := hMF.isMap
  have hs5 := hb5.size
  have hs6 := hgr6.size
  have hO4 := hO.size
  have hgb : g ≠ bf := fun e => by rw [e, hmf] at hg4; cases hg4
  have hk : ∀ k, k < w4.heap.size → k ≠ bf → w6.heap[k]? = w4.heap[k]? := fun k hk hne => (hgr6.block k (by omega) (fun e => hne (Option.some.inj e))).trans (hb5.block k hk)
  have hrowlt := hown.lt
  refine ⟨g :: bl :: bf :: rowFp v, ⟨⟨bl, bf, v, (hk g (lt_of_block hg4) hgb).trans hg4, e2, (hML.same (hk bl hML.lt e2)).mono (by omega), by rw [seen_snoc]; exact hM6, ?_, by simp, by simp, by simp, fun b hb => ?_⟩, h.n1, h.n2, fun q hq => ?_, fun k hkk => ?_⟩, ?_, fun k hkk => ?_⟩
  · show w6.ownsRow base 148 2 v (S.Q ++ [(a, d)]).length (wc (S.Q ++ [(a, d)]))
    rw [List.length_append]
    exact row_same hown (fun b hb => hk b (hrowlt b hb).2 (fun e => row_ne_map hown hmf (by rw [← e]; exact hb)))
  · simp only [List.mem_cons]
    exact .inr (.inr (.inr (mem_rowFp.2 hb)))
  · rcases List.mem_append.1 hq with hq | hq
    · exact h.ok q hq
    · simp at hq
      subst hq
      exact ⟨hn, hd⟩
  · simp only [List.mem_cons] at hkk
    rcases hkk with rfl | rfl | rfl | hkk
    · have := h.lo _ m1; omega
    · have := h.lo _ m2; omega
    · have := h.lo _ m3; omega
    · have := hrowlt k (mem_rowFp.1 hkk); omega
  · refine (hO.trans (Only.of_below hb5) (fun x hx => .inl hx)).trans (Only.of_grown (fp := fp) hgr6 m3) (fun x hx => .inl hx)
  · simp only [List.mem_cons] at hkk
    rcases hkk with rfl | rfl | rfl | hkk
    · exact .inl m1
    · exact .inl m2
    · exact .inl m3
    · exact hr k (mem_rowFp.1 hkk)
set_option maxHeartbeats 4000000 in
set_option maxRecDepth 100000 in
theorem write_ok {base g N : Nat} {S : DS} {fp : List Nat} (a : Nat) (d : ByteArray) (h0 : d.size ≠ 0) (hm : d.size % 128 = 0) (hd : d.size ≤ 1000000) (hn : a + cnt d ≤ S.n) (hN : N ≤ 100000000) (hQ : S.Q.length ≤ 100000) (w : World) (h : DIs base g w N S fp) (hbase : base ≤ w.heap.size) :
    Calls Tryz.prog 29 #[.pointer (some ⟨g, 0, none⟩), .int .i64 a, .string d] w fun e w' => e = .returned (.int .i64 0) ∧ ∃ fp', DIs base g w' (N + cnt d) ⟨S.n, S.L, S.Q ++ [(a, d)]⟩ fp' ∧ Only fp w w' ∧ ∀ k ∈ fp', k ∈ fp ∨ w.heap.size ≤ k := by
  have h1 := empty_ne h0
  have h2 : (d.size : Int) % 128 = 0 := by omega
  have hc2 : cnt d ≤ 10000 := by unfold cnt; omega
  have hnn := h.n2
  have HS := hid (fun w => size_any a d (by omega) w)
  have HB := hid (fun w' (k : Below w.heap.size w w') => blocks_any w' (h.below k))
  have HH := hid h
  have HDO := hid (fun (b N : Nat) (f : Nat → Option ByteArray) (hN : N ≤ 1000000000) w h => do_any a d (cnt d) b N f (Nat.le_refl _) (by omega) (by omega) hN w h)
  obtain ⟨c, hcc⟩ : ∃ c, c = cnt d := ⟨_, rfl⟩
  rw [← hcc] at HS hc2 hn HDO ⊢
  have HC := hid hcc
  clear hcc h
  have h4 : ¬ (c : Int) > S.n - a := by omega
  go_enter Tryz.func29, Tryz.ntmps29
  go_wp2_with (first
    | (go_at_call 78; refine (HS.out _).mono ?_; rintro e w1 ⟨rfl, hb1⟩)
    | (go_at_call 50; refine (HB.out _ ((below_alloc w _).next hb1)).mono ?_; rintro e w2 ⟨rfl, rfl⟩))
  have hbw := (below_alloc w (.cells #[.int .i64 (a : Int), .string d] 148)).next hb1
  have hD2 := HH.out.below hbw
  have hz2 := hbw.size
  have hsz1 : (w.alloc (.cells #[.int .i64 (a : Int), .string d] 148)).heap.size = w.heap.size + 1 := by simp
  have hvar : w2.heap[w.heap.size]? = some (.cells #[.int .i64 (a : Int), .string d] 148 (0, 0)) := (hb1.block w.heap.size (by rw [hsz1]; omega)).trans (by show (w.heap.push _)[w.heap.size]? = _; simp)
  obtain ⟨⟨bl, bf, wv, e1, e2, e3, e4, e5, m1, m2, m3, m4⟩, n1, n2, hok, hlo⟩ := hD2
  obtain ⟨c0, c1, c2, c3⟩ := four_cells e1
  obtain ⟨v0, v1⟩ := two_cells hvar
  have hgl := lt_of_block e1
  have hne := row_ne e5 e1
  have hvl := lt_of_block hvar
  have hnew : ∀ o, ((w2.alloc o).drew).heap[w2.heap.size]? = some o := fun o => by show (w2.heap.push o)[w2.heap.size]? = _; simp
  have hszn : ∀ o, ((w2.alloc o).drew).heap.size = w2.heap.size + 1 := fun o => by show (w2.heap.push o).size = _; simp
  have HSZ := hid hszn
  have HNW := hid hnew
  have HBS : Hid (base ≤ w2.heap.size) := by show _ ≤ _; omega
  have HMID := hid (fun o r cap w3 => write_mid HH.out hbw hvar e1 e3 e4 e5 m1 m4 o r cap w3)
  have HHK := hid (And.intro m1 (And.intro m2 (And.intro m3 e2)))
  have HOK := hid hok
  have HLO := hid hlo
  clear hszn hnew hok hlo
  go_cut [] (fun wx => ∃ v, Mid base g N a d S fp w bl bf wx v)
  case first =>
    go_region_law (refine step_write rfl (.tmp 34) (.tmp 36) rfl base wv S.Q a d (by simp [Act.eval]) w2.heap.size (by simp [Act.eval]) (HNW.out _) (e5.alloc _) (by omega) (by rw [HSZ.out]; have := HBS.out; omega) ?_; intro r cap w3 hown3 hgrow3 hr3; have hg3 : w3.heap[g]? = some (.cells #[.int .i64 (S.n : Int), .map (some bl), .map (some bf), wv] 138 (0, 0)) := (hgrow3.block g (by rw [HSZ.out]; omega) (fun e => hne e.symm)).trans ((Below.heap_alloc _ _ _ hgl).trans e1); have f3 := four_free hg3 3; have k3 := (four_cells hg3).2.2.2)
    all_goals
      have hmid := HMID.out _ r cap w3 hown3 hgrow3 hr3
      go_wp2
      go_meet
      exact ⟨_, hmid⟩
  case rest =>
    obtain ⟨v, hmid⟩ := hcut
    rename World => w4
    have HV := hid hmid
    have hg4 := hmid.1
    have hMF := hmid.2.2.2.1
    have hvar4 := hmid.2.2.2.2.1
    clear hmid
    clear c0 c1 c2 c3 v0 v1 e1 e3 e4 e5 hvar hb1 hbw m1 m2 m3 m4 e2 hne hgl hvl HMID HNW HSZ hz2 hsz1 HB HBS
    obtain ⟨c0, c1, c2, c3⟩ := four_cells hg4
    obtain ⟨v0, v1⟩ := two_cells hvar4
    have HG4 := hid hg4
    have HV4 := hid hvar4
    have HMF := hid hMF
    clear hg4 hvar4 hMF
    go_wp2
    go_region_with (first
      | (go_at_call 78; refine (HS.out _).mono ?_; rintro e w5 ⟨rfl, hb5⟩; have hg5 : w5.heap[g]? = _ := (hb5.block g (lt_of_block HG4.out)).trans HG4.out; have hv5 : w5.heap[w.heap.size]? = _ := (hb5.block w.heap.size (lt_of_block HV4.out)).trans HV4.out; obtain ⟨k0, k1, k2, k3⟩ := four_cells hg5; obtain ⟨u0, u1⟩ := two_cells hv5; have hM5 : Hid (MIs bf w5 N (seen (fun _ => none) S.Q)) := HMF.out.same (hb5.block bf HMF.out.lt); clear hg5 hv5)
      | (go_at_call 79; refine (HDO.out bf N _ (by omega) _ hM5.out).mono ?_; rintro e w6 ⟨rfl, hM6, hgr6⟩))
    all_goals
      have hc := HC.out
      rw [hc] at hM6 hn
      have hend := write_end HH.out HV.out (undrew hb5) HHK.out.1 HHK.out.2.1 HHK.out.2.2.1 HHK.out.2.2.2 hM6 hgr6 hn hd
      have HEND := hid hend
      clear hend hM6 hgr6 hb5 hM5 hc
      go_wp2
      go_ret
      refine ⟨rfl, ?_⟩
      rw [HC.out]
      exact HEND.out
end Go.Proofs.YtopebghandojbaaGreat.Dv
