import Derived.Test.YtabkfmmbjjchdaaTm
import Derived.Test.YtabkfmmbjjchdaaTl
namespace Go.Proofs.Ytabkfmmbjjchdaa
open Go.RowKit Go.Maps

set_option maxRecDepth 100000 in
set_option maxHeartbeats 2000000 in
theorem done_yes2 {g N b : Nat} {w : World} {L : List Kx} (h : TB g (some b) w N L) (hN : N < 1000000000000000) (c r : Int) (R : Rs) (hR : SLie w R.nv R.ns) (ho : okc c r = true) (hs : stt (at_ L c).n (at_ L c).d r = 2) : Calls Try.prog 10 #[.pointer (some ⟨g, 0, none⟩), .int .i64 c, .int .i64 r, R.v] w fun e w' => e = .returned (.int .i64 0) ∧ ∃ v', (∀ gb, gb < w.heap.size → v'.ownBlock ≠ some gb) ∧ TB g (some b) w' (N + 1) (withL L (mkK c r true { R with nv := v' })) ∧ KQ g (some b) w w' := by
  have hc := okc_in ho
  have HF := hid (fun (W : World) (hW : Below w.heap.size w W) => find_any (h.below hW) c hc)
  have HT := hid (fun (W : World) (hW : Below w.heap.size w W) => h.below hW)
  have HS := hid (fun W => state_any (at_ L c) r W)
  rw [hs] at HS
  obtain ⟨re, rt, ra, rb, rc, rnv, rns⟩ := R
  simp only at hR
  have HR := hid hR
  obtain ⟨ao, cap, rfl, _⟩ := hR
  have HC := hid (fun (W : World) (hW : Below w.heap.size w W) => copied_any (w := W) (x := ⟨re, rt, ra, rb, rc, .slice ao rns.length cap, rns⟩) (HR.out.below hW))
  simp only [Rs.v] at HC ⊢
  obtain ⟨nl, hnl⟩ : ∃ nl, nl = rns.length := ⟨_, rfl⟩
  rw [← hnl] at HC ⊢
  have hglt := h.lt
  have hblt := (h.map b rfl).lt
  have hgb := h.ne
  clear hs h hnl HR
  go_enter Try.func10, Try.ntmps10
  go_upto_region 9 with (first
    | (go_at_call 20; refine (isRight_any _ _ _).mono ?_; rintro e w' ⟨rfl, he⟩; have he := he.symm; subst he; rw [ho])
    | (go_at_call 21; refine (HF.out _ (below_alloc _ _)).mono ?_; rintro e w1 ⟨rfl, hb1⟩; have HX1 := hid ((show B32 w.heap.size (w.alloc (.cells #[.int .i64 re, .string rt, .int .i64 ra, .int .i64 rb, .int .i64 rc, .slice ao nl cap] 32)) ⟨re, rt, ra, rb, rc, .slice ao nl cap, rns⟩ from box_at _ _).below hb1 (by simp)); have HB1 := hid ((below_alloc w _).next hb1); clear hb1)
    | (go_at_call 22; refine (HS.out _).mono ?_; rintro e w2 ⟨rfl, hb2⟩; have HX2 := hid (HX1.out.below hb2 HX1.out.lt); have HB2 := hid (HB1.out.next hb2); have HT2 := hid (HT.out _ HB2.out); clear hb2))
  have c0 : w2.cell? ⟨g, 0, none⟩ = some (.map (some b)) := by simp [World.cell?, HT2.out.box]
  obtain ⟨m0, m1, m2, m3, m4, m5⟩ := HX2.out.cells
  simp only at m0 m1 m2 m3 m4 m5
  have hg2 := HT2.out.lt
  have hx2 := HX2.out.lt
  have HC2 := hid (HC.out w2.drew HB2.out.drew)
  have hne : g ≠ w.heap.size := by omega
  have HSS : Hid (∀ W, Below w2.heap.size w2 W → W.cell? ⟨g, 0, none⟩ = some (.map (some b)) ∧ W.cell? ⟨w.heap.size, 0, none⟩ = some (.int .i64 re) ∧ W.cell? ⟨w.heap.size, 1, none⟩ = some (.string rt) ∧ W.cell? ⟨w.heap.size, 2, none⟩ = some (.int .i64 ra) ∧ W.cell? ⟨w.heap.size, 3, none⟩ = some (.int .i64 rb) ∧ W.cell? ⟨w.heap.size, 4, none⟩ = some (.int .i64 rc) ∧ W.cell? ⟨w.heap.size, 5, none⟩ = some (.slice ao nl cap)) := hid fun W hW =>
    ⟨(hW.cell (p := ⟨g, 0, none⟩) hg2).trans c0, (hW.cell (p := ⟨w.heap.size, 0, none⟩) hx2).trans m0, (hW.cell (p := ⟨w.heap.size, 1, none⟩) hx2).trans m1, (hW.cell (p := ⟨w.heap.size, 2, none⟩) hx2).trans m2, (hW.cell (p := ⟨w.heap.size, 3, none⟩) hx2).trans m3, (hW.cell (p := ⟨w.heap.size, 4, none⟩) hx2).trans m4, (hW.cell (p := ⟨w.heap.size, 5, none⟩) hx2).trans m5⟩
  have hS1 := HSS.out w2 (Below.refl _ _)
  clear HC HF HS
  go_region_held3 (fun W => W.cell? ⟨g, 0, none⟩ = some (.map (some b)) ∧ W.cell? ⟨w.heap.size, 0, none⟩ = some (.int .i64 re) ∧ W.cell? ⟨w.heap.size, 1, none⟩ = some (.string rt) ∧ W.cell? ⟨w.heap.size, 2, none⟩ = some (.int .i64 ra) ∧ W.cell? ⟨w.heap.size, 3, none⟩ = some (.int .i64 rb) ∧ W.cell? ⟨w.heap.size, 4, none⟩ = some (.int .i64 rc) ∧ W.cell? ⟨w.heap.size, 5, none⟩ = some (.slice ao nl cap)) (first | exact hS1 | exact hS4 | exact hS5 | go_keep) (first
    | (go_at_call 25; refine (HC2.out).mono ?_; rintro e w4 ⟨v4, rfl, hs4, hf4, hb4⟩; replace hb4 : Below w2.heap.size w2 w4 := ⟨hb4.os, hb4.tape, hb4.output, hb4.size, hb4.block⟩; have HS4 := hid hs4; have HF4 := hid (fun (gb : Nat) (hg : gb < w.heap.size) => hf4 gb (Nat.lt_of_lt_of_le hg HB2.out.size)); have HB4 := hid (HB2.out.next hb4); have HT4 := hid (HT2.out.below hb4); have hS4 := HSS.out w4 hb4; obtain ⟨w5, hrun, hm5, hg5, _⟩ := (HT4.out.map b rfl).store hN (mkK c r true ⟨re, rt, ra, rb, rc, v4, rns⟩) hc; simp only [Kx.v, mkK] at hrun; have HM5 := hid hm5; have HG5 := hid hg5; have hz4 := hb4.size; have y1 := hg5.block g (by omega) (fun e => hgb (Option.some.inj e)); have y2 := hg5.block w.heap.size (by omega) (fun e => by have := Option.some.inj e; omega); obtain ⟨u0, u1, u2, u3, u4, u5, u6⟩ := hS4; have hS5 := And.intro ((cellSame y1 0).trans u0) (And.intro ((cellSame y2 0).trans u1) (And.intro ((cellSame y2 1).trans u2) (And.intro ((cellSame y2 2).trans u3) (And.intro ((cellSame y2 3).trans u4) (And.intro ((cellSame y2 4).trans u5) ((cellSame y2 5).trans u6)))))); have hS4 := HSS.out w4 hb4; clear hs4 hf4 hb4 hm5 hg5 y1 y2))
  go_wp2
  go_ret
  obtain ⟨t1, t2⟩ := HT4.out.put (mkK c r true ⟨re, rt, ra, rb, rc, v4, rns⟩) HS4.out HM5.out HG5.out
  exact ⟨rfl, v4, HF4.out, t1, KQ.after HB4.out t2⟩
theorem done_any2 {g N : Nat} {mb : Option Nat} {w : World} {L : List Kx} (h : TB g mb w N L) (hN : N < 1000000000000000) (c r : Int) (R : Rs) (hR : SLie w R.nv R.ns) : Calls Try.prog 10 #[.pointer (some ⟨g, 0, none⟩), .int .i64 c, .int .i64 r, R.v] w fun e w' => e = .returned (.int .i64 (donE L c r)) ∧ ∃ v', (donE L c r = 0 → ∀ gb, gb < w.heap.size → v'.ownBlock ≠ some gb) ∧ TB g mb w' (N + 1) (donL L c r { R with nv := v' }) ∧ KQ g mb w w' := by
  by_cases hy : okc c r = true ∧ stt (at_ L c).n (at_ L c).d r = 2
  · obtain ⟨ho, hs⟩ := hy
    have e0 : donE L c r = 0 := by unfold donE; rw [if_pos ho, if_pos hs]
    have e1 : ∀ v', donL L c r { R with nv := v' } = withL L (mkK c r true { R with nv := v' }) := fun v' => by unfold donL; rw [if_pos e0]
    simp only [e1]
    rw [e0]
    cases mb with
    | none =>
      have hL := h.non rfl
      rw [hL] at hs
      have h1 := (okc_iff c r).1 ho
      have : stt (at_ [] c).n (at_ [] c).d r = 1 := by
        show stt 0 false r = 1
        unfold stt
        rw [if_pos (by omega)]
      omega
    | some b => exact (done_yes2 h hN c r R hR ho hs).mono fun e w' ⟨he, v', hf, ht, hk⟩ => ⟨he, v', fun _ => hf, ht, hk⟩
  · have e0 : donE L c r = donX (at_ L c) c r := by
      unfold donE donX
      by_cases ho : okc c r = true
      · rw [if_pos ho, if_pos ho, if_neg (fun hs => hy ⟨ho, hs⟩)]
      · rw [if_neg ho, if_neg ho]
    have e1 : donL L c r R = L := by
      unfold donL
      rw [e0, if_neg]
      unfold donX
      split
      · split <;> decide
      · decide
    have e3 : ¬ donE L c r = 0 := by
      rw [e0]
      unfold donX
      split
      · split <;> decide
      · decide
    have e4 : ∀ {p : Prop}, donE L c r = 0 → p := fun h => absurd h e3
    rw [e0] at e4 ⊢
    have e2 : { R with nv := R.nv } = R := by cases R; rfl
    by_cases hc : inI c
    · obtain ⟨ao, cap, hnv, _⟩ := hR
      exact (done_no c r R w (x := at_ L c) (hid fun W hW => find_any (h.below hW) c hc) ⟨ao, _, cap, hnv⟩ hy).mono fun e w' ⟨he, hb⟩ => ⟨he, R.nv, e4, by rw [e2, e1]; exact (h.below hb).more, KQ.of hb⟩
    · have ho : okc c r = false := by cases hh : okc c r with | false => rfl | true => exact absurd (okc_in hh) hc
      have hX : donX (at_ L c) c r = donX kz c r := by unfold donX; rw [ho]; rfl
      rw [hX]
      obtain ⟨ao, cap, hnv, _⟩ := hR
      exact (done_far c r R w ho ⟨ao, _, cap, hnv⟩).mono fun e w' ⟨he, hb⟩ => ⟨by rw [he]; unfold donX; rw [ho]; rfl, R.nv, (fun h => absurd h (by unfold donX; rw [ho]; simp)), by rw [e2, e1]; exact (h.below hb).more, KQ.of hb⟩

/-- names that lie apart from a row, or none -/
def Apt (x : Kx) (u : Value) : Prop := x.ns = [] ∨ ∀ gb, x.nv.ownBlock = some gb → u.ownBlock ≠ some gb
theorem SLie.apt {w w' : World} {x : Kx} {u : Value} (h : SLie w x.nv x.ns) (ha : Apt x u) (hs : w.heap.size ≤ w'.heap.size) (k : ∀ j, j < w.heap.size → some j ≠ u.ownBlock → w'.heap[j]? = w.heap[j]?) : SLie w' x.nv x.ns := by
  obtain ⟨ao, cap, e, h1, h2, hz, h3⟩ := h
  refine ⟨ao, cap, e, h1, h2, hz, fun i hi => ?_⟩
  obtain ⟨gb, off, e1, hgb, c0⟩ := h3 i hi
  refine ⟨gb, off, e1, Nat.lt_of_lt_of_le hgb hs, ?_⟩
  rw [← c0]
  unfold World.cell?
  rcases ha with ha | ha
  · rw [ha] at hi; exact absurd hi (Nat.not_lt_zero _)
  · rw [k gb hgb (fun e2 => ha gb (by rw [e, e1]; rfl) e2.symm)]
theorem Apt.fresh {w : World} {x : Kx} {v u : Value} (hs : SLie w x.nv x.ns) (ha : Apt x u) (h : ∀ b, v.ownBlock = some b → u.ownBlock = some b ∨ w.heap.size ≤ b) : Apt x v := by
  obtain ⟨ao, cap, e, h1, h2, hz, h3⟩ := hs
  by_cases hl : x.ns = []
  · exact .inl hl
  · refine .inr fun gb hg hv => ?_
    obtain ⟨gb', off, e1, hgb, _⟩ := h3 0 (List.length_pos_iff.2 hl)
    rw [e, e1] at hg
    have e3 : gb' = gb := Option.some.inj hg
    rcases ha with ha | ha
    · exact hl ha
    · rcases h gb hv with h | h
      · exact ha gb (by rw [e, e1]; exact hg) h
      · omega
/-- what stands between the steps -/
structure OS (w0 : World) (g : Nat) (mb : Option Nat) (w : World) (N : Nat) (L : List Kx) (vB vD : Value) (B : List Onc) (D : List Stp) : Prop where
  t : TB g mb w N L
  g0 : w0.heap.size ≤ g
  m0 : ∀ b, mb = some b → w0.heap.size ≤ b
  be : Below w0.heap.size w0 w
  rb : BRow w0.heap.size w vB B
  rd : DRow w0.heap.size w vD D
  bd : BD L B D
  nd : ∀ d ∈ D, SLie w0 d.R.nv d.R.ns
  ab : ∀ x ∈ L, Apt x vB
  ad : ∀ x ∈ L, Apt x vD
theorem OS.below {w0 w w' : World} {g N : Nat} {mb : Option Nat} {L : List Kx} {vB vD : Value} {B : List Onc} {D : List Stp} (h : OS w0 g mb w N L vB vD B D) (k : Below w.heap.size w w') : OS w0 g mb w' N L vB vD B D :=
  ⟨h.t.below k, h.g0, h.m0, h.be.next k, h.rb.below k, h.rd.below k, h.bd, h.nd, h.ab, h.ad⟩
theorem TB.not55 {g N : Nat} {mb : Option Nat} {w : World} {L : List Kx} (h : TB g mb w N L) {j : Nat} {cs : Array Value} {fz : Nat × Nat} (hc : w.heap[j]? = some (.cells cs 55 fz)) : j ≠ g ∧ some j ≠ mb := by
  refine ⟨fun e => ?_, fun e => ?_⟩
  · subst e; rw [h.box] at hc; cases hc
  · obtain ⟨n, D, ⟨es, clock, h1, _⟩, _⟩ := h.map j e.symm
    rw [h1] at hc; cases hc
theorem OS.step {w0 w w' : World} {g N : Nat} {mb mb1 : Option Nat} {L L1 : List Kx} {vB vD : Value} {B : List Onc} {D : List Stp} (h : OS w0 g mb w N L vB vD B D) (t1 : TB g mb1 w' (N + 1) L1) (hm : Mb w mb mb1) (k : KQ g mb w w') (hbd : BD L1 B D) (a1 : ∀ x ∈ L1, x ∈ L ∨ (Apt x vB ∧ Apt x vD)) : OS w0 g mb1 w' (N + 1) L1 vB vD B D := by
  refine ⟨t1, h.g0, fun b hb => ?_, KQ.below h.be k h.g0 h.m0 rfl, h.rb.frame fun b cs fz hb => ?_, h.rd.frame fun b cs fz hb => ?_, hbd, h.nd, fun x hx => ?_, fun x hx => ?_⟩
  · have := h.be.size
    rcases hm with e | ⟨_, b', e, hb'⟩
    · rw [e] at hb; exact h.m0 b hb
    · rw [e] at hb; cases hb; omega
  · exact k.block b (lt_of_block hb) (h.t.not55 hb).1 (h.t.not55 hb).2
  · exact k.block b (lt_of_block hb) (h.t.not34 hb).1 (h.t.not34 hb).2
  · rcases a1 x hx with hx | hx
    · exact h.ab x hx
    · exact hx.1
  · rcases a1 x hx with hx | hx
    · exact h.ad x hx
    · exact hx.2
theorem TB.pushed {w w' : World} {g N : Nat} {mb : Option Nat} {L : List Kx} {u : Value} (h : TB g mb w N L) (hs : w.heap.size ≤ w'.heap.size) (k : ∀ j, j < w.heap.size → some j ≠ u.ownBlock → w'.heap[j]? = w.heap[j]?) (hg : some g ≠ u.ownBlock) (hm : ∀ b, mb = some b → some b ≠ u.ownBlock) (ha : ∀ x ∈ L, Apt x u) : TB g mb w' N L :=
  ⟨(k g h.lt hg).trans h.box, h.non, fun b hb => (h.map b hb).same (k b (h.map b hb).lt (hm b hb)), fun x hx => (h.nv x hx).apt (ha x hx) hs k⟩
theorem OS.putB {w0 w w' : World} {g N : Nat} {mb : Option Nat} {L : List Kx} {vB vD v' : Value} {B B' : List Onc} {D : List Stp} (h : OS w0 g mb w N L vB vD B D) (hr : BRow w0.heap.size w' v' B') (hb : Below w0.heap.size w w') (k : ∀ j, j < w.heap.size → some j ≠ vB.ownBlock → w'.heap[j]? = w.heap[j]?) (ho : ∀ b, v'.ownBlock = some b → vB.ownBlock = some b ∨ w.heap.size ≤ b) (hbd : BD L B' D) : OS w0 g mb w' N L v' vD B' D := by
  have hn : ∀ j, some j = vB.ownBlock → ∃ cur, w.heap[j]? = some (.cells cur 55 (0, 0)) := fun j e => (h.rb.own j e.symm).2
  refine ⟨h.t.pushed hb.size k (fun e => ?_) (fun b hb e => ?_) h.ab, h.g0, h.m0, h.be.trans hb, hr, h.rd.frame fun b cs fz hb => ?_, hbd, h.nd, fun x hx => (h.ab x hx).fresh (h.t.nv x hx) ho, h.ad⟩
  · obtain ⟨cur, hc⟩ := hn g e; exact (h.t.not55 hc).1 rfl
  · obtain ⟨cur, hc⟩ := hn b e; exact (h.t.not55 hc).2 hb.symm
  · refine k b (lt_of_block hb) fun e => ?_
    obtain ⟨cur, hc⟩ := hn b e
    rw [hb] at hc
    cases hc
theorem OS.putD {w0 w w' : World} {g N : Nat} {mb : Option Nat} {L : List Kx} {vB vD v' : Value} {B : List Onc} {D D' : List Stp} (h : OS w0 g mb w N L vB vD B D) (hr : DRow w0.heap.size w' v' D') (hb : Below w0.heap.size w w') (k : ∀ j, j < w.heap.size → some j ≠ vD.ownBlock → w'.heap[j]? = w.heap[j]?) (ho : ∀ b, v'.ownBlock = some b → vD.ownBlock = some b ∨ w.heap.size ≤ b) (hbd : BD L B D') (hnd : ∀ d ∈ D', SLie w0 d.R.nv d.R.ns) : OS w0 g mb w' N L vB v' B D' := by
  have hn : ∀ j, some j = vD.ownBlock → ∃ cur, w.heap[j]? = some (.cells cur 34 (0, 0)) := fun j e => (h.rd.own j e.symm).2
  refine ⟨h.t.pushed hb.size k (fun e => ?_) (fun b hb e => ?_) h.ad, h.g0, h.m0, h.be.trans hb, h.rb.frame fun b cs fz hb => ?_, hr, hbd, hnd, h.ab, fun x hx => (h.ad x hx).fresh (h.t.nv x hx) ho⟩
  · obtain ⟨cur, hc⟩ := hn g e; exact (h.t.not34 hc).1 rfl
  · obtain ⟨cur, hc⟩ := hn b e; exact (h.t.not34 hc).2 hb.symm
  · refine k b (lt_of_block hb) fun e => ?_
    obtain ⟨cur, hc⟩ := hn b e
    rw [hb] at hc
    cases hc
theorem OS.begun {w0 w w' : World} {g N : Nat} {mb mb1 : Option Nat} {L : List Kx} {vB vD : Value} {B : List Onc} {D : List Stp} (h : OS w0 g mb w N L vB vD B D) {c r : Int} (t1 : TB g mb1 w' (N + 1) (begL L c r)) (hm : Mb w mb mb1) (k : KQ g mb w w') : OS w0 g mb1 w' (N + 1) (begL L c r) vB vD B D ∧ (begL L c r).length ≤ L.length + 1 ∧ (begE L c r = 0 → (∀ x ∈ B, x.c = c → x.r < r) ∧ BD (begL L c r) (B ++ [⟨c, r⟩]) D) := by
  have hr := h.t.rise
  by_cases he : begE L c r = 0
  · obtain ⟨h1, h2⟩ := h.bd.begin hr he
    refine ⟨h.step t1 hm k ⟨fun x hx => h2.b x (List.mem_append_left _ hx), h2.d⟩ fun x hx => ?_, ?_, fun _ => ⟨h1, h2⟩⟩
    · rw [(begE_zero he).2.2] at hx
      rcases (withL_mem hr _ x).1 hx with rfl | ⟨hx, _⟩
      · exact .inr ⟨.inl rfl, .inl rfl⟩
      · exact .inl hx
    · rw [(begE_zero he).2.2]; exact withL_le hr _
  · have e1 : begL L c r = L := by unfold begL; rw [if_neg he]
    rw [e1] at t1 ⊢
    exact ⟨h.step t1 hm k h.bd fun x hx => .inl hx, by omega, fun e => absurd e he⟩
theorem OS.doned {w0 w w' : World} {g N : Nat} {mb : Option Nat} {L : List Kx} {vB vD : Value} {B : List Onc} {D : List Stp} (h : OS w0 g mb w N L vB vD B D) (s : Stp) {v : Value} (hf : donE L s.c s.r = 0 → ∀ gb, gb < w.heap.size → v.ownBlock ≠ some gb) (t1 : TB g mb w' (N + 1) (donL L s.c s.r { s.R with nv := v })) (k : KQ g mb w w') : OS w0 g mb w' (N + 1) (donL L s.c s.r { s.R with nv := v }) vB vD B D ∧ (donL L s.c s.r { s.R with nv := v }).length ≤ L.length + 1 ∧ (donE L s.c s.r = 0 → (∀ x ∈ D, x.c = s.c → x.r ≠ s.r) ∧ BD (donL L s.c s.r { s.R with nv := v }) B (D ++ [s])) := by
  have hr := h.t.rise
  by_cases he : donE L s.c s.r = 0
  · obtain ⟨h1, h2⟩ := h.bd.done hr he v
    refine ⟨h.step t1 (.inl rfl) k ⟨h2.b, fun x hx => h2.d x (List.mem_append_left _ hx)⟩ fun x hx => ?_, ?_, fun _ => ⟨h1, h2⟩⟩
    · rw [(donE_zero he).2.2.2] at hx
      rcases (withL_mem hr _ x).1 hx with rfl | ⟨hx, _⟩
      · refine .inr ⟨.inr fun gb hg hu => ?_, .inr fun gb hg hu => ?_⟩
        · obtain ⟨cur, hc⟩ := (h.rb.own gb hu).2; exact hf he gb (lt_of_block hc) hg
        · obtain ⟨cur, hc⟩ := (h.rd.own gb hu).2; exact hf he gb (lt_of_block hc) hg
      · exact .inl hx
    · rw [(donE_zero he).2.2.2]; exact withL_le hr _
  · have e1 : ∀ R, donL L s.c s.r R = L := fun R => by unfold donL; rw [if_neg he]
    rw [e1] at t1 ⊢
    exact ⟨h.step t1 (.inl rfl) k h.bd fun x hx => .inl hx, by omega, fun e => absurd e he⟩
end Go.Proofs.Ytabkfmmbjjchdaa
