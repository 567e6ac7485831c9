import Derived.Test.YtabkfmmbjjchdaaUk
namespace Go.Proofs.Ytabkfmmbjjchdaa
open Go.RowKit Go.Maps

/-- a slice whose block is one of texts -/
def Nine (w : World) (v : Value) : Prop := ∀ gb, v.ownBlock = some gb → ∃ cs fz, w.heap[gb]? = some (.cells cs 9 fz)
theorem Nine.kp {g : Nat} {w w' : World} {v : Value} (h : Nine w v) (k : KP g w w') (hv : ∀ gb, gb = g → v.ownBlock ≠ some gb) : Nine w' v := fun gb hg => by
  obtain ⟨cs, fz, e⟩ := h gb hg
  exact ⟨cs, fz, (k.block gb (lt_of_block e) (fun e2 => hv gb e2 hg)).trans e⟩
theorem Nine.kq {g N : Nat} {mb : Option Nat} {w w' : World} {L : List Kx} {v : Value} (h : Nine w v) (t : TB g mb w N L) (k : KQ g mb w w') : Nine w' v := fun gb hg => by
  obtain ⟨cs, fz, e⟩ := h gb hg
  have := t.cells e (by decide)
  exact ⟨cs, fz, (k.block gb (lt_of_block e) this.1 this.2).trans e⟩
theorem Nine.below {w w' : World} {v : Value} (h : Nine w v) (k : Below w.heap.size w w') : Nine w' v := fun gb hg => by
  obtain ⟨cs, fz, e⟩ := h gb hg
  exact ⟨cs, fz, (k.block gb (lt_of_block e)).trans e⟩
set_option maxRecDepth 100000 in
theorem clone_nine {w : World} {v : Value} {l : List ByteArray} (h : SLie w v l) : Calls Try.prog 30 #[v] w fun e w' => ∃ v', e = .returned v' ∧ SLie w' v' l ∧ (∀ gb, gb < w.heap.size → v'.ownBlock ≠ some gb) ∧ Nine w' v' ∧ Below w.heap.size w w' := by
  obtain ⟨ao, cap, rfl, h1, h2, hz, h3⟩ := h
  cases ao with
  | none =>
    have hl : l = [] := by
      cases l with
      | nil => rfl
      | cons a t => obtain ⟨gb, off, e, _⟩ := h3 0 (by simp); cases e
    subst hl
    exact (AnyE.slices_Clone_nil Try.cloneS 0 cap w).mono fun e w' ⟨he, hw⟩ => ⟨_, he, by rw [hw]; exact SLie.nil w, (fun gb _ e0 => by cases e0), (fun gb e0 => by cases e0), by rw [hw]; exact Below.refl _ _⟩
  | some a =>
    by_cases hl : l = []
    · subst hl
      have hr := run_app_zero (w.alloc (.cells #[] 9)) w.heap.size cap (some a)
      have hq : ∀ (w : World) (a : Option Addr) (n c n' c' : Nat), (binOp .eql 30 (.slice a n c) (.slice none n' c')).run Try.prog w = .ok (.bool a.isNone) w := fun w a n c n' c' => Lib.run_eql_slice_nil w _ _ a n c n' c' Try.underlying30
      clear h3 hz h1
      go_enter Try.func30, Try.ntmps30
      go_wp2
      go_ret
      exact ⟨_, rfl, ⟨_, 0, rfl, Nat.le_refl _, by decide, by simp, fun i hi => by simp at hi⟩, (fun gb hg e0 => by have e2 : w.heap.size = gb := Option.some.inj e0; omega), (fun gb e0 => by have e2 : w.heap.size = gb := Option.some.inj e0; rw [← e2]; exact ⟨_, _, box_at w (.cells #[] 9)⟩), below_alloc _ _⟩
    · have hp := List.length_pos_iff.2 hl
      obtain ⟨gb, off, e, hg, _⟩ := h3 0 hp
      cases e
      obtain ⟨i0, hi, hz0, hz1, hz2⟩ := info_parts info9
      have hc : ∀ j u, (l.map Value.string)[j]? = some u → w.cell? ⟨gb, off + j, none⟩ = some u := by
        intro j u hj
        rw [List.getElem?_map] at hj
        cases hlj : l[j]? with
        | none => rw [hlj] at hj; cases hj
        | some s =>
          rw [hlj] at hj
          obtain ⟨hjl, hs⟩ := List.getElem?_eq_some_iff.1 hlj
          obtain ⟨gb', off', e', _, c⟩ := h3 j hjl
          cases e'
          rw [c, hs]
          exact hj
      have hcon := AnyE.slices_Clone Try.cloneS i0 _ 1 16 hi hz0 hz1 hz2 rfl (by omega) Try.sizeOf9 gb off l.length cap (l.map Value.string) w (by simp) (by omega) (by omega) hc (by intro u hu; obtain ⟨s, _, rfl⟩ := List.mem_map.1 hu; rfl)
      refine (show Calls Try.prog 30 _ w _ from hcon).mono ?_
      rintro e w' ⟨v', rfl, hrow, _, hb⟩
      refine ⟨v', rfl, ?_, fun gb hg e0 => ?_, fun gb e0 => ?_, hb⟩
      rotate_left
      · obtain ⟨e1, ⟨rfl, hz'⟩ | ⟨x, cap', cur, rfl, e4, e5, r1, r2, r3⟩⟩ := hrow
        · cases e0
        · have e2 : x = gb := Option.some.inj e0; omega
      · obtain ⟨e1, ⟨rfl, hz'⟩ | ⟨x, cap', cur, rfl, e4, e5, r1, r2, r3⟩⟩ := hrow
        · cases e0
        · have e2 : x = gb := Option.some.inj e0
          rw [← e2]
          exact ⟨_, _, e5⟩
      have hh := hrow
      obtain ⟨e1, ⟨rfl, hz'⟩ | ⟨x, cap', cur, rfl, e4, e5, r1, r2, r3⟩⟩ := hrow
      · omega
      · refine ⟨_, cap', rfl, r1, r2, hz, fun i hi => ⟨x, 0, rfl, (Array.getElem?_eq_some_iff.1 e5).1, ?_⟩⟩
        have := World.ownsRow.cellAt hh i (by omega)
        rw [Nat.zero_add, this, List.getElem?_map, List.getElem?_eq_getElem hi]
        rfl
set_option maxRecDepth 100000 in
set_option maxHeartbeats 1000000 in
theorem copied_nine {w : World} {x : Rs} (h : SLie w x.nv x.ns) : Calls Try.prog 25 #[x.v] w fun e w' => ∃ v', e = .returned (Rs.v { x with nv := v' }) ∧ SLie w' v' x.ns ∧ (∀ gb, gb < w.heap.size → v'.ownBlock ≠ some gb) ∧ Nine w' v' ∧ Below w.heap.size w w' := by
  obtain ⟨e, t, a, b, c, nv, ns⟩ := x
  simp only [Rs.v] at h ⊢
  obtain ⟨ao, cap, rfl, r⟩ := h
  have HS : Hid (SLie w (.slice ao ns.length cap) ns) := hid ⟨ao, cap, rfl, r⟩
  obtain ⟨n, hn⟩ : ∃ n, n = ns.length := ⟨_, rfl⟩
  rw [← hn] at HS ⊢
  clear r hn
  go_enter Try.func25, Try.ntmps25
  go_wp2_with (go_at_call 30; fail)
  obtain ⟨w0, hw0⟩ : ∃ w0, w0 = w.alloc (.cells #[.int .i64 e, .string t, .int .i64 a, .int .i64 b, .int .i64 c, .slice ao n cap] 32) := ⟨_, rfl⟩
  have b1 : B32 w.heap.size w0 ⟨e, t, a, b, c, .slice ao n cap, ns⟩ := by rw [hw0]; exact box_at _ _
  have B0 : Below w.heap.size w w0 := by rw [hw0]; exact below_alloc _ _
  have hs0 : w0.heap.size = w.heap.size + 1 := by rw [hw0]; simp
  rw [← hw0]
  obtain ⟨w1, hw1⟩ : ∃ w1, w1 = w0.alloc (.cells #[.int .i64 0, .string ⟨#[]⟩, .int .i64 0, .int .i64 0, .int .i64 0, .slice none 0 0] 32) := ⟨_, rfl⟩
  have b2 : B32 (w.heap.size + 1) w1 rz := by rw [hw1, ← hs0]; exact box_at _ _
  have B1 : Below w.heap.size w w1 := by rw [hw1]; exact B0.next (below_alloc _ _)
  have b1' : B32 w.heap.size w1 ⟨e, t, a, b, c, .slice ao n cap, ns⟩ := by rw [hw1]; exact b1.below (below_alloc _ _) (by omega)
  have hs1 : w1.heap.size = w.heap.size + 2 := by rw [hw1]; simp; omega
  rw [← hw1]
  clear hw0 hw1
  refine (clone_nine (HS.out.below B1)).mono ?_
  rintro e1 w2 ⟨v', rfl, hs2, hf2, hn2, hb2⟩
  obtain ⟨ao', cap', rfl, r'⟩ := hs2
  obtain ⟨n', hn'⟩ : ∃ n, n = ns.length := ⟨_, rfl⟩
  have HS2 : Hid (SLie w2 (.slice ao' n' cap') ns) := hid (by rw [hn']; exact ⟨ao', cap', rfl, r'⟩)
  rw [← hn'] at hf2 hn2 ⊢
  have HN2 := hid hn2
  have HF2 := hid hf2
  have c1 := b1'.below hb2 (by omega)
  have c2 := b2.below hb2 (by omega)
  have HB2 := hid (B1.next hb2)
  obtain ⟨k0, k1, k2, k3, k4, k5⟩ := c1.cells
  have kf := c1.fr
  have C1 := hid c1
  have C2 := hid c2
  have hz2 := hb2.size
  clear r' hn' hf2 hn2 hb2 c1 c2 b1 b1' b2
  go_upto_region 2 with fail
  obtain ⟨w3, hw3⟩ : ∃ w3, w3 = w2.setCell ⟨w.heap.size, 5, none⟩ (.slice ao' n' cap') := ⟨_, rfl⟩
  have K3 : KP w.heap.size w2 w3 := by rw [hw3]; exact setCell_kp _ _ _ _
  have d1 : B32 w.heap.size w3 ⟨e, t, a, b, c, .slice ao' n' cap', ns⟩ := by rw [hw3]; exact C1.out.set5
  have D2 := hid (C2.out.kp K3 (by omega))
  have HS3 := hid (HS2.out.kp K3 (fun gb e => HF2.out gb (by omega)))
  have HN3 := hid (HN2.out.kp K3 (fun gb e => HF2.out gb (by omega)))
  have HB3 : Hid (Below w.heap.size w w3) := hid (KP.new HB2.out K3 (Nat.le_refl _))
  rw [← hw3]
  clear hw3 k0 k1 k2 k3 k4 k5 kf
  obtain ⟨k0, k1, k2, k3, k4, k5⟩ := d1.cells
  have D1 := hid d1
  clear d1
  simp only at k0 k1 k2 k3 k4 k5
  go_wp2_with (first
    | ((with_reducible refine at_store32 (w.heap.size + 1) rz ⟨e, t, a, b, c, .slice ao' n' cap', ns⟩ ?_ ?_ D2.out ?_ ?_); rfl; rfl; rfl; intro wr hBr hkr))
  refine ret25 hBr rfl rfl ⟨_, rfl, HS3.out.kp hkr (fun gb e => HF2.out gb (by omega)), fun gb hg => HF2.out gb (by omega), HN3.out.kp hkr (fun gb e => HF2.out gb (by omega)), KP.new HB3.out hkr (by omega)⟩
set_option maxRecDepth 100000 in
set_option maxHeartbeats 2000000 in
theorem done_yesN {g N b : Nat} {w : World} {L : List Kx} (h : TB g (some b) w N L) (hN : N < 1000000000000000) (c r : Int) (R : Rs) (hR : SLie w R.nv R.ns) (ho : okc c r = true) (hs : stt (at_ L c).n (at_ L c).d r = 2) : Calls Try.prog 10 #[.pointer (some ⟨g, 0, none⟩), .int .i64 c, .int .i64 r, R.v] w fun e w' => e = .returned (.int .i64 0) ∧ ∃ v', TB g (some b) w' (N + 1) (withL L (mkK c r true { R with nv := v' })) ∧ KQ g (some b) w w' ∧ Nine w' v' := by
  have hc := okc_in ho
  have HF := hid (fun (W : World) (hW : Below w.heap.size w W) => find_any (h.below hW) c hc)
  have HT := hid (fun (W : World) (hW : Below w.heap.size w W) => h.below hW)
  have HS := hid (fun W => state_any (at_ L c) r W)
  rw [hs] at HS
  obtain ⟨re, rt, ra, rb, rc, rnv, rns⟩ := R
  simp only at hR
  have HR := hid hR
  obtain ⟨ao, cap, rfl, _⟩ := hR
  have HC := hid (fun (W : World) (hW : Below w.heap.size w W) => copied_nine (w := W) (x := ⟨re, rt, ra, rb, rc, .slice ao rns.length cap, rns⟩) (HR.out.below hW))
  simp only [Rs.v] at HC ⊢
  obtain ⟨nl, hnl⟩ : ∃ nl, nl = rns.length := ⟨_, rfl⟩
  rw [← hnl] at HC ⊢
  have hglt := h.lt
  have hblt := (h.map b rfl).lt
  have hgb := h.ne
  clear hs h hnl HR
  go_enter Try.func10, Try.ntmps10
  go_upto_region 9 with (first
    | (go_at_call 20; refine (isRight_any _ _ _).mono ?_; rintro e w' ⟨rfl, he⟩; have he := he.symm; subst he; rw [ho])
    | (go_at_call 21; refine (HF.out _ (below_alloc _ _)).mono ?_; rintro e w1 ⟨rfl, hb1⟩; have HX1 := hid ((show B32 w.heap.size (w.alloc (.cells #[.int .i64 re, .string rt, .int .i64 ra, .int .i64 rb, .int .i64 rc, .slice ao nl cap] 32)) ⟨re, rt, ra, rb, rc, .slice ao nl cap, rns⟩ from box_at _ _).below hb1 (by simp)); have HB1 := hid ((below_alloc w _).next hb1); clear hb1)
    | (go_at_call 22; refine (HS.out _).mono ?_; rintro e w2 ⟨rfl, hb2⟩; have HX2 := hid (HX1.out.below hb2 HX1.out.lt); have HB2 := hid (HB1.out.next hb2); have HT2 := hid (HT.out _ HB2.out); clear hb2))
  have c0 : w2.cell? ⟨g, 0, none⟩ = some (.map (some b)) := by simp [World.cell?, HT2.out.box]
  obtain ⟨m0, m1, m2, m3, m4, m5⟩ := HX2.out.cells
  simp only at m0 m1 m2 m3 m4 m5
  have hg2 := HT2.out.lt
  have hx2 := HX2.out.lt
  have HC2 := hid (HC.out w2.drew HB2.out.drew)
  have hne : g ≠ w.heap.size := by omega
  have HSS : Hid (∀ W, Below w2.heap.size w2 W → W.cell? ⟨g, 0, none⟩ = some (.map (some b)) ∧ W.cell? ⟨w.heap.size, 0, none⟩ = some (.int .i64 re) ∧ W.cell? ⟨w.heap.size, 1, none⟩ = some (.string rt) ∧ W.cell? ⟨w.heap.size, 2, none⟩ = some (.int .i64 ra) ∧ W.cell? ⟨w.heap.size, 3, none⟩ = some (.int .i64 rb) ∧ W.cell? ⟨w.heap.size, 4, none⟩ = some (.int .i64 rc) ∧ W.cell? ⟨w.heap.size, 5, none⟩ = some (.slice ao nl cap)) := hid fun W hW =>
    ⟨(hW.cell (p := ⟨g, 0, none⟩) hg2).trans c0, (hW.cell (p := ⟨w.heap.size, 0, none⟩) hx2).trans m0, (hW.cell (p := ⟨w.heap.size, 1, none⟩) hx2).trans m1, (hW.cell (p := ⟨w.heap.size, 2, none⟩) hx2).trans m2, (hW.cell (p := ⟨w.heap.size, 3, none⟩) hx2).trans m3, (hW.cell (p := ⟨w.heap.size, 4, none⟩) hx2).trans m4, (hW.cell (p := ⟨w.heap.size, 5, none⟩) hx2).trans m5⟩
  have hS1 := HSS.out w2 (Below.refl _ _)
  clear HC HF HS
  go_region_held3 (fun W => W.cell? ⟨g, 0, none⟩ = some (.map (some b)) ∧ W.cell? ⟨w.heap.size, 0, none⟩ = some (.int .i64 re) ∧ W.cell? ⟨w.heap.size, 1, none⟩ = some (.string rt) ∧ W.cell? ⟨w.heap.size, 2, none⟩ = some (.int .i64 ra) ∧ W.cell? ⟨w.heap.size, 3, none⟩ = some (.int .i64 rb) ∧ W.cell? ⟨w.heap.size, 4, none⟩ = some (.int .i64 rc) ∧ W.cell? ⟨w.heap.size, 5, none⟩ = some (.slice ao nl cap)) (first | exact hS1 | exact hS4 | exact hS5 | go_keep) (first
    | (go_at_call 25; refine (HC2.out).mono ?_; rintro e w4 ⟨v4, rfl, hs4, hf4, hn4, hb4⟩; replace hb4 : Below w2.heap.size w2 w4 := ⟨hb4.os, hb4.tape, hb4.output, hb4.size, hb4.block⟩; have HS4 := hid hs4; have HN4 := hid hn4; have HB4 := hid (HB2.out.next hb4); have HT4 := hid (HT2.out.below hb4); have hS4 := HSS.out w4 hb4; obtain ⟨w5, hrun, hm5, hg5, _⟩ := (HT4.out.map b rfl).store hN (mkK c r true ⟨re, rt, ra, rb, rc, v4, rns⟩) hc; simp only [Kx.v, mkK] at hrun; have HM5 := hid hm5; have HG5 := hid hg5; have hz4 := hb4.size; have y1 := hg5.block g (by omega) (fun e => hgb (Option.some.inj e)); have y2 := hg5.block w.heap.size (by omega) (fun e => by have := Option.some.inj e; omega); obtain ⟨u0, u1, u2, u3, u4, u5, u6⟩ := hS4; have hS5 := And.intro ((cellSame y1 0).trans u0) (And.intro ((cellSame y2 0).trans u1) (And.intro ((cellSame y2 1).trans u2) (And.intro ((cellSame y2 2).trans u3) (And.intro ((cellSame y2 3).trans u4) (And.intro ((cellSame y2 4).trans u5) ((cellSame y2 5).trans u6)))))); have hS4 := HSS.out w4 hb4; clear hs4 hf4 hn4 hb4 hm5 hg5 y1 y2))
  go_wp2
  go_ret
  obtain ⟨t1, t2⟩ := HT4.out.put (mkK c r true ⟨re, rt, ra, rb, rc, v4, rns⟩) HS4.out HM5.out HG5.out
  exact ⟨rfl, v4, t1, KQ.after HB4.out t2, HN4.out.kq HT4.out t2⟩
/-- Done, and that the names stored lie in a block of texts -/
theorem done_anyN {g N : Nat} {mb : Option Nat} {w : World} {L : List Kx} (h : TB g mb w N L) (hN : N < 1000000000000000) (c r : Int) (R : Rs) (hR : SLie w R.nv R.ns) : Calls Try.prog 10 #[.pointer (some ⟨g, 0, none⟩), .int .i64 c, .int .i64 r, R.v] w fun e w' => e = .returned (.int .i64 (donE L c r)) ∧ ∃ v', TB g mb w' (N + 1) (donL L c r { R with nv := v' }) ∧ KQ g mb w w' ∧ (Nine w' v' ∨ donL L c r { R with nv := v' } = L) := by
  by_cases hy : okc c r = true ∧ stt (at_ L c).n (at_ L c).d r = 2
  · obtain ⟨ho, hs⟩ := hy
    have e0 : donE L c r = 0 := by unfold donE; rw [if_pos ho, if_pos hs]
    have e1 : ∀ v', donL L c r { R with nv := v' } = withL L (mkK c r true { R with nv := v' }) := fun v' => by unfold donL; rw [if_pos e0]
    rw [e0]
    simp only [e1]
    cases mb with
    | none =>
      have hL := h.non rfl
      rw [hL] at hs
      have h1 := (okc_iff c r).1 ho
      have : stt (at_ [] c).n (at_ [] c).d r = 1 := by
        show stt 0 false r = 1
        unfold stt
        rw [if_pos (by omega)]
      omega
    | some b => exact (done_yesN h hN c r R hR ho hs).mono fun e w' ⟨he, v', t1, t2, t3⟩ => ⟨he, v', t1, t2, .inl t3⟩
  · have e0 : donE L c r = donX (at_ L c) c r := by
      unfold donE donX
      by_cases ho : okc c r = true
      · rw [if_pos ho, if_pos ho, if_neg (fun hs => hy ⟨ho, hs⟩)]
      · rw [if_neg ho, if_neg ho]
    have e1 : donL L c r R = L := by
      unfold donL
      rw [e0, if_neg]
      unfold donX
      split
      · split <;> decide
      · decide
    rw [e0]
    have e2 : { R with nv := R.nv } = R := by cases R; rfl
    by_cases hc : inI c
    · obtain ⟨ao, cap, hnv, _⟩ := hR
      exact (done_no c r R w (x := at_ L c) (hid fun W hW => find_any (h.below hW) c hc) ⟨ao, _, cap, hnv⟩ hy).mono fun e w' ⟨he, hb⟩ => ⟨he, R.nv, by rw [e2, e1]; exact (h.below hb).more, KQ.of hb, .inr (by rw [e2, e1])⟩
    · have ho : okc c r = false := by cases hh : okc c r with | false => rfl | true => exact absurd (okc_in hh) hc
      have hX : donX (at_ L c) c r = donX kz c r := by unfold donX; rw [ho]; rfl
      rw [hX]
      obtain ⟨ao, cap, hnv, _⟩ := hR
      exact (done_far c r R w ho ⟨ao, _, cap, hnv⟩).mono fun e w' ⟨he, hb⟩ => ⟨by rw [he]; unfold donX; rw [ho]; rfl, R.nv, by rw [e2, e1]; exact (h.below hb).more, KQ.of hb, .inr (by rw [e2, e1])⟩
end Go.Proofs.Ytabkfmmbjjchdaa
