import Derived.Test.YtabkfmmbjjchdaaUj
namespace Go.Proofs.Ytabkfmmbjjchdaa
open Go.RowKit Go.Maps

set_option maxRecDepth 100000 in
set_option maxHeartbeats 2000000 in
theorem done_yesF {g N b : Nat} {w : World} {L : List Kx} (h : TB g (some b) w N L) (hN : N < 1000000000000000) (c r : Int) (R : Rs) (hR : SLie w R.nv R.ns) (ho : okc c r = true) (hs : stt (at_ L c).n (at_ L c).d r = 2) : Calls Try.prog 10 #[.pointer (some ⟨g, 0, none⟩), .int .i64 c, .int .i64 r, R.v] w fun e w' => e = .returned (.int .i64 0) ∧ ∃ v', TB g (some b) w' (N + 1) (withL L (mkK c r true { R with nv := v' })) ∧ KQ g (some b) w w' ∧ ∀ gb, gb < w.heap.size → v'.ownBlock ≠ some gb := by
  have hc := okc_in ho
  have HF := hid (fun (W : World) (hW : Below w.heap.size w W) => find_any (h.below hW) c hc)
  have HT := hid (fun (W : World) (hW : Below w.heap.size w W) => h.below hW)
  have HS := hid (fun W => state_any (at_ L c) r W)
  rw [hs] at HS
  obtain ⟨re, rt, ra, rb, rc, rnv, rns⟩ := R
  simp only at hR
  have HR := hid hR
  obtain ⟨ao, cap, rfl, _⟩ := hR
  have HC := hid (fun (W : World) (hW : Below w.heap.size w W) => copied_any (w := W) (x := ⟨re, rt, ra, rb, rc, .slice ao rns.length cap, rns⟩) (HR.out.below hW))
  simp only [Rs.v] at HC ⊢
  obtain ⟨nl, hnl⟩ : ∃ nl, nl = rns.length := ⟨_, rfl⟩
  rw [← hnl] at HC ⊢
  have hglt := h.lt
  have hblt := (h.map b rfl).lt
  have hgb := h.ne
  clear hs h hnl HR
  go_enter Try.func10, Try.ntmps10
  go_upto_region 9 with (first
    | (go_at_call 20; refine (isRight_any _ _ _).mono ?_; rintro e w' ⟨rfl, he⟩; have he := he.symm; subst he; rw [ho])
    | (go_at_call 21; refine (HF.out _ (below_alloc _ _)).mono ?_; rintro e w1 ⟨rfl, hb1⟩; have HX1 := hid ((show B32 w.heap.size (w.alloc (.cells #[.int .i64 re, .string rt, .int .i64 ra, .int .i64 rb, .int .i64 rc, .slice ao nl cap] 32)) ⟨re, rt, ra, rb, rc, .slice ao nl cap, rns⟩ from box_at _ _).below hb1 (by simp)); have HB1 := hid ((below_alloc w _).next hb1); clear hb1)
    | (go_at_call 22; refine (HS.out _).mono ?_; rintro e w2 ⟨rfl, hb2⟩; have HX2 := hid (HX1.out.below hb2 HX1.out.lt); have HB2 := hid (HB1.out.next hb2); have HT2 := hid (HT.out _ HB2.out); clear hb2))
  have c0 : w2.cell? ⟨g, 0, none⟩ = some (.map (some b)) := by simp [World.cell?, HT2.out.box]
  obtain ⟨m0, m1, m2, m3, m4, m5⟩ := HX2.out.cells
  simp only at m0 m1 m2 m3 m4 m5
  have hg2 := HT2.out.lt
  have hx2 := HX2.out.lt
  have HC2 := hid (HC.out w2.drew HB2.out.drew)
  have hne : g ≠ w.heap.size := by omega
  have HSS : Hid (∀ W, Below w2.heap.size w2 W → W.cell? ⟨g, 0, none⟩ = some (.map (some b)) ∧ W.cell? ⟨w.heap.size, 0, none⟩ = some (.int .i64 re) ∧ W.cell? ⟨w.heap.size, 1, none⟩ = some (.string rt) ∧ W.cell? ⟨w.heap.size, 2, none⟩ = some (.int .i64 ra) ∧ W.cell? ⟨w.heap.size, 3, none⟩ = some (.int .i64 rb) ∧ W.cell? ⟨w.heap.size, 4, none⟩ = some (.int .i64 rc) ∧ W.cell? ⟨w.heap.size, 5, none⟩ = some (.slice ao nl cap)) := hid fun W hW =>
    ⟨(hW.cell (p := ⟨g, 0, none⟩) hg2).trans c0, (hW.cell (p := ⟨w.heap.size, 0, none⟩) hx2).trans m0, (hW.cell (p := ⟨w.heap.size, 1, none⟩) hx2).trans m1, (hW.cell (p := ⟨w.heap.size, 2, none⟩) hx2).trans m2, (hW.cell (p := ⟨w.heap.size, 3, none⟩) hx2).trans m3, (hW.cell (p := ⟨w.heap.size, 4, none⟩) hx2).trans m4, (hW.cell (p := ⟨w.heap.size, 5, none⟩) hx2).trans m5⟩
  have hS1 := HSS.out w2 (Below.refl _ _)
  clear HC HF HS
  go_region_held3 (fun W => W.cell? ⟨g, 0, none⟩ = some (.map (some b)) ∧ W.cell? ⟨w.heap.size, 0, none⟩ = some (.int .i64 re) ∧ W.cell? ⟨w.heap.size, 1, none⟩ = some (.string rt) ∧ W.cell? ⟨w.heap.size, 2, none⟩ = some (.int .i64 ra) ∧ W.cell? ⟨w.heap.size, 3, none⟩ = some (.int .i64 rb) ∧ W.cell? ⟨w.heap.size, 4, none⟩ = some (.int .i64 rc) ∧ W.cell? ⟨w.heap.size, 5, none⟩ = some (.slice ao nl cap)) (first | exact hS1 | exact hS4 | exact hS5 | go_keep) (first
    | (go_at_call 25; refine (HC2.out).mono ?_; rintro e w4 ⟨v4, rfl, hs4, hf4, hb4⟩; replace hb4 : Below w2.heap.size w2 w4 := ⟨hb4.os, hb4.tape, hb4.output, hb4.size, hb4.block⟩; have HS4 := hid hs4; have HF4 := hid hf4; have HB4 := hid (HB2.out.next hb4); have HT4 := hid (HT2.out.below hb4); have hS4 := HSS.out w4 hb4; obtain ⟨w5, hrun, hm5, hg5, _⟩ := (HT4.out.map b rfl).store hN (mkK c r true ⟨re, rt, ra, rb, rc, v4, rns⟩) hc; simp only [Kx.v, mkK] at hrun; have HM5 := hid hm5; have HG5 := hid hg5; have hz4 := hb4.size; have y1 := hg5.block g (by omega) (fun e => hgb (Option.some.inj e)); have y2 := hg5.block w.heap.size (by omega) (fun e => by have := Option.some.inj e; omega); obtain ⟨u0, u1, u2, u3, u4, u5, u6⟩ := hS4; have hS5 := And.intro ((cellSame y1 0).trans u0) (And.intro ((cellSame y2 0).trans u1) (And.intro ((cellSame y2 1).trans u2) (And.intro ((cellSame y2 2).trans u3) (And.intro ((cellSame y2 3).trans u4) (And.intro ((cellSame y2 4).trans u5) ((cellSame y2 5).trans u6)))))); have hS4 := HSS.out w4 hb4; clear hs4 hf4 hb4 hm5 hg5 y1 y2))
  go_wp2
  go_ret
  obtain ⟨t1, t2⟩ := HT4.out.put (mkK c r true ⟨re, rt, ra, rb, rc, v4, rns⟩) HS4.out HM5.out HG5.out
  exact ⟨rfl, v4, t1, KQ.after HB4.out t2, fun gb hgb' => HF4.out gb (Nat.lt_of_lt_of_le hgb' HB2.out.size)⟩
/-- Done, and that the names stored are fresh -/
theorem done_anyF {g N : Nat} {mb : Option Nat} {w : World} {L : List Kx} (h : TB g mb w N L) (hN : N < 1000000000000000) (c r : Int) (R : Rs) (hR : SLie w R.nv R.ns) : Calls Try.prog 10 #[.pointer (some ⟨g, 0, none⟩), .int .i64 c, .int .i64 r, R.v] w fun e w' => e = .returned (.int .i64 (donE L c r)) ∧ ∃ v', TB g mb w' (N + 1) (donL L c r { R with nv := v' }) ∧ KQ g mb w w' ∧ ((∀ gb, gb < w.heap.size → v'.ownBlock ≠ some gb) ∨ donL L c r { R with nv := v' } = L) := by
  by_cases hy : okc c r = true ∧ stt (at_ L c).n (at_ L c).d r = 2
  · obtain ⟨ho, hs⟩ := hy
    have e0 : donE L c r = 0 := by unfold donE; rw [if_pos ho, if_pos hs]
    have e1 : ∀ v', donL L c r { R with nv := v' } = withL L (mkK c r true { R with nv := v' }) := fun v' => by unfold donL; rw [if_pos e0]
    rw [e0]
    simp only [e1]
    cases mb with
    | none =>
      have hL := h.non rfl
      rw [hL] at hs
      have h1 := (okc_iff c r).1 ho
      have : stt (at_ [] c).n (at_ [] c).d r = 1 := by
        show stt 0 false r = 1
        unfold stt
        rw [if_pos (by omega)]
      omega
    | some b => exact (done_yesF h hN c r R hR ho hs).mono fun e w' ⟨he, v', t1, t2, t3⟩ => ⟨he, v', t1, t2, .inl t3⟩
  · have e0 : donE L c r = donX (at_ L c) c r := by
      unfold donE donX
      by_cases ho : okc c r = true
      · rw [if_pos ho, if_pos ho, if_neg (fun hs => hy ⟨ho, hs⟩)]
      · rw [if_neg ho, if_neg ho]
    have e1 : donL L c r R = L := by
      unfold donL
      rw [e0, if_neg]
      unfold donX
      split
      · split <;> decide
      · decide
    rw [e0]
    have e2 : { R with nv := R.nv } = R := by cases R; rfl
    by_cases hc : inI c
    · obtain ⟨ao, cap, hnv, _⟩ := hR
      exact (done_no c r R w (x := at_ L c) (hid fun W hW => find_any (h.below hW) c hc) ⟨ao, _, cap, hnv⟩ hy).mono fun e w' ⟨he, hb⟩ => ⟨he, R.nv, by rw [e2, e1]; exact (h.below hb).more, KQ.of hb, .inr (by rw [e2, e1])⟩
    · have ho : okc c r = false := by cases hh : okc c r with | false => rfl | true => exact absurd (okc_in hh) hc
      have hX : donX (at_ L c) c r = donX kz c r := by unfold donX; rw [ho]; rfl
      rw [hX]
      obtain ⟨ao, cap, hnv, _⟩ := hR
      exact (done_far c r R w ho ⟨ao, _, cap, hnv⟩).mono fun e w' ⟨he, hb⟩ => ⟨by rw [he]; unfold donX; rw [ho]; rfl, R.nv, by rw [e2, e1]; exact (h.below hb).more, KQ.of hb, .inr (by rw [e2, e1])⟩
end Go.Proofs.Ytabkfmmbjjchdaa
