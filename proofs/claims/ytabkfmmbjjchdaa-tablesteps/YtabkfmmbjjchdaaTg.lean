import Derived.Test.YtabkfmmbjjchdaaTf
namespace Go.Proofs.Ytabkfmmbjjchdaa
open Go.RowKit Go.Maps

theorem cellSame {w w' : World} {j : Nat} (h : w'.heap[j]? = w.heap[j]?) (o : Nat) : w'.cell? ⟨j, o, none⟩ = w.cell? ⟨j, o, none⟩ := by unfold World.cell?; rw [h]
/-- what Done answers where nothing is stored -/
def donX (x : Kx) (c r : Int) : Int := if okc c r then (if stt x.n x.d r = 3 then 7 else 6) else 1
theorem stt_one (n : Int) (d : Bool) (r : Int) : stt n d r = 1 ∨ stt n d r = 2 ∨ stt n d r = 3 ∨ stt n d r = 4 := by
  unfold stt
  split
  · exact .inl rfl
  · split
    · exact .inr (.inr (.inr rfl))
    · split
      · exact .inr (.inr (.inl rfl))
      · exact .inr (.inl rfl)
set_option maxRecDepth 100000 in
set_option maxHeartbeats 1000000 in
theorem done_no {p : Value} {x : Kx} (c r : Int) (R : Rs) (w : World) (HF : Hid (∀ W, Below w.heap.size w W → Calls Try.prog 21 #[p, .int .i64 c] W fun e w' => e = .returned x.v ∧ Below W.heap.size W w')) (hR : ∃ ao n cap, R.nv = .slice ao n cap) (h : ¬ (okc c r = true ∧ stt x.n x.d r = 2)) : Calls Try.prog 10 #[p, .int .i64 c, .int .i64 r, R.v] w fun e w' => e = .returned (.int .i64 (donX x c r)) ∧ Below w.heap.size w w' := by
  obtain ⟨ao, nn, cap, hnv⟩ := hR
  obtain ⟨re, rt, ra, rb, rc, rnv, rns⟩ := R
  simp only at hnv
  subst hnv
  simp only [Rs.v]
  unfold donX
  cases ho : okc c r with
  | false =>
    simp only [Bool.false_eq_true, if_false]
    clear h
    go_enter Try.func10, Try.ntmps10
    go_wp2_with (first
      | (go_at_call 20; refine (isRight_any _ _ _).mono ?_; rintro e w' ⟨rfl, he⟩; have he := he.symm; subst he; rw [ho]))
    go_ret
    exact ⟨rfl, below_alloc _ _⟩
  | true =>
    simp only [if_true]
    have HS := hid (fun W => state_any x r W)
    have hc : stt x.n x.d r = 1 ∨ stt x.n x.d r = 3 ∨ stt x.n x.d r = 4 := by
      rcases stt_one x.n x.d r with h1 | h1 | h1 | h1
      · exact .inl h1
      · exact absurd ⟨ho, h1⟩ h
      · exact .inr (.inl h1)
      · exact .inr (.inr h1)
    clear h
    rcases hc with hs | hs | hs
    all_goals
      rw [hs] at HS ⊢
      clear hs
      go_enter Try.func10, Try.ntmps10
      go_wp2_with (first
        | (go_at_call 20; refine (isRight_any _ _ _).mono ?_; rintro e w' ⟨rfl, he⟩; have he := he.symm; subst he; rw [ho])
        | (go_at_call 21; refine (HF.out _ (below_alloc _ _)).mono ?_; rintro e w1 ⟨rfl, hb1⟩; have HB1 := hid ((below_alloc w _).next hb1); clear hb1)
        | (go_at_call 22; refine (HS.out _).mono ?_; rintro e w2 ⟨rfl, hb2⟩; have HB2 := hid (HB1.out.next hb2); clear hb2))
      go_ret
      exact ⟨rfl, HB2.out⟩
set_option maxRecDepth 100000 in
set_option maxHeartbeats 2000000 in
theorem done_yes {g N b : Nat} {w : World} {L : List Kx} (h : TB g (some b) w N L) (hN : N < 1000000000000000) (c r : Int) (R : Rs) (hR : SLie w R.nv R.ns) (ho : okc c r = true) (hs : stt (at_ L c).n (at_ L c).d r = 2) : Calls Try.prog 10 #[.pointer (some ⟨g, 0, none⟩), .int .i64 c, .int .i64 r, R.v] w fun e w' => e = .returned (.int .i64 0) ∧ ∃ v', TB g (some b) w' (N + 1) (withL L (mkK c r true { R with nv := v' })) ∧ KQ g (some b) w w' := by
  have hc := okc_in ho
  have HF := hid (fun (W : World) (hW : Below w.heap.size w W) => find_any (h.below hW) c hc)
  have HT := hid (fun (W : World) (hW : Below w.heap.size w W) => h.below hW)
  have HS := hid (fun W => state_any (at_ L c) r W)
  rw [hs] at HS
  obtain ⟨re, rt, ra, rb, rc, rnv, rns⟩ := R
  simp only at hR
  have HR := hid hR
  obtain ⟨ao, cap, rfl, _⟩ := hR
  have HC := hid (fun (W : World) (hW : Below w.heap.size w W) => copied_any (w := W) (x := ⟨re, rt, ra, rb, rc, .slice ao rns.length cap, rns⟩) (HR.out.below hW))
  simp only [Rs.v] at HC ⊢
  obtain ⟨nl, hnl⟩ : ∃ nl, nl = rns.length := ⟨_, rfl⟩
  rw [← hnl] at HC ⊢
  have hglt := h.lt
  have hblt := (h.map b rfl).lt
  have hgb := h.ne
  clear hs h hnl HR
  go_enter Try.func10, Try.ntmps10
  go_upto_region 9 with (first
    | (go_at_call 20; refine (isRight_any _ _ _).mono ?_; rintro e w' ⟨rfl, he⟩; have he := he.symm; subst he; rw [ho])
    | (go_at_call 21; refine (HF.out _ (below_alloc _ _)).mono ?_; rintro e w1 ⟨rfl, hb1⟩; have HX1 := hid ((show B32 w.heap.size (w.alloc (.cells #[.int .i64 re, .string rt, .int .i64 ra, .int .i64 rb, .int .i64 rc, .slice ao nl cap] 32)) ⟨re, rt, ra, rb, rc, .slice ao nl cap, rns⟩ from box_at _ _).below hb1 (by simp)); have HB1 := hid ((below_alloc w _).next hb1); clear hb1)
    | (go_at_call 22; refine (HS.out _).mono ?_; rintro e w2 ⟨rfl, hb2⟩; have HX2 := hid (HX1.out.below hb2 HX1.out.lt); have HB2 := hid (HB1.out.next hb2); have HT2 := hid (HT.out _ HB2.out); clear hb2))
  have c0 : w2.cell? ⟨g, 0, none⟩ = some (.map (some b)) := by simp [World.cell?, HT2.out.box]
  obtain ⟨m0, m1, m2, m3, m4, m5⟩ := HX2.out.cells
  simp only at m0 m1 m2 m3 m4 m5
  have hg2 := HT2.out.lt
  have hx2 := HX2.out.lt
  have HC2 := hid (HC.out w2.drew HB2.out.drew)
  have hne : g ≠ w.heap.size := by omega
  have HSS : Hid (∀ W, Below w2.heap.size w2 W → W.cell? ⟨g, 0, none⟩ = some (.map (some b)) ∧ W.cell? ⟨w.heap.size, 0, none⟩ = some (.int .i64 re) ∧ W.cell? ⟨w.heap.size, 1, none⟩ = some (.string rt) ∧ W.cell? ⟨w.heap.size, 2, none⟩ = some (.int .i64 ra) ∧ W.cell? ⟨w.heap.size, 3, none⟩ = some (.int .i64 rb) ∧ W.cell? ⟨w.heap.size, 4, none⟩ = some (.int .i64 rc) ∧ W.cell? ⟨w.heap.size, 5, none⟩ = some (.slice ao nl cap)) := hid fun W hW =>
    ⟨(hW.cell (p := ⟨g, 0, none⟩) hg2).trans c0, (hW.cell (p := ⟨w.heap.size, 0, none⟩) hx2).trans m0, (hW.cell (p := ⟨w.heap.size, 1, none⟩) hx2).trans m1, (hW.cell (p := ⟨w.heap.size, 2, none⟩) hx2).trans m2, (hW.cell (p := ⟨w.heap.size, 3, none⟩) hx2).trans m3, (hW.cell (p := ⟨w.heap.size, 4, none⟩) hx2).trans m4, (hW.cell (p := ⟨w.heap.size, 5, none⟩) hx2).trans m5⟩
  have hS1 := HSS.out w2 (Below.refl _ _)
  clear HC HF HS
  go_region_held3 (fun W => W.cell? ⟨g, 0, none⟩ = some (.map (some b)) ∧ W.cell? ⟨w.heap.size, 0, none⟩ = some (.int .i64 re) ∧ W.cell? ⟨w.heap.size, 1, none⟩ = some (.string rt) ∧ W.cell? ⟨w.heap.size, 2, none⟩ = some (.int .i64 ra) ∧ W.cell? ⟨w.heap.size, 3, none⟩ = some (.int .i64 rb) ∧ W.cell? ⟨w.heap.size, 4, none⟩ = some (.int .i64 rc) ∧ W.cell? ⟨w.heap.size, 5, none⟩ = some (.slice ao nl cap)) (first | exact hS1 | exact hS4 | exact hS5 | go_keep) (first
    | (go_at_call 25; refine (HC2.out).mono ?_; rintro e w4 ⟨v4, rfl, hs4, hf4, hb4⟩; replace hb4 : Below w2.heap.size w2 w4 := ⟨hb4.os, hb4.tape, hb4.output, hb4.size, hb4.block⟩; have HS4 := hid hs4; have HB4 := hid (HB2.out.next hb4); have HT4 := hid (HT2.out.below hb4); have hS4 := HSS.out w4 hb4; obtain ⟨w5, hrun, hm5, hg5, _⟩ := (HT4.out.map b rfl).store hN (mkK c r true ⟨re, rt, ra, rb, rc, v4, rns⟩) hc; simp only [Kx.v, mkK] at hrun; have HM5 := hid hm5; have HG5 := hid hg5; have hz4 := hb4.size; have y1 := hg5.block g (by omega) (fun e => hgb (Option.some.inj e)); have y2 := hg5.block w.heap.size (by omega) (fun e => by have := Option.some.inj e; omega); obtain ⟨u0, u1, u2, u3, u4, u5, u6⟩ := hS4; have hS5 := And.intro ((cellSame y1 0).trans u0) (And.intro ((cellSame y2 0).trans u1) (And.intro ((cellSame y2 1).trans u2) (And.intro ((cellSame y2 2).trans u3) (And.intro ((cellSame y2 3).trans u4) (And.intro ((cellSame y2 4).trans u5) ((cellSame y2 5).trans u6)))))); have hS4 := HSS.out w4 hb4; clear hs4 hf4 hb4 hm5 hg5 y1 y2))
  go_wp2
  go_ret
  obtain ⟨t1, t2⟩ := HT4.out.put (mkK c r true ⟨re, rt, ra, rb, rc, v4, rns⟩) HS4.out HM5.out HG5.out
  exact ⟨rfl, v4, t1, KQ.after HB4.out t2⟩
end Go.Proofs.Ytabkfmmbjjchdaa
