import Derived.Test.YtogiiefaakejlaaCp
namespace Go.Proofs.Ytogiiefaakejlaa
open Go.RowKit Go.Maps

theorem rgt_fit {c : Ck} (h : rgt c = true) : inI c.num := by
  obtain ⟨_, _, h0, h1, h2, _⟩ := rgt_num h
  exact ⟨by omega, by omega⟩
set_option maxRecDepth 100000 in
set_option maxHeartbeats 1000000 in
theorem add_same {base g : Nat} {w : World} {x : Ck} {r : List Ck} (h : CI base g w (x :: r)) (c : Ck) (hs : c.dat.size ≤ maxLen) (hbw : base ≤ w.heap.size) (hr : rgt c = true) (ho : okIn (x :: r) c = true) (hh : hasN (x :: r) c.num = true) : Calls Try.prog 15 #[.pointer (some ⟨g, 0, none⟩), c.v] w (AddR base g w (x :: r) c) := by
  have hA : addB (x :: r) c = false ∧ addE (x :: r) c = 0 ∧ addL (x :: r) c = x :: r := by unfold addL addE addB; rw [hr, ho, hh]; exact ⟨rfl, rfl, rfl⟩
  have HCK := hid (check_any c hs)
  rw [hr] at HCK
  have HNI : Hid (inI c.num) := rgt_fit hr
  have HO2 : Hid (c.dg = x.dg ∧ c.tot = x.tot) := by
    show _ ∧ _
    simpa [okIn] using ho
  have HHA := hid (fun (w' : World) (h' : CI base g w' (x :: r)) => has_any h' c.num HNI.out)
  rw [hh] at HHA
  obtain ⟨dg, t, n, d, sm⟩ := c
  have HB := hid (below_alloc w (.cells #[.int .i64 dg, .int .i64 t, .int .i64 n, .string d, .int .i64 sm] 24))
  have HK := hid (KBox.made 24 w ⟨dg, t, n, d, sm⟩)
  unfold AddR
  rw [hA.1, hA.2.1, hA.2.2]
  have H := hid h
  clear hA h hr hs ho hh
  go_enter Try.func15, Try.ntmps15
  go_wp2_with (go_at_call 11; fail)
  refine (HCK.out _).mono ?_
  rintro e w1 ⟨rfl, hb1⟩
  have HB1 := hid (HB.out.next hb1)
  have hk1 : KBox 24 w.heap.size w1 ⟨dg, t, n, d, sm⟩ := KBox.same HK.out (hb1.block _ (by simp))
  have HK1 := hid hk1
  obtain ⟨k0, k1, k2, k3, k4⟩ := hk1.cell
  have h1 := H.out.below HB1.out
  obtain ⟨mv, c0, c1, c2, hmv⟩ := h1.cells
  have HC1 := hid h1
  clear hb1 hk1 hmv h1
  simp only [dgOf, totOf] at c0 c1
  obtain ⟨xd, hxd⟩ : ∃ xd, xd = x.dg := ⟨_, rfl⟩
  obtain ⟨xt, hxt⟩ : ∃ xt, xt = x.tot := ⟨_, rfl⟩
  rw [← hxd] at c0
  rw [← hxt] at c1
  have hd2 : (dg != xd) = false := by rw [hxd, ← HO2.out.1]; simp
  have ht2 : (t != xt) = false := by rw [hxt, ← HO2.out.2]; simp
  clear hxd hxt
  go_wp2_with (go_quiet ((go_at_call 31; exact Calls.quiet_of_same (begun_yes (HC1.out.drew _)))))
  go_wp2_with (go_at_call 32; fail)
  refine (HHA.out _ (HC1.out.drew _)).mono ?_
  rintro e w2 ⟨rfl, hb2⟩
  have HB2 := hid ((HB1.out.dN _).next hb2)
  clear hb2
  go_wp2
  go_ret2
  exact ⟨rfl, H.out.below HB2.out, HB2.out.mono hbw, CFr.of_below HB2.out⟩
set_option maxRecDepth 100000 in
set_option maxHeartbeats 1000000 in
theorem add_new {base g : Nat} {w : World} {x : Ck} {r : List Ck} (h : CI base g w (x :: r)) (c : Ck) (hs : c.dat.size ≤ maxLen) (hfit : inI c.dg) (hbw : base ≤ w.heap.size) (hr : rgt c = true) (ho : okIn (x :: r) c = true) (hh : hasN (x :: r) c.num = false) : Calls Try.prog 15 #[.pointer (some ⟨g, 0, none⟩), c.v] w (AddR base g w (x :: r) c) := by
  have hA : addB (x :: r) c = true ∧ addE (x :: r) c = 0 := by unfold addE addB; rw [hr, ho, hh]; exact ⟨rfl, rfl⟩
  have hAL : addL (x :: r) c = (x :: r) ++ [c] := by unfold addL; rw [hA.1]; rfl
  have hok := h.ok.add c hfit
  have hlen := h.ok.len
  have HANY : Hid (((x :: r).map entC).any (fun y => y.b == c.num) = false) := by show _ = _; rw [any_ent, hh]
  have HCK := hid (check_any c hs)
  rw [hr] at HCK
  have HNI : Hid (inI c.num) := rgt_fit hr
  have HO2 : Hid (c.dg = x.dg ∧ c.tot = x.tot) := by
    show _ ∧ _
    simpa [okIn] using ho
  have HHA := hid (fun (w' : World) (h' : CI base g w' (x :: r)) => has_any h' c.num HNI.out)
  rw [hh] at HHA
  obtain ⟨dg, t, n, d, sm⟩ := c
  have HB := hid (below_alloc w (.cells #[.int .i64 dg, .int .i64 t, .int .i64 n, .string d, .int .i64 sm] 24))
  have HK := hid (KBox.made 24 w ⟨dg, t, n, d, sm⟩)
  unfold AddR
  rw [hA.1, hA.2]
  have H := hid h
  have HOK := hid hok
  have HAL := hid hAL
  clear hA h hr hs ho hh hok hAL
  go_enter Try.func15, Try.ntmps15
  go_wp2_with (go_at_call 11; fail)
  refine (HCK.out _).mono ?_
  rintro e w1 ⟨rfl, hb1⟩
  have HB1 := hid (HB.out.next hb1)
  have hk1 : KBox 24 w.heap.size w1 ⟨dg, t, n, d, sm⟩ := KBox.same HK.out (hb1.block _ (by simp))
  have HK1 := hid hk1
  obtain ⟨k0, k1, k2, k3, k4⟩ := hk1.cell
  have h1 := H.out.below HB1.out
  obtain ⟨mv, c0, c1, c2, hmv⟩ := h1.cells
  have HC1 := hid h1
  clear hb1 hk1 hmv h1
  simp only [dgOf, totOf] at c0 c1
  obtain ⟨xd, hxd⟩ : ∃ xd, xd = x.dg := ⟨_, rfl⟩
  obtain ⟨xt, hxt⟩ : ∃ xt, xt = x.tot := ⟨_, rfl⟩
  rw [← hxd] at c0
  rw [← hxt] at c1
  have hd2 : (dg != xd) = false := by rw [hxd, ← HO2.out.1]; simp
  have ht2 : (t != xt) = false := by rw [hxt, ← HO2.out.2]; simp
  clear hxd hxt
  go_wp2_with (go_quiet ((go_at_call 31; exact Calls.quiet_of_same (begun_yes (HC1.out.drew _)))))
  go_wp2_with (go_at_call 32; fail)
  refine (HHA.out _ (HC1.out.drew _)).mono ?_
  rintro e w2 ⟨rfl, hb2⟩
  have HB2 := hid ((HB1.out.dN _).next hb2)
  have h2 := H.out.below HB2.out
  have hk2 : KBox 24 w.heap.size w2 ⟨dg, t, n, d, sm⟩ := KBox.same (HK1.out.drew _) (hb2.block _ HK1.out.lt)
  obtain ⟨k0, k1, k2, k3, k4⟩ := hk2.cell
  obtain ⟨mv, hg2, hmv⟩ := h2.mem
  obtain ⟨mv', d0, d1, d2, _⟩ := h2.cells
  have hmm : mv' = mv := by rw [cell_of hg2] at d2; simpa using d2.symm
  subst hmm
  rcases hmv with ⟨hm, _⟩ | ⟨_, m, rfl, hbm, hm⟩
  · cases hm
  have HC2 := hid h2
  have HM := hid hm
  have HG2 := hid hg2
  clear hb2 hk2 c0 c1 c2
  simp only [dgOf, totOf] at d0 d1
  obtain ⟨w3, hrun, hM3, hg3, hs3⟩ := MIs.store (w := w2.drew) (HM.out.same rfl) (by simp at hlen ⊢; omega) ⟨n, d⟩ HNI.out HANY.out
  unfold blk at hrun
  simp only at hrun
  have HM3 := hid hM3
  have HG3 := hid hg3
  clear hM3 hg3 hs3
  clear h2 hm hg2
  go_wp2_with (go_at_call 31; refine (begun_yes HC2.out).mono ?_; rintro e w3 ⟨rfl, hw⟩; have hw := hw.symm; subst hw)
  go_region
  clear hrun
  go_wp2
  go_ret2
  have hgm : g ≠ m := by
    intro e
    have e1 := HG2.out
    obtain ⟨es, cl, e2⟩ := HM.out.isMap
    rw [e, e2] at e1
    cases e1
  have hbk : ∀ k, k < w2.heap.size → k ≠ m → w3.heap[k]? = w2.heap[k]? := fun k hk hne => HG3.out.block k hk (fun e => hne (by cases e; rfl))
  have hgl := lt_of_block HG2.out
  refine ⟨rfl, ?_, ?_, ?_⟩
  · refine ⟨HOK.out, H.out.bg, .map (some m), ?_, .inr ⟨?_, m, rfl, hbm, ?_⟩⟩
    · rw [hbk g hgl hgm, HG2.out, HAL.out]
      rfl
    · rw [HAL.out]; simp
    · rw [HAL.out, List.map_append, List.length_append]
      exact HM3.out
  · refine (HB2.out.mono hbw).trans ⟨HG3.out.os, HG3.out.tape, HG3.out.output, HG3.out.size, fun k hk => ?_⟩
    exact hbk k (by have := HB2.out.size; omega) (by omega)
  · refine (CFr.of_below HB2.out).trans ⟨HG3.out.size, fun k hk hne hnm => ?_⟩
    refine hbk k hk (fun e => ?_)
    obtain ⟨es, cl, e2⟩ := HM.out.isMap
    exact hnm es cl (by rw [e, e2])
end Go.Proofs.Ytogiiefaakejlaa
