import Derived.Deep.CutBlock
import Derived.Deep.DeepCutAuto
import Derived.Test.YtogiiefaakejlaaCq
namespace Go.Proofs.Ytogiiefaakejlaa
open Go.RowKit Go.Maps

theorem mkM (w : World) : (Instr.makeMap 68 none).run Try.prog w = .ok (.map (some w.heap.size)) (w.alloc (.map #[] 0)) := by
  simp [Instr.makeMap, Result.andThen]
set_option maxRecDepth 100000 in
set_option maxHeartbeats 1000000 in
theorem add_first {base g : Nat} {w : World} (h : CI base g w []) (c : Ck) (hs : c.dat.size ≤ maxLen) (hfit : inI c.dg) (hbw : base ≤ w.heap.size) (hr : rgt c = true) : Calls Try.prog 15 #[.pointer (some ⟨g, 0, none⟩), c.v] w (AddR base g w [] c) := by
  have hA : addB [] c = true ∧ addE [] c = 0 := by unfold addE addB; rw [hr]; exact ⟨rfl, rfl⟩
  have hAL : addL [] c = [c] := by unfold addL; rw [hA.1]; rfl
  have hok := h.ok.add c hfit
  have HCK := hid (check_any c hs)
  rw [hr] at HCK
  have HNI : Hid (inI c.num) := rgt_fit hr
  have HHA := hid (fun (w' : World) (h' : CI base g w' []) => has_any h' c.num HNI.out)
  obtain ⟨dg, t, n, d, sm⟩ := c
  have HB := hid (below_alloc w (.cells #[.int .i64 dg, .int .i64 t, .int .i64 n, .string d, .int .i64 sm] 24))
  have HK := hid (KBox.made 24 w ⟨dg, t, n, d, sm⟩)
  unfold AddR
  rw [hA.1, hA.2]
  have H := hid h
  have HOK := hid hok
  have HAL := hid hAL
  clear hA h hr hs hok hAL
  go_enter Try.func15, Try.ntmps15
  go_wp2_with (go_at_call 11; fail)
  refine (HCK.out _).mono ?_
  rintro e w1 ⟨rfl, hb1⟩
  have HB1 := hid (HB.out.next hb1)
  have hk1 : KBox 24 w.heap.size w1 ⟨dg, t, n, d, sm⟩ := KBox.same HK.out (hb1.block _ (by simp))
  have HK1 := hid hk1
  obtain ⟨k0, k1, k2, k3, k4⟩ := hk1.cell
  have h1 := H.out.below HB1.out
  obtain ⟨mv, c0, c1, c2, hmv⟩ := h1.cells
  have HC1 := hid h1
  clear hb1 hk1 hmv h1
  go_wp2_with (go_quiet ((go_at_call 31; exact Calls.quiet_of_same (begun_no (HC1.out.drew _)))))
  go_wp2_with (go_at_call 32; fail)
  refine (HHA.out _ (HC1.out.drew _)).mono ?_
  rintro e w2 ⟨rfl, hb2⟩
  rw [show hasN [] n = false from rfl]
  have HB2 := hid ((HB1.out.dN _).next hb2)
  have h2 := H.out.below HB2.out
  have hk2 : KBox 24 w.heap.size w2 ⟨dg, t, n, d, sm⟩ := KBox.same (HK1.out.drew _) (hb2.block _ HK1.out.lt)
  have HK2 := hid hk2
  obtain ⟨k0, k1, k2, k3, k4⟩ := hk2.cell
  obtain ⟨mv, hg2, hmv⟩ := h2.mem
  rcases hmv with ⟨_, rfl⟩ | ⟨hm, _⟩
  rotate_left
  · exact absurd rfl hm
  have d0 : w2.cell? ⟨g, 0, none⟩ = some (.int .i64 0) := cell_of hg2 0
  have d1 : w2.cell? ⟨g, 1, none⟩ = some (.int .i64 0) := cell_of hg2 1
  have d2 : w2.cell? ⟨g, 2, none⟩ = some (.map none) := cell_of hg2 2
  have f0 := frees hg2 0
  have f1 := frees hg2 1
  have f2 := frees hg2 2
  have HC2 := hid h2
  have HG2 := hid hg2
  clear hb2 hk2 c0 c1 c2 h2 hg2
  go_wp2_with (go_at_call 31; refine (begun_no HC2.out).mono ?_; rintro e w3 ⟨rfl, hw⟩; have hw := hw.symm; subst hw)
  go_cut [] (fun wx => wx.heap[g]? = some (.cells #[.int .i64 dg, .int .i64 t, .map (some w2.heap.size)] 70 (0, 0)) ∧ wx.heap[w2.heap.size]? = some (.map #[] 0) ∧ wx.heap.size = w2.heap.size + 1 ∧ (∀ k, k < w2.heap.size → k ≠ g → wx.heap[k]? = w2.heap[k]?) ∧ wx.os = w2.os ∧ wx.tape = w2.tape ∧ wx.output = w2.output)
  case first =>
    have hmk := mkM
    have hbl : w.heap.size < w2.heap.size := HK2.out.lt
    have hgl : g < w2.heap.size := lt_of_block HG2.out
    have hne : ¬ w.heap.size = g := by
      have := H.out.lt
      omega
    have hne2 : ¬ g = w.heap.size := fun e => hne e.symm
    have r0 : (w2.alloc (.map #[] 0)).cell? ⟨w.heap.size, 0, none⟩ = some (.int .i64 dg) := ((below_alloc w2 _).cell (p := ⟨w.heap.size, 0, none⟩) hbl).trans k0
    have r1 : (w2.alloc (.map #[] 0)).cell? ⟨w.heap.size, 1, none⟩ = some (.int .i64 t) := ((below_alloc w2 _).cell (p := ⟨w.heap.size, 1, none⟩) hbl).trans k1
    have hg3 : (w2.alloc (.map #[] 0)).heap[g]? = some (.cells #[.int .i64 (dgOf []), .int .i64 (totOf []), .map none] 70 (0, 0)) := ((below_alloc w2 _).block g hgl).trans HG2.out
    have s0 : (w2.alloc (.map #[] 0)).cell? ⟨g, 0, none⟩ = some (.int .i64 0) := cell_of hg3 0
    have s1 : (w2.alloc (.map #[] 0)).cell? ⟨g, 1, none⟩ = some (.int .i64 0) := cell_of hg3 1
    have s2 : (w2.alloc (.map #[] 0)).cell? ⟨g, 2, none⟩ = some (.map none) := cell_of hg3 2
    have t0 := frees hg3 0
    have t1 := frees hg3 1
    have t2 := frees hg3 2
    have HG3 := hid hg3
    clear hg3
    go_region
    all_goals
      go_wp2
      go_meet
      have u0 := cells_set (j := 0) HG2.out (.int .i64 dg)
      have u1 := cells_set (j := 1) u0 (.int .i64 t)
      have u2 := cells_set (j := 2) u1 (.map (some w2.heap.size))
      have usz : (((w2.setCell ⟨g, 0, none⟩ (.int .i64 dg)).setCell ⟨g, 1, none⟩ (.int .i64 t)).setCell ⟨g, 2, none⟩ (.map (some w2.heap.size))).heap.size = w2.heap.size := by simp [World.setCell]
      have uo : ∀ k, k ≠ g → (((w2.setCell ⟨g, 0, none⟩ (.int .i64 dg)).setCell ⟨g, 1, none⟩ (.int .i64 t)).setCell ⟨g, 2, none⟩ (.map (some w2.heap.size))).heap[k]? = w2.heap[k]? := fun k hk => (Below.heap_setCell _ _ _ _ hk).trans ((Below.heap_setCell _ _ _ _ hk).trans (Below.heap_setCell _ _ _ _ hk))
      refine ⟨?_, ?_, ?_, fun k hk hkg => ?_, rfl, rfl, rfl⟩
      · exact (Below.heap_alloc _ _ _ (by rw [usz]; exact hgl)).trans u2
      · have := box_at (((w2.setCell ⟨g, 0, none⟩ (.int .i64 dg)).setCell ⟨g, 1, none⟩ (.int .i64 t)).setCell ⟨g, 2, none⟩ (.map (some w2.heap.size))) (.map #[] 0)
        rw [usz] at this
        exact this
      · show (World.heap (World.alloc _ _)).size = _
        simp [World.setCell]
      · exact (Below.heap_alloc _ _ _ (by rw [usz]; exact hk)).trans (uo k hkg)
  case rest =>
    rename World => wx
    obtain ⟨x1, x2, x3, x4, x5, x6, x7⟩ := hcut
    have hbl : w.heap.size < w2.heap.size := HK2.out.lt
    have hgl : g < w2.heap.size := lt_of_block HG2.out
    have hne : ¬ w.heap.size = g := by
      have := H.out.lt
      omega
    have hkx : KBox 24 w.heap.size wx ⟨dg, t, n, d, sm⟩ := KBox.same HK2.out (x4 _ hbl hne)
    obtain ⟨k0, k1, k2, k3, k4⟩ := hkx.cell
    have q2 : wx.cell? ⟨g, 2, none⟩ = some (.map (some w2.heap.size)) := cell_of x1 2
    have hmx : MIs w2.heap.size wx 0 [] := by
      have := MIs.made w2
      exact this.same (x2.trans (box_at w2 _).symm)
    obtain ⟨w3, hrun, hM3, hg3, hs3⟩ := MIs.store (w := wx.drew) (hmx.same rfl) (by omega) ⟨n, d⟩ HNI.out rfl
    unfold blk at hrun
    simp only at hrun
    have HM3 := hid hM3
    have HG3 := hid hg3
    have HX := hid x1
    have HX4 := hid x4
    have HXM := hid x2
    have HXS := hid x3
    have HXO := hid (And.intro x5 (And.intro x6 x7))
    clear hM3 hg3 hs3 x1 x4 x2 x3 x5 x6 x7 hmx hkx k0 k1 k4 d0 d1 d2 f0 f1 f2
    go_wp2
    go_region
    clear hrun
    go_wp2
    go_ret2
    have hbk : ∀ k, k < wx.heap.size → k ≠ w2.heap.size → w3.heap[k]? = wx.heap[k]? := fun k hk hne => HG3.out.block k hk (fun e => hne (by cases e; rfl))
    have hall : ∀ k, k < w2.heap.size → k ≠ g → w3.heap[k]? = w2.heap[k]? := fun k hk hkg => (hbk k (by rw [HXS.out]; omega) (by omega)).trans (HX4.out k hk hkg)
    have hsz : w2.heap.size ≤ w3.heap.size := by
      have a1 : wx.heap.size ≤ w3.heap.size := HG3.out.size
      have a2 := HXS.out
      omega
    refine ⟨rfl, ?_, ?_, ?_⟩
    · refine ⟨HOK.out, H.out.bg, .map (some w2.heap.size), ?_, .inr ⟨?_, w2.heap.size, rfl, ?_, ?_⟩⟩
      · rw [hbk g (by rw [HXS.out]; omega) (by omega), HX.out, HAL.out]
        rfl
      · rw [HAL.out]; simp
      · have := HB2.out.size; omega
      · rw [HAL.out]
        exact HM3.out
    · refine (HB2.out.mono hbw).trans ⟨HG3.out.os.trans HXO.out.1, HG3.out.tape.trans HXO.out.2.1, HG3.out.output.trans HXO.out.2.2, hsz, fun k hk => ?_⟩
      have := H.out.bg
      have := HB2.out.size
      exact hall k (by omega) (by omega)
    · refine (CFr.of_below HB2.out).trans ⟨hsz, fun k hk hne hnm => hall k hk hne⟩
/-- Add -/
theorem add_any {base g : Nat} {w : World} {L : List Ck} (h : CI base g w L) (c : Ck) (hs : c.dat.size ≤ maxLen) (hfit : inI c.dg) (hbw : base ≤ w.heap.size) : Calls Try.prog 15 #[.pointer (some ⟨g, 0, none⟩), c.v] w (AddR base g w L c) := by
  cases hr : rgt c with
  | false => exact add_bad h c hs hbw hr
  | true =>
    cases ho : okIn L c with
    | false => exact add_other h c hs hbw hr ho
    | true =>
      cases L with
      | nil => exact add_first h c hs hfit hbw hr
      | cons x r =>
        cases hh : hasN (x :: r) c.num with
        | true => exact add_same h c hs hbw hr ho hh
        | false => exact add_new h c hs hfit hbw hr ho hh
end Go.Proofs.Ytogiiefaakejlaa
