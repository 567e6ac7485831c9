import Derived.Test.YtabkfmmbjjchdaaUg
namespace Go.Proofs.Ytabkfmmbjjchdaa
open Go.RowKit Go.Maps

theorem set6 {w : World} {g : Nat} {cur : Array Value} {t : TypeId} (h : w.heap[g]? = some (.cells cur t (0, 0))) (j0 j1 j2 j3 j4 j5 : Nat) (v0 v1 v2 v3 v4 v5 : Value) : (((((((w.setCell ⟨g, j0, none⟩ v0).setCell ⟨g, j1, none⟩ v1).setCell ⟨g, j2, none⟩ v2).setCell ⟨g, j3, none⟩ v3).setCell ⟨g, j4, none⟩ v4).setCell ⟨g, j5, none⟩ v5).drew).heap[g]? = some (.cells ((((((cur.set! j0 v0).set! j1 v1).set! j2 v2).set! j3 v3).set! j4 v4).set! j5 v5) t (0, 0)) := by
  have h0 := cells_set (j := j0) h v0
  have h1 := cells_set (j := j1) h0 v1
  have h2 := cells_set (j := j2) h1 v2
  have h3 := cells_set (j := j3) h2 v3
  have h4 := cells_set (j := j4) h3 v4
  have h5 := cells_set (j := j5) h4 v5
  generalize (((((w.setCell ⟨g, j0, none⟩ v0).setCell ⟨g, j1, none⟩ v1).setCell ⟨g, j2, none⟩ v2).setCell ⟨g, j3, none⟩ v3).setCell ⟨g, j4, none⟩ v4).setCell ⟨g, j5, none⟩ v5 = wq at h5 ⊢
  exact h5
theorem oth6 (w : World) {g k : Nat} (hk : k ≠ g) (j0 j1 j2 j3 j4 j5 : Nat) (v0 v1 v2 v3 v4 v5 : Value) : (((((((w.setCell ⟨g, j0, none⟩ v0).setCell ⟨g, j1, none⟩ v1).setCell ⟨g, j2, none⟩ v2).setCell ⟨g, j3, none⟩ v3).setCell ⟨g, j4, none⟩ v4).setCell ⟨g, j5, none⟩ v5).drew).heap[k]? = w.heap[k]? := by
  have h5 := (Below.heap_setCell (((((w.setCell ⟨g, j0, none⟩ v0).setCell ⟨g, j1, none⟩ v1).setCell ⟨g, j2, none⟩ v2).setCell ⟨g, j3, none⟩ v3).setCell ⟨g, j4, none⟩ v4) ⟨g, j5, none⟩ v5 k hk).trans ((Below.heap_setCell ((((w.setCell ⟨g, j0, none⟩ v0).setCell ⟨g, j1, none⟩ v1).setCell ⟨g, j2, none⟩ v2).setCell ⟨g, j3, none⟩ v3) ⟨g, j4, none⟩ v4 k hk).trans ((Below.heap_setCell (((w.setCell ⟨g, j0, none⟩ v0).setCell ⟨g, j1, none⟩ v1).setCell ⟨g, j2, none⟩ v2) ⟨g, j3, none⟩ v3 k hk).trans ((Below.heap_setCell ((w.setCell ⟨g, j0, none⟩ v0).setCell ⟨g, j1, none⟩ v1) ⟨g, j2, none⟩ v2 k hk).trans ((Below.heap_setCell (w.setCell ⟨g, j0, none⟩ v0) ⟨g, j1, none⟩ v1 k hk).trans (Below.heap_setCell w ⟨g, j0, none⟩ v0 k hk)))))
  generalize (((((w.setCell ⟨g, j0, none⟩ v0).setCell ⟨g, j1, none⟩ v1).setCell ⟨g, j2, none⟩ v2).setCell ⟨g, j3, none⟩ v3).setCell ⟨g, j4, none⟩ v4).setCell ⟨g, j5, none⟩ v5 = wq at h5 ⊢
  exact h5
theorem frees' {w : World} {g : Nat} {cs : Array Value} {t : TypeId} (hh : w.heap[g]? = some (.cells cs t (0, 0))) (i : Nat) : w.frozen? ⟨g, i, none⟩ = false := by simp [World.frozen?, hh]
set_option maxRecDepth 100000 in
set_option maxHeartbeats 16000000 in
theorem rdone_yes {W : World} {r : Nat} {w : World} {R : List Kx} (h : RT W r w R) (c q : Int) (Rr : Rs) (hsl : ∃ ao n cap, Rr.nv = .slice ao n cap) (hR : SLie W Rr.nv Rr.ns) (ho : okc c q = true) {j : Nat} (hj : j < R.length) (hp : pl R c = some j) (hk : R[j].k = c) (hnq : R[j].n = q) (hdf : R[j].d = false) : Calls Try.prog 11 #[.pointer (some ⟨r, 0, none⟩), .int .i64 c, .int .i64 q, Rr.v] w (RBR W r w (R.set j (mkK c q true Rr)) 0) := by
  have HSET := hid (withL_set R (mkK c q true Rr) j h.rise hj hk)
  have HRS := hid (withL_rise h.rise (mkK c q true Rr))
  have HWM := hid (fun x => withL_mem h.rise (mkK c q true Rr) x)
  have HW := hid (wrong_any c q)
  rw [ho] at HW
  have HFI := hid (fun (w' : World) (h' : RT W r w' R) => rfind_any h' c)
  rw [hp] at HFI
  have H := hid h
  obtain ⟨Ro, Rn, Rc, hRv⟩ := hsl
  obtain ⟨Re, Rt, Ra, Rb, Rcc, Rnv, Rns⟩ := Rr
  simp only at hRv
  subst hRv
  have HB := hid (below_alloc w (.cells #[.int .i64 Re, .string Rt, .int .i64 Ra, .int .i64 Rb, .int .i64 Rcc, .slice Ro Rn Rc] 32))
  have HZ : Hid (B32 w.heap.size (w.alloc (.cells #[.int .i64 Re, .string Rt, .int .i64 Ra, .int .i64 Rb, .int .i64 Rcc, .slice Ro Rn Rc] 32)) ⟨Re, Rt, Ra, Rb, Rcc, .slice Ro Rn Rc, Rns⟩) := box_at _ _
  simp only [Rs.v]
  have HRN := hid hR
  obtain ⟨y, hy⟩ : ∃ y, y = R[j]'hj := ⟨_, rfl⟩
  rw [← hy] at hk hnq hdf
  have HY := hid hy
  obtain ⟨yk, yn, yd, ye, yt, ya, yb, yc, ynv, yns⟩ := y
  simp only at hk hnq hdf
  subst hk hnq hdf
  have hd : (yn != yn) = false := by simp
  unfold RBR
  clear h ho hp hy hR
  go_enter Try.func11, Try.ntmps11
  go_wp2_with (first
    | (go_at_call 19; refine (HW.out _).mono ?_; rintro e w2 ⟨rfl, hw⟩; have hw := hw.symm; subst hw)
    | (go_at_call 24; fail))
  refine (HFI.out _ (H.out.below HB.out)).mono ?_
  rintro e w2 ⟨rfl, hb2⟩
  have HB2 := hid (HB.out.next hb2)
  have HZ2 : Hid (B32 w.heap.size w2 ⟨Re, Rt, Ra, Rb, Rcc, .slice Ro Rn Rc, Rns⟩) := (hb2.block _ (by simp)).trans HZ.out
  clear hb2
  have h2 := H.out.below HB2.out
  obtain ⟨v2, hm2, hr2⟩ := h2.mem
  obtain ⟨gx, cx, rfl, hgx, hcx⟩ := hr2.at (by omega)
  obtain ⟨lc1, lc2⟩ : R.length ≤ cx ∧ cx ≤ maxLen := by
    obtain ⟨ao, cp, e, l1, l2⟩ := hr2.len
    cases e
    exact ⟨l1, l2⟩
  unfold maxLen at lc2
  have c0 : w2.cell? ⟨r, 0, none⟩ = some (.slice (some ⟨gx, 0, none⟩) R.length cx) := by simp [World.cell?, hm2]
  have hat := hcx j hj
  rw [← HY.out] at hat
  have a1 : w2.cell? ⟨gx, j * 9 + 1, none⟩ = some (.int .i64 yn) := hat 1 (by omega)
  have a2 : w2.cell? ⟨gx, j * 9 + 2, none⟩ = some (.bool false) := hat 2 (by omega)
  have HM2 := hid hm2
  have HR2 := hid hr2
  have hneg : decide ((j : Int) < 0) = false := by simp
  obtain ⟨cur, hcur⟩ : ∃ cur, w2.heap[gx]? = some (.cells cur 46 (0, 0)) := by
    obtain ⟨_, cur, hc⟩ := hr2.own gx rfl
    exact ⟨cur, hc⟩
  have hgr : gx ≠ r := by
    intro e
    rw [e, hm2] at hcur
    cases hcur
  have hgb : gx ≠ w.heap.size := by
    intro e
    have h9 := HZ2.out
    unfold B32 at h9
    rw [e, h9] at hcur
    cases hcur
  have f2 := frees' hcur (j * 9 + 2)
  have hbW : W.heap.size ≤ gx := (hr2.own gx rfl).1
  have HCUR := hid hcur
  have HAT := hid hat
  have hc9 : cur.size ≥ R.length * 9 := by
    obtain ⟨e1, e2 | ⟨x, cap', cur', e3, e4, e5, r1, r2, r3, r4⟩⟩ := hr2
    · cases e2.1
    · cases e3
      rw [hcur] at e5
      cases e5
      have := Nat.mul_le_mul_right 9 r1
      omega
  obtain ⟨N, hN⟩ : ∃ N, N = R.length := ⟨_, rfl⟩
  rw [← hN] at c0 lc1
  have HNN := hid hN
  have hjN : j < N := by rw [hN]; exact hj
  clear hat hcx h2 hm2 hr2 hcur hN
  simp only [plI]
  go_upto_region 9 with fail
  have hcur3 := cells_set (j := j * 9 + 2) HCUR.out (.bool true)
  obtain ⟨w3, hw3⟩ : ∃ w3, w3 = w2.setCell ⟨gx, j * 9 + 2, none⟩ (.bool true) := ⟨_, rfl⟩
  have hoth : ∀ k, k ≠ gx → w3.heap[k]? = w2.heap[k]? := fun k hk => by rw [hw3]; exact Below.heap_setCell _ _ _ _ hk
  have hb3 : Below W.heap.size w2 w3 := by rw [hw3]; exact (Below.refl _ _).setCell (p := ⟨gx, j * 9 + 2, none⟩) hbW _
  rw [← hw3] at hcur3 ⊢
  clear hw3 a1 a2 f2
  have hm3 : w3.heap[r]? = some (.cells #[.slice (some ⟨gx, 0, none⟩) R.length cx] 28 (0, 0)) := (hoth r (fun e => hgr e.symm)).trans HM2.out
  have d0 : w3.cell? ⟨r, 0, none⟩ = some (.slice (some ⟨gx, 0, none⟩) N cx) := by rw [HNN.out]; simp [World.cell?, hm3]
  have HZ3 : Hid (B32 w.heap.size w3 ⟨Re, Rt, Ra, Rb, Rcc, .slice Ro Rn Rc, Rns⟩) := (hoth _ (fun e => hgb e.symm)).trans HZ2.out
  obtain ⟨b0, b1, b2, b3, b4, b5⟩ := HZ3.out.cells
  simp only at b0 b1 b2 b3 b4 b5
  obtain ⟨cur3, hc3⟩ : ∃ cur3, cur3 = cur.set! (j * 9 + 2) (.bool true) := ⟨_, rfl⟩
  rw [← hc3] at hcur3
  have hs3 : cur3.size = cur.size := by rw [hc3]; simp
  obtain ⟨x0, g0⟩ : ∃ x, w3.cell? ⟨gx, j * 9 + 3, none⟩ = some x := ⟨cur3[j * 9 + 3]'(by omega), by simp [World.cell?, hcur3]⟩
  have fz0 := frees' hcur3 (j * 9 + 3)
  obtain ⟨x1, g1⟩ : ∃ x, w3.cell? ⟨gx, j * 9 + 3 + 1, none⟩ = some x := ⟨cur3[j * 9 + 3 + 1]'(by omega), by simp [World.cell?, hcur3]⟩
  have fz1 := frees' hcur3 (j * 9 + 3 + 1)
  obtain ⟨x2, g2⟩ : ∃ x, w3.cell? ⟨gx, j * 9 + 3 + 2, none⟩ = some x := ⟨cur3[j * 9 + 3 + 2]'(by omega), by simp [World.cell?, hcur3]⟩
  have fz2 := frees' hcur3 (j * 9 + 3 + 2)
  obtain ⟨x3, g3⟩ : ∃ x, w3.cell? ⟨gx, j * 9 + 3 + 3, none⟩ = some x := ⟨cur3[j * 9 + 3 + 3]'(by omega), by simp [World.cell?, hcur3]⟩
  have fz3 := frees' hcur3 (j * 9 + 3 + 3)
  obtain ⟨x4, g4⟩ : ∃ x, w3.cell? ⟨gx, j * 9 + 3 + 4, none⟩ = some x := ⟨cur3[j * 9 + 3 + 4]'(by omega), by simp [World.cell?, hcur3]⟩
  have fz4 := frees' hcur3 (j * 9 + 3 + 4)
  obtain ⟨x5, g5⟩ : ∃ x, w3.cell? ⟨gx, j * 9 + 3 + 5, none⟩ = some x := ⟨cur3[j * 9 + 3 + 5]'(by omega), by simp [World.cell?, hcur3]⟩
  have fz5 := frees' hcur3 (j * 9 + 3 + 5)
  have HC3 := hid hcur3
  have HCC := hid hc3
  clear hcur3 hc3 hm3
  go_region
  obtain ⟨wz, hwz⟩ : ∃ wz, wz = ((((((w3.setCell ⟨gx, j * 9 + 3, none⟩ (.int .i64 Re)).setCell ⟨gx, j * 9 + 3 + 1, none⟩ (.string Rt)).setCell ⟨gx, j * 9 + 3 + 2, none⟩ (.int .i64 Ra)).setCell ⟨gx, j * 9 + 3 + 3, none⟩ (.int .i64 Rb)).setCell ⟨gx, j * 9 + 3 + 4, none⟩ (.int .i64 Rcc)).setCell ⟨gx, j * 9 + 3 + 5, none⟩ (.slice Ro Rn Rc)).drew := ⟨_, rfl⟩
  have hcz2 := set6 HC3.out (j * 9 + 3) (j * 9 + 3 + 1) (j * 9 + 3 + 2) (j * 9 + 3 + 3) (j * 9 + 3 + 4) (j * 9 + 3 + 5) (.int .i64 Re) (.string Rt) (.int .i64 Ra) (.int .i64 Rb) (.int .i64 Rcc) (.slice Ro Rn Rc)
  rw [← hwz] at hcz2
  have hotz : ∀ k, k ≠ gx → wz.heap[k]? = w2.heap[k]? := fun k hk => by
    rw [hwz]
    exact (oth6 w3 hk _ _ _ _ _ _ _ _ _ _ _ _).trans (hoth k hk)
  have hbz : Below W.heap.size w2 wz := by
    rw [hwz]
    exact below_drew ((((((hb3.setCell (p := ⟨gx, j * 9 + 3, none⟩) hbW _).setCell (p := ⟨gx, j * 9 + 3 + 1, none⟩) hbW _).setCell (p := ⟨gx, j * 9 + 3 + 2, none⟩) hbW _).setCell (p := ⟨gx, j * 9 + 3 + 3, none⟩) hbW _).setCell (p := ⟨gx, j * 9 + 3 + 4, none⟩) hbW _).setCell (p := ⟨gx, j * 9 + 3 + 5, none⟩) hbW _)
  rw [← hwz]
  simp only [Array.set!_eq_setIfInBounds] at hcz2
  have hsz3 : cur3.size = cur.size := hs3
  have hcc := HCC.out
  rw [Array.set!_eq_setIfInBounds] at hcc
  have hnz : NRow W.heap.size wz (.slice (some ⟨gx, 0, none⟩) R.length cx) (R.set j (mkK yk yn true ⟨Re, Rt, Ra, Rb, Rcc, .slice Ro Rn Rc, Rns⟩)) := by
    refine NRow.put HR2.out j hj _ hcz2 (fun c' hc' => ?_) (fun c' hc' m hm => ?_) (fun k hk => ?_)
    · rw [HCUR.out] at hc'
      cases hc'
      simp [hsz3]
    · rw [HCUR.out] at hc'
      cases hc'
      have m2 := hm 2 (by omega)
      have m3 := hm 3 (by omega)
      have m4 := hm 4 (by omega)
      have m5 := hm 5 (by omega)
      have m6 := hm 6 (by omega)
      have m7 := hm 7 (by omega)
      have m8 := hm 8 (by omega)
      rw [Array.getElem?_setIfInBounds_ne (by omega), Array.getElem?_setIfInBounds_ne (by omega), Array.getElem?_setIfInBounds_ne (by omega), Array.getElem?_setIfInBounds_ne (by omega), Array.getElem?_setIfInBounds_ne (by omega), Array.getElem?_setIfInBounds_ne (by omega), hcc, Array.getElem?_setIfInBounds_ne (by omega)]
    · have q0 : cur[j * 9]? = some (.int .i64 yk) := by have := HAT.out 0 (by omega); simp only [World.cell?, HCUR.out] at this; simpa [Kx.ks] using this
      have q1 : cur[j * 9 + 1]? = some (.int .i64 yn) := by have := HAT.out 1 (by omega); simp only [World.cell?, HCUR.out] at this; simpa [Kx.ks] using this
      have hjs : j * 9 + 8 < cur.size := by have := HNN.out; omega
      match k, hk with
      | 0, _ => rw [Array.getElem?_setIfInBounds_ne (by omega), Array.getElem?_setIfInBounds_ne (by omega), Array.getElem?_setIfInBounds_ne (by omega), Array.getElem?_setIfInBounds_ne (by omega), Array.getElem?_setIfInBounds_ne (by omega), Array.getElem?_setIfInBounds_ne (by omega), hcc, Array.getElem?_setIfInBounds_ne (by omega)]; exact q0
      | 1, _ => rw [Array.getElem?_setIfInBounds_ne (by omega), Array.getElem?_setIfInBounds_ne (by omega), Array.getElem?_setIfInBounds_ne (by omega), Array.getElem?_setIfInBounds_ne (by omega), Array.getElem?_setIfInBounds_ne (by omega), Array.getElem?_setIfInBounds_ne (by omega), hcc, Array.getElem?_setIfInBounds_ne (by omega)]; exact q1
      | 2, _ => rw [Array.getElem?_setIfInBounds_ne (by omega), Array.getElem?_setIfInBounds_ne (by omega), Array.getElem?_setIfInBounds_ne (by omega), Array.getElem?_setIfInBounds_ne (by omega), Array.getElem?_setIfInBounds_ne (by omega), Array.getElem?_setIfInBounds_ne (by omega), hcc, Array.getElem?_setIfInBounds_self_of_lt (by omega)]; rfl
      | 3, _ => rw [Array.getElem?_setIfInBounds_ne (by omega), Array.getElem?_setIfInBounds_ne (by omega), Array.getElem?_setIfInBounds_ne (by omega), Array.getElem?_setIfInBounds_ne (by omega), Array.getElem?_setIfInBounds_ne (by omega), Array.getElem?_setIfInBounds_self_of_lt (by omega)]; rfl
      | 4, _ => rw [Array.getElem?_setIfInBounds_ne (by omega), Array.getElem?_setIfInBounds_ne (by omega), Array.getElem?_setIfInBounds_ne (by omega), Array.getElem?_setIfInBounds_ne (by omega), Array.getElem?_setIfInBounds_self_of_lt (by simp; omega)]; rfl
      | 5, _ => rw [Array.getElem?_setIfInBounds_ne (by omega), Array.getElem?_setIfInBounds_ne (by omega), Array.getElem?_setIfInBounds_ne (by omega), Array.getElem?_setIfInBounds_self_of_lt (by simp; omega)]; rfl
      | 6, _ => rw [Array.getElem?_setIfInBounds_ne (by omega), Array.getElem?_setIfInBounds_ne (by omega), Array.getElem?_setIfInBounds_self_of_lt (by simp; omega)]; rfl
      | 7, _ => rw [Array.getElem?_setIfInBounds_ne (by omega), Array.getElem?_setIfInBounds_self_of_lt (by simp; omega)]; rfl
      | 8, _ => rw [Array.getElem?_setIfInBounds_self_of_lt (by simp; omega)]; rfl
  have HNZ := hid hnz
  have HBZ := hid hbz
  have HOZ := hid hotz
  clear hnz hbz hotz hcz2 hwz hcc
  go_wp2
  go_ret
  have h2 := H.out.below HB2.out
  refine ⟨rfl, ⟨H.out.br, h2.bel.trans HBZ.out, by rw [← HSET.out]; exact HRS.out, ⟨_, (HOZ.out r (fun e => hgr e.symm)).trans HM2.out, HNZ.out⟩, fun x hx => ?_⟩, ?_⟩
  · rw [← HSET.out] at hx
    rcases (HWM.out x).1 hx with rfl | ⟨hx, _⟩
    · exact HRN.out
    · exact H.out.nv x hx
  · refine (RFr.of_below HB2.out).trans ⟨HBZ.out.size, fun k hk hkr hkn => ?_⟩
    refine HOZ.out k (fun e => ?_)
    rcases hkn with hkn | hkn
    · omega
    · rw [e] at hkn
      exact hkn _ _ HCUR.out
/-- the document's Done -/
theorem rdone_any {W : World} {r : Nat} {w : World} {R : List Kx} (h : RT W r w R) (c q : Int) (Rr : Rs) (hR : SLie W Rr.nv Rr.ns) : Calls Try.prog 11 #[.pointer (some ⟨r, 0, none⟩), .int .i64 c, .int .i64 q, Rr.v] w (RBR W r w (donL R c q Rr) (donE R c q)) := by
  have hsl : ∃ ao n cap, Rr.nv = .slice ao n cap := by
    obtain ⟨ao, cap, e, _⟩ := hR
    exact ⟨ao, _, cap, e⟩
  cases ho : okc c q with
  | false =>
    have e1 : donE R c q = 1 := by unfold donE; rw [ho]; rfl
    have e2 : donL R c q Rr = R := by unfold donL; rw [if_neg (by rw [e1]; decide)]
    rw [e1, e2]
    exact rdone_bad h c q Rr hsl ho
  | true =>
    have hq := (okc_iff c q).1 ho
    cases hp : pl R c with
    | none =>
      have hk : at_ R c = kz := by unfold at_; rw [pl_none hp]; rfl
      have h1 : stt kz.n kz.d q = 1 := by
        show stt 0 false q = 1
        unfold stt
        rw [if_pos (by omega)]
      have e1 : donE R c q = 6 := by unfold donE; rw [ho, hk, h1]; rfl
      have e2 : donL R c q Rr = R := by unfold donL; rw [if_neg (by rw [e1]; decide)]
      rw [e1, e2]
      exact rdone_none h c q Rr hsl ho hp
    | some j =>
      obtain ⟨hj, h1, h2⟩ := pl_some hp
      have hk : at_ R c = R[j] := by unfold at_; rw [h2]; rfl
      by_cases hy : R[j].n = q ∧ R[j].d = false
      · have hs : stt R[j].n R[j].d q = 2 := by unfold stt; rw [hy.1, hy.2, if_neg (by omega), if_neg (by omega)]; rfl
        have e1 : donE R c q = 0 := by unfold donE; rw [ho, hk, hs]; rfl
        have e2 : donL R c q Rr = R.set j (mkK c q true Rr) := by unfold donL; rw [if_pos e1]; exact withL_set R _ j h.rise hj h1
        rw [e1, e2]
        exact rdone_yes h c q Rr hsl hR ho hj hp h1 hy.1 hy.2
      · have e1 : donE R c q = if R[j].n = q then 7 else 6 := by
          unfold donE
          rw [ho, hk]
          by_cases hn : R[j].n = q
          · have hd : R[j].d = true := by cases hh : R[j].d with | true => rfl | false => exact absurd ⟨hn, hh⟩ hy
            have hs : stt R[j].n R[j].d q = 3 := by unfold stt; rw [hn, hd, if_neg (by omega), if_neg (by omega)]; rfl
            rw [hs, if_pos hn]
            rfl
          · have hs : stt R[j].n R[j].d q = 1 ∨ stt R[j].n R[j].d q = 4 := by
              unfold stt
              by_cases hl : R[j].n < q
              · rw [if_pos hl]; exact .inl rfl
              · rw [if_neg hl, if_pos (by omega)]; exact .inr rfl
            rw [if_neg hn]
            rcases hs with hs | hs <;> rw [hs] <;> rfl
        have e2 : donL R c q Rr = R := by unfold donL; rw [if_neg]; rw [e1]; split <;> decide
        rw [e1, e2]
        exact rdone_some h c q Rr hsl ho hj hp hy
end Go.Proofs.Ytabkfmmbjjchdaa
