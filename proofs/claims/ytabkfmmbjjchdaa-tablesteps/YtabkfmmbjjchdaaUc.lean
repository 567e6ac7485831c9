import Derived.Test.YtabkfmmbjjchdaaUb
namespace Go.Proofs.Ytabkfmmbjjchdaa
open Go.RowKit Go.Maps

theorem cells_set {w : World} {g j : Nat} {cur : Array Value} {t : TypeId} (h : w.heap[g]? = some (.cells cur t (0, 0))) (v : Value) : (w.setCell ⟨g, j, none⟩ v).heap[g]? = some (.cells (cur.set! j v) t (0, 0)) := by
  simp [World.setCell, Array.getElem?_modify, h]
theorem B32.set6 {g : Nat} {w : World} {x : Rs} (h : B32 g w x) (y : Rs) : B32 g ((((((w.setCell ⟨g, 0, none⟩ (.int .i64 y.e)).setCell ⟨g, 1, none⟩ (.string y.t)).setCell ⟨g, 2, none⟩ (.int .i64 y.a)).setCell ⟨g, 3, none⟩ (.int .i64 y.b)).setCell ⟨g, 4, none⟩ (.int .i64 y.c)).setCell ⟨g, 5, none⟩ y.nv) y := by
  unfold B32 at *
  rw [cells_set (cells_set (cells_set (cells_set (cells_set (cells_set h _) _) _) _) _) _]
  rfl
theorem below6 {B g : Nat} {w0 w : World} (h : Below B w0 w) (hg : B ≤ g) (v0 v1 v2 v3 v4 v5 : Value) : Below B w0 ((((((w.setCell ⟨g, 0, none⟩ v0).setCell ⟨g, 1, none⟩ v1).setCell ⟨g, 2, none⟩ v2).setCell ⟨g, 3, none⟩ v3).setCell ⟨g, 4, none⟩ v4).setCell ⟨g, 5, none⟩ v5) :=
  (((((h.setCell (p := ⟨g, 0, none⟩) hg _).setCell (p := ⟨g, 1, none⟩) hg _).setCell (p := ⟨g, 2, none⟩) hg _).setCell (p := ⟨g, 3, none⟩) hg _).setCell (p := ⟨g, 4, none⟩) hg _).setCell (p := ⟨g, 5, none⟩) hg _
theorem b32_drew {g : Nat} {w : World} {x : Rs} (h : B32 g w x) : B32 g w.drew x := h
theorem below_drew {B : Nat} {w w' : World} (h : Below B w w') : Below B w w'.drew := ⟨h.os, h.tape, h.output, h.size, h.block⟩
theorem ret13 {a : Act} {w : World} {R : Nat} {m : Rs} {x e : Int} {post : Ending → World → Prop} (hb : B32 R w m) (h2 : a.tmps.getD 7 undef = .pointer (some ⟨R, 0, none⟩)) (h3 : a.tmps.getD 6 undef = .int .i64 x) (h4 : a.tmps.getD 8 undef = .int .i64 e) (hd : a.defers = []) (hp : post (.returned (.tuple #[.int .i64 x, m.v, .int .i64 e])) w) : bodyPost Try.prog Try.f13 post .ret a w := by
  refine bodyPost_ret (v := .tuple #[.int .i64 x, m.v, .int .i64 e]) ?_ hd hp
  simp only [results, show Try.f13.results = #[.tmp 6, .cell 7 32, .tmp 8] from rfl]
  rw [Array.getD_eq_getD_getElem?] at h2 h3 h4
  simp [h2, h3, h4, asAddr, load32 hb]
set_option maxRecDepth 100000 in
set_option maxHeartbeats 1000000 in
theorem rask_bad {p : Value} (c r : Int) (w : World) (h : okc c r = false) : Calls Try.prog 13 #[p, .int .i64 c, .int .i64 r] w fun e w' => e = .returned (.tuple #[.int .i64 0, rz.v, .int .i64 1]) ∧ Below w.heap.size w w' := by
  have HW := hid (wrong_any c r)
  rw [h] at HW
  have HZ := hid (z32 w)
  have HB := hid (below_alloc w (.cells #[.int .i64 0, .string ⟨#[]⟩, .int .i64 0, .int .i64 0, .int .i64 0, .slice none 0 0] 32))
  clear h
  go_enter Try.func13, Try.ntmps13
  go_wp2_with (go_at_call 19; refine (HW.out _).mono ?_; rintro e w2 ⟨rfl, hw⟩; have hw := hw.symm; subst hw)
  exact ret13 (R := w.heap.size) (m := rz) HZ.out rfl rfl rfl rfl ⟨rfl, HB.out⟩
set_option maxRecDepth 100000 in
set_option maxHeartbeats 1000000 in
theorem rask_none {W : World} {r : Nat} {w : World} {R : List Kx} (h : RT W r w R) (c q : Int) (ho : okc c q = true) (hp : pl R c = none) : Calls Try.prog 13 #[.pointer (some ⟨r, 0, none⟩), .int .i64 c, .int .i64 q] w fun e w' => e = .returned (.tuple #[.int .i64 1, rz.v, .int .i64 0]) ∧ Below w.heap.size w w' := by
  have HW := hid (wrong_any c q)
  rw [ho] at HW
  have HZ := hid (z32 w)
  have HB := hid (below_alloc w (.cells #[.int .i64 0, .string ⟨#[]⟩, .int .i64 0, .int .i64 0, .int .i64 0, .slice none 0 0] 32))
  have HFI := hid (fun (w' : World) (h' : RT W r w' R) => rfind_any h' c)
  rw [hp] at HFI
  have H := hid h
  clear h ho hp
  go_enter Try.func13, Try.ntmps13
  go_wp2_with (first
    | (go_at_call 19; refine (HW.out _).mono ?_; rintro e w2 ⟨rfl, hw⟩; have hw := hw.symm; subst hw)
    | (go_at_call 24; fail))
  refine (HFI.out _ (H.out.below HB.out)).mono ?_
  rintro e w2 ⟨rfl, hb2⟩
  have HB2 := hid (HB.out.next hb2)
  have HZ2 : Hid (B32 w.heap.size w2 rz) := (hb2.block _ (by simp)).trans HZ.out
  obtain ⟨b0, b1, b2, b3, b4, b5⟩ := HZ2.out.cells
  have f0 := HZ2.out.fr 0
  have f1 := HZ2.out.fr 1
  have f2 := HZ2.out.fr 2
  have f3 := HZ2.out.fr 3
  have f4 := HZ2.out.fr 4
  have f5 := HZ2.out.fr 5
  simp only [rz] at b0 b1 b2 b3 b4 b5
  clear hb2
  have hneg : decide ((-1 : Int) < 0) = true := rfl
  simp only [plI]
  go_wp2
  exact ret13 (R := w.heap.size) (m := rz) (HZ2.out.set6 rz) rfl rfl rfl rfl ⟨rfl, below6 HB2.out (Nat.le_refl _) _ _ _ _ _ _⟩
set_option maxRecDepth 100000 in
set_option maxHeartbeats 2000000 in
theorem rask_some {W : World} {r : Nat} {w : World} {R : List Kx} (h : RT W r w R) (c q : Int) (ho : okc c q = true) {j : Nat} (hj : j < R.length) (hp : pl R c = some j) : Calls Try.prog 13 #[.pointer (some ⟨r, 0, none⟩), .int .i64 c, .int .i64 q] w fun e w' => e = .returned (.tuple #[.int .i64 (stt R[j].n R[j].d q), (if stt R[j].n R[j].d q = 3 then R[j].r else rz).v, .int .i64 0]) ∧ Below w.heap.size w w' := by
  have HW := hid (wrong_any c q)
  rw [ho] at HW
  have HZ := hid (z32 w)
  have HB := hid (below_alloc w (.cells #[.int .i64 0, .string ⟨#[]⟩, .int .i64 0, .int .i64 0, .int .i64 0, .slice none 0 0] 32))
  have HFI := hid (fun (w' : World) (h' : RT W r w' R) => rfind_any h' c)
  rw [hp] at HFI
  have H := hid h
  obtain ⟨yo, ym, yq, hyv⟩ := h.slice (List.getElem_mem hj)
  obtain ⟨y, hy⟩ : ∃ y, y = R[j]'hj := ⟨_, rfl⟩
  rw [← hy] at hyv ⊢
  have HY := hid hy
  obtain ⟨yk, yn, yd, ye, yt, ya, yb, yc, ynv, yns⟩ := y
  simp only at hyv
  subst hyv
  simp only
  clear h ho hp hy
  by_cases h1 : yn < q
  · have hs : stt yn yd q = 1 := by unfold stt; rw [if_pos h1]
    rw [hs]
    have hd1 : decide (q > yn) = true := by simpa using h1
    clear hs
    go_enter Try.func13, Try.ntmps13
    go_wp2_with (first
      | (go_at_call 19; refine (HW.out _).mono ?_; rintro e w2 ⟨rfl, hw⟩; have hw := hw.symm; subst hw)
      | (go_at_call 24; fail))
    refine (HFI.out _ (H.out.below HB.out)).mono ?_
    rintro e w2 ⟨rfl, hb2⟩
    have HB2 := hid (HB.out.next hb2)
    have HZ2 : Hid (B32 w.heap.size w2 rz) := (hb2.block _ (by simp)).trans HZ.out
    obtain ⟨b0, b1, b2, b3, b4, b5⟩ := HZ2.out.cells
    have f0 := HZ2.out.fr 0
    have f1 := HZ2.out.fr 1
    have f2 := HZ2.out.fr 2
    have f3 := HZ2.out.fr 3
    have f4 := HZ2.out.fr 4
    have f5 := HZ2.out.fr 5
    simp only [rz] at b0 b1 b2 b3 b4 b5
    clear hb2
    have h2 := H.out.below HB2.out
    obtain ⟨v2, hm2, hr2⟩ := h2.mem
    obtain ⟨gx, cx, rfl, hgx, hcx⟩ := hr2.at (by omega)
    obtain ⟨lc1, lc2⟩ : R.length ≤ cx ∧ cx ≤ maxLen := by
      obtain ⟨ao, cp, e, l1, l2⟩ := hr2.len
      cases e
      exact ⟨l1, l2⟩
    unfold maxLen at lc2
    have c0 : w2.cell? ⟨r, 0, none⟩ = some (.slice (some ⟨gx, 0, none⟩) R.length cx) := by simp [World.cell?, hm2]
    have hat := hcx j hj
    rw [← HY.out] at hat
    have a1 : w2.cell? ⟨gx, j * 9 + 1, none⟩ = some (.int .i64 yn) := hat 1 (by omega)
    have a2 : w2.cell? ⟨gx, j * 9 + 2, none⟩ = some (.bool yd) := hat 2 (by omega)
    have a3 : w2.cell? ⟨gx, j * 9 + 3, none⟩ = some (.int .i64 ye) := hat 3 (by omega)
    have a4 : w2.cell? ⟨gx, j * 9 + 4, none⟩ = some (.string yt) := hat 4 (by omega)
    have a5 : w2.cell? ⟨gx, j * 9 + 5, none⟩ = some (.int .i64 ya) := hat 5 (by omega)
    have a6 : w2.cell? ⟨gx, j * 9 + 6, none⟩ = some (.int .i64 yb) := hat 6 (by omega)
    have a7 : w2.cell? ⟨gx, j * 9 + 7, none⟩ = some (.int .i64 yc) := hat 7 (by omega)
    have a8 : w2.cell? ⟨gx, j * 9 + 8, none⟩ = some (.slice yo ym yq) := hat 8 (by omega)
    obtain ⟨N, hN⟩ : ∃ N, N = R.length := ⟨_, rfl⟩
    rw [← hN] at c0 lc1 hj
    have hneg : decide ((j : Int) < 0) = false := by simp
    clear hat hcx hr2 hm2 h2 hN HY
    simp only [plI]
    go_wp2
    exact ret13 (R := w.heap.size) (m := rz) (HZ2.out.set6 rz) rfl rfl rfl rfl ⟨rfl, below6 HB2.out (Nat.le_refl _) _ _ _ _ _ _⟩
  · have hd1 : decide (q > yn) = false := by simpa using h1
    by_cases h2 : q < yn
    · have hs : stt yn yd q = 4 := by unfold stt; rw [if_neg h1, if_pos h2]
      rw [hs]
      have hd2 : decide (q < yn) = true := by simpa using h2
      clear hs
      go_enter Try.func13, Try.ntmps13
      go_wp2_with (first
        | (go_at_call 19; refine (HW.out _).mono ?_; rintro e w2 ⟨rfl, hw⟩; have hw := hw.symm; subst hw)
        | (go_at_call 24; fail))
      refine (HFI.out _ (H.out.below HB.out)).mono ?_
      rintro e w2 ⟨rfl, hb2⟩
      have HB2 := hid (HB.out.next hb2)
      have HZ2 : Hid (B32 w.heap.size w2 rz) := (hb2.block _ (by simp)).trans HZ.out
      obtain ⟨b0, b1, b2, b3, b4, b5⟩ := HZ2.out.cells
      have f0 := HZ2.out.fr 0
      have f1 := HZ2.out.fr 1
      have f2 := HZ2.out.fr 2
      have f3 := HZ2.out.fr 3
      have f4 := HZ2.out.fr 4
      have f5 := HZ2.out.fr 5
      simp only [rz] at b0 b1 b2 b3 b4 b5
      clear hb2
      have h2 := H.out.below HB2.out
      obtain ⟨v2, hm2, hr2⟩ := h2.mem
      obtain ⟨gx, cx, rfl, hgx, hcx⟩ := hr2.at (by omega)
      obtain ⟨lc1, lc2⟩ : R.length ≤ cx ∧ cx ≤ maxLen := by
        obtain ⟨ao, cp, e, l1, l2⟩ := hr2.len
        cases e
        exact ⟨l1, l2⟩
      unfold maxLen at lc2
      have c0 : w2.cell? ⟨r, 0, none⟩ = some (.slice (some ⟨gx, 0, none⟩) R.length cx) := by simp [World.cell?, hm2]
      have hat := hcx j hj
      rw [← HY.out] at hat
      have a1 : w2.cell? ⟨gx, j * 9 + 1, none⟩ = some (.int .i64 yn) := hat 1 (by omega)
      have a2 : w2.cell? ⟨gx, j * 9 + 2, none⟩ = some (.bool yd) := hat 2 (by omega)
      have a3 : w2.cell? ⟨gx, j * 9 + 3, none⟩ = some (.int .i64 ye) := hat 3 (by omega)
      have a4 : w2.cell? ⟨gx, j * 9 + 4, none⟩ = some (.string yt) := hat 4 (by omega)
      have a5 : w2.cell? ⟨gx, j * 9 + 5, none⟩ = some (.int .i64 ya) := hat 5 (by omega)
      have a6 : w2.cell? ⟨gx, j * 9 + 6, none⟩ = some (.int .i64 yb) := hat 6 (by omega)
      have a7 : w2.cell? ⟨gx, j * 9 + 7, none⟩ = some (.int .i64 yc) := hat 7 (by omega)
      have a8 : w2.cell? ⟨gx, j * 9 + 8, none⟩ = some (.slice yo ym yq) := hat 8 (by omega)
      obtain ⟨N, hN⟩ : ∃ N, N = R.length := ⟨_, rfl⟩
      rw [← hN] at c0 lc1 hj
      have hneg : decide ((j : Int) < 0) = false := by simp
      clear hat hcx hr2 hm2 h2 hN HY
      simp only [plI]
      go_wp2
      exact ret13 (R := w.heap.size) (m := rz) (HZ2.out.set6 rz) rfl rfl rfl rfl ⟨rfl, below6 HB2.out (Nat.le_refl _) _ _ _ _ _ _⟩
    · have hd2 : decide (q < yn) = false := by simpa using h2
      cases yd with
      | false =>
        have hs : stt yn false q = 2 := by unfold stt; rw [if_neg h1, if_neg h2]; rfl
        rw [hs]
        clear hs
        go_enter Try.func13, Try.ntmps13
        go_wp2_with (first
          | (go_at_call 19; refine (HW.out _).mono ?_; rintro e w2 ⟨rfl, hw⟩; have hw := hw.symm; subst hw)
          | (go_at_call 24; fail))
        refine (HFI.out _ (H.out.below HB.out)).mono ?_
        rintro e w2 ⟨rfl, hb2⟩
        have HB2 := hid (HB.out.next hb2)
        have HZ2 : Hid (B32 w.heap.size w2 rz) := (hb2.block _ (by simp)).trans HZ.out
        obtain ⟨b0, b1, b2, b3, b4, b5⟩ := HZ2.out.cells
        have f0 := HZ2.out.fr 0
        have f1 := HZ2.out.fr 1
        have f2 := HZ2.out.fr 2
        have f3 := HZ2.out.fr 3
        have f4 := HZ2.out.fr 4
        have f5 := HZ2.out.fr 5
        simp only [rz] at b0 b1 b2 b3 b4 b5
        clear hb2
        have h2 := H.out.below HB2.out
        obtain ⟨v2, hm2, hr2⟩ := h2.mem
        obtain ⟨gx, cx, rfl, hgx, hcx⟩ := hr2.at (by omega)
        obtain ⟨lc1, lc2⟩ : R.length ≤ cx ∧ cx ≤ maxLen := by
          obtain ⟨ao, cp, e, l1, l2⟩ := hr2.len
          cases e
          exact ⟨l1, l2⟩
        unfold maxLen at lc2
        have c0 : w2.cell? ⟨r, 0, none⟩ = some (.slice (some ⟨gx, 0, none⟩) R.length cx) := by simp [World.cell?, hm2]
        have hat := hcx j hj
        rw [← HY.out] at hat
        have a1 : w2.cell? ⟨gx, j * 9 + 1, none⟩ = some (.int .i64 yn) := hat 1 (by omega)
        have a2 : w2.cell? ⟨gx, j * 9 + 2, none⟩ = some (.bool false) := hat 2 (by omega)
        have a3 : w2.cell? ⟨gx, j * 9 + 3, none⟩ = some (.int .i64 ye) := hat 3 (by omega)
        have a4 : w2.cell? ⟨gx, j * 9 + 4, none⟩ = some (.string yt) := hat 4 (by omega)
        have a5 : w2.cell? ⟨gx, j * 9 + 5, none⟩ = some (.int .i64 ya) := hat 5 (by omega)
        have a6 : w2.cell? ⟨gx, j * 9 + 6, none⟩ = some (.int .i64 yb) := hat 6 (by omega)
        have a7 : w2.cell? ⟨gx, j * 9 + 7, none⟩ = some (.int .i64 yc) := hat 7 (by omega)
        have a8 : w2.cell? ⟨gx, j * 9 + 8, none⟩ = some (.slice yo ym yq) := hat 8 (by omega)
        obtain ⟨N, hN⟩ : ∃ N, N = R.length := ⟨_, rfl⟩
        rw [← hN] at c0 lc1 hj
        have hneg : decide ((j : Int) < 0) = false := by simp
        clear hat hcx hr2 hm2 h2 hN HY
        simp only [plI]
        go_wp2
        exact ret13 (R := w.heap.size) (m := rz) (HZ2.out.set6 rz) rfl rfl rfl rfl ⟨rfl, below6 HB2.out (Nat.le_refl _) _ _ _ _ _ _⟩
      | true =>
        have hs : stt yn true q = 3 := by unfold stt; rw [if_neg h1, if_neg h2]; rfl
        rw [hs]
        clear hs
        go_enter Try.func13, Try.ntmps13
        go_wp2_with (first
          | (go_at_call 19; refine (HW.out _).mono ?_; rintro e w2 ⟨rfl, hw⟩; have hw := hw.symm; subst hw)
          | (go_at_call 24; fail))
        refine (HFI.out _ (H.out.below HB.out)).mono ?_
        rintro e w2 ⟨rfl, hb2⟩
        have HB2 := hid (HB.out.next hb2)
        have HZ2 : Hid (B32 w.heap.size w2 rz) := (hb2.block _ (by simp)).trans HZ.out
        obtain ⟨b0, b1, b2, b3, b4, b5⟩ := HZ2.out.cells
        have f0 := HZ2.out.fr 0
        have f1 := HZ2.out.fr 1
        have f2 := HZ2.out.fr 2
        have f3 := HZ2.out.fr 3
        have f4 := HZ2.out.fr 4
        have f5 := HZ2.out.fr 5
        simp only [rz] at b0 b1 b2 b3 b4 b5
        clear hb2
        have h2 := H.out.below HB2.out
        obtain ⟨v2, hm2, hr2⟩ := h2.mem
        obtain ⟨gx, cx, rfl, hgx, hcx⟩ := hr2.at (by omega)
        obtain ⟨lc1, lc2⟩ : R.length ≤ cx ∧ cx ≤ maxLen := by
          obtain ⟨ao, cp, e, l1, l2⟩ := hr2.len
          cases e
          exact ⟨l1, l2⟩
        unfold maxLen at lc2
        have c0 : w2.cell? ⟨r, 0, none⟩ = some (.slice (some ⟨gx, 0, none⟩) R.length cx) := by simp [World.cell?, hm2]
        have hat := hcx j hj
        rw [← HY.out] at hat
        have a1 : w2.cell? ⟨gx, j * 9 + 1, none⟩ = some (.int .i64 yn) := hat 1 (by omega)
        have a2 : w2.cell? ⟨gx, j * 9 + 2, none⟩ = some (.bool true) := hat 2 (by omega)
        have a3 : w2.cell? ⟨gx, j * 9 + 3, none⟩ = some (.int .i64 ye) := hat 3 (by omega)
        have a4 : w2.cell? ⟨gx, j * 9 + 4, none⟩ = some (.string yt) := hat 4 (by omega)
        have a5 : w2.cell? ⟨gx, j * 9 + 5, none⟩ = some (.int .i64 ya) := hat 5 (by omega)
        have a6 : w2.cell? ⟨gx, j * 9 + 6, none⟩ = some (.int .i64 yb) := hat 6 (by omega)
        have a7 : w2.cell? ⟨gx, j * 9 + 7, none⟩ = some (.int .i64 yc) := hat 7 (by omega)
        have a8 : w2.cell? ⟨gx, j * 9 + 8, none⟩ = some (.slice yo ym yq) := hat 8 (by omega)
        obtain ⟨N, hN⟩ : ∃ N, N = R.length := ⟨_, rfl⟩
        rw [← hN] at c0 lc1 hj
        have hneg : decide ((j : Int) < 0) = false := by simp
        clear hat hcx hr2 hm2 h2 hN HY
        simp only [plI]
        go_wp2
        go_region
        go_wp2
        exact ret13 (R := w.heap.size) (m := ⟨ye, yt, ya, yb, yc, .slice yo ym yq, yns⟩) (b32_drew (HZ2.out.set6 ⟨ye, yt, ya, yb, yc, .slice yo ym yq, yns⟩)) rfl rfl rfl rfl ⟨rfl, below_drew (below6 HB2.out (Nat.le_refl _) _ _ _ _ _ _)⟩
/-- the document's Ask -/
theorem rask_any {W : World} {r : Nat} {w : World} {R : List Kx} (h : RT W r w R) (c q : Int) : Calls Try.prog 13 #[.pointer (some ⟨r, 0, none⟩), .int .i64 c, .int .i64 q] w fun e w' => e = .returned (.tuple #[.int .i64 (askS (at_ R c) c q), (askR (at_ R c) c q).v, .int .i64 (askE c q)]) ∧ Below w.heap.size w w' := by
  unfold askS askR askE
  cases ho : okc c q with
  | false => exact rask_bad c q w ho
  | true =>
    cases hp : pl R c with
    | none =>
      have hk : at_ R c = kz := by unfold at_; rw [pl_none hp]; rfl
      rw [hk]
      have h1 : stt kz.n kz.d q = 1 := by
        have := (okc_iff c q).1 ho
        show stt 0 false q = 1
        unfold stt
        rw [if_pos (by omega)]
      rw [h1]
      exact rask_none h c q ho hp
    | some j =>
      obtain ⟨hj, h1, h2⟩ := pl_some hp
      have hk : at_ R c = R[j] := by unfold at_; rw [h2]; rfl
      rw [hk]
      have := rask_some h c q ho hj hp
      simpa using this
end Go.Proofs.Ytabkfmmbjjchdaa
