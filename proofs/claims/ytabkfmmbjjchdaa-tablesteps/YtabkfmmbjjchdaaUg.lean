import Derived.Test.YtabkfmmbjjchdaaUd
import Derived.Test.YtabkfmmbjjchdaaUf
namespace Go.Proofs.Ytabkfmmbjjchdaa
open Go.RowKit Go.Maps

set_option maxRecDepth 100000 in
set_option maxHeartbeats 1000000 in
theorem rdone_bad {W : World} {r : Nat} {w : World} {R : List Kx} (h : RT W r w R) (c q : Int) (Rr : Rs) (hsl : ∃ ao n cap, Rr.nv = .slice ao n cap) (ho : okc c q = false) : Calls Try.prog 11 #[.pointer (some ⟨r, 0, none⟩), .int .i64 c, .int .i64 q, Rr.v] w (RBR W r w R 1) := by
  have HW := hid (wrong_any c q)
  rw [ho] at HW
  have H := hid h
  obtain ⟨Ro, Rn, Rc, hRv⟩ := hsl
  obtain ⟨Re, Rt, Ra, Rb, Rcc, Rnv, Rns⟩ := Rr
  simp only at hRv
  subst hRv
  have HB := hid (below_alloc w (.cells #[.int .i64 Re, .string Rt, .int .i64 Ra, .int .i64 Rb, .int .i64 Rcc, .slice Ro Rn Rc] 32))
  simp only [Rs.v]
  unfold RBR
  clear h ho
  go_enter Try.func11, Try.ntmps11
  go_wp2_with (go_at_call 19; refine (HW.out _).mono ?_; rintro e w2 ⟨rfl, hw⟩; have hw := hw.symm; subst hw)
  go_ret
  exact ⟨rfl, H.out.below HB.out, RFr.of_below HB.out⟩
set_option maxRecDepth 100000 in
set_option maxHeartbeats 1000000 in
theorem rdone_none {W : World} {r : Nat} {w : World} {R : List Kx} (h : RT W r w R) (c q : Int) (Rr : Rs) (hsl : ∃ ao n cap, Rr.nv = .slice ao n cap) (ho : okc c q = true) (hp : pl R c = none) : Calls Try.prog 11 #[.pointer (some ⟨r, 0, none⟩), .int .i64 c, .int .i64 q, Rr.v] w (RBR W r w R 6) := by
  have HW := hid (wrong_any c q)
  rw [ho] at HW
  have HFI := hid (fun (w' : World) (h' : RT W r w' R) => rfind_any h' c)
  rw [hp] at HFI
  have H := hid h
  obtain ⟨Ro, Rn, Rc, hRv⟩ := hsl
  obtain ⟨Re, Rt, Ra, Rb, Rcc, Rnv, Rns⟩ := Rr
  simp only at hRv
  subst hRv
  have HB := hid (below_alloc w (.cells #[.int .i64 Re, .string Rt, .int .i64 Ra, .int .i64 Rb, .int .i64 Rcc, .slice Ro Rn Rc] 32))
  have HZ : Hid (B32 w.heap.size (w.alloc (.cells #[.int .i64 Re, .string Rt, .int .i64 Ra, .int .i64 Rb, .int .i64 Rcc, .slice Ro Rn Rc] 32)) ⟨Re, Rt, Ra, Rb, Rcc, .slice Ro Rn Rc, Rns⟩) := box_at _ _
  simp only [Rs.v]
  unfold RBR
  clear h ho hp
  go_enter Try.func11, Try.ntmps11
  go_wp2_with (first
    | (go_at_call 19; refine (HW.out _).mono ?_; rintro e w2 ⟨rfl, hw⟩; have hw := hw.symm; subst hw)
    | (go_at_call 24; fail))
  refine (HFI.out _ (H.out.below HB.out)).mono ?_
  rintro e w2 ⟨rfl, hb2⟩
  have HB2 := hid (HB.out.next hb2)
  have HZ2 : Hid (B32 w.heap.size w2 ⟨Re, Rt, Ra, Rb, Rcc, .slice Ro Rn Rc, Rns⟩) := (hb2.block _ (by simp)).trans HZ.out
  clear hb2
  have hneg : decide ((-1 : Int) < 0) = true := rfl
  simp only [plI]
  go_wp2
  go_ret
  exact ⟨rfl, H.out.below HB2.out, RFr.of_below HB2.out⟩
set_option maxRecDepth 100000 in
set_option maxHeartbeats 1000000 in
theorem rdone_some {W : World} {r : Nat} {w : World} {R : List Kx} (h : RT W r w R) (c q : Int) (Rr : Rs) (hsl : ∃ ao n cap, Rr.nv = .slice ao n cap) (ho : okc c q = true) {j : Nat} (hj : j < R.length) (hp : pl R c = some j) (hne : ¬ (R[j].n = q ∧ R[j].d = false)) : Calls Try.prog 11 #[.pointer (some ⟨r, 0, none⟩), .int .i64 c, .int .i64 q, Rr.v] w (RBR W r w R (if R[j].n = q then 7 else 6)) := by
  have HW := hid (wrong_any c q)
  rw [ho] at HW
  have HFI := hid (fun (w' : World) (h' : RT W r w' R) => rfind_any h' c)
  rw [hp] at HFI
  have H := hid h
  obtain ⟨Ro, Rn, Rc, hRv⟩ := hsl
  obtain ⟨Re, Rt, Ra, Rb, Rcc, Rnv, Rns⟩ := Rr
  simp only at hRv
  subst hRv
  have HB := hid (below_alloc w (.cells #[.int .i64 Re, .string Rt, .int .i64 Ra, .int .i64 Rb, .int .i64 Rcc, .slice Ro Rn Rc] 32))
  have HZ : Hid (B32 w.heap.size (w.alloc (.cells #[.int .i64 Re, .string Rt, .int .i64 Ra, .int .i64 Rb, .int .i64 Rcc, .slice Ro Rn Rc] 32)) ⟨Re, Rt, Ra, Rb, Rcc, .slice Ro Rn Rc, Rns⟩) := box_at _ _
  simp only [Rs.v]
  obtain ⟨y, hy⟩ : ∃ y, y = R[j]'hj := ⟨_, rfl⟩
  rw [← hy] at hne ⊢
  have HY := hid hy
  obtain ⟨yk, yn, yd, ye, yt, ya, yb, yc, ynv, yns⟩ := y
  simp only at hne ⊢
  unfold RBR
  clear h ho hp hy
  by_cases hq : yn = q
  · have hd : (yn != q) = false := by simpa using hq
    rw [if_pos hq]
    have hyd : yd = true := by cases yd with | true => rfl | false => exact absurd ⟨hq, rfl⟩ hne
    subst hyd
    clear hq hne
    go_enter Try.func11, Try.ntmps11
    go_wp2_with (first
      | (go_at_call 19; refine (HW.out _).mono ?_; rintro e w2 ⟨rfl, hw⟩; have hw := hw.symm; subst hw)
      | (go_at_call 24; fail))
    refine (HFI.out _ (H.out.below HB.out)).mono ?_
    rintro e w2 ⟨rfl, hb2⟩
    have HB2 := hid (HB.out.next hb2)
    have HZ2 : Hid (B32 w.heap.size w2 ⟨Re, Rt, Ra, Rb, Rcc, .slice Ro Rn Rc, Rns⟩) := (hb2.block _ (by simp)).trans HZ.out
    clear hb2
    have h2 := H.out.below HB2.out
    obtain ⟨v2, hm2, hr2⟩ := h2.mem
    obtain ⟨gx, cx, rfl, hgx, hcx⟩ := hr2.at (by omega)
    obtain ⟨lc1, lc2⟩ : R.length ≤ cx ∧ cx ≤ maxLen := by
      obtain ⟨ao, cp, e, l1, l2⟩ := hr2.len
      cases e
      exact ⟨l1, l2⟩
    unfold maxLen at lc2
    have c0 : w2.cell? ⟨r, 0, none⟩ = some (.slice (some ⟨gx, 0, none⟩) R.length cx) := by simp [World.cell?, hm2]
    have hat := hcx j hj
    rw [← HY.out] at hat
    have a1 : w2.cell? ⟨gx, j * 9 + 1, none⟩ = some (.int .i64 yn) := hat 1 (by omega)
    have a2 : w2.cell? ⟨gx, j * 9 + 2, none⟩ = some (.bool true) := hat 2 (by omega)
    have HM2 := hid hm2
    have HR2 := hid hr2
    have hneg : decide ((j : Int) < 0) = false := by simp
    obtain ⟨N, hN⟩ : ∃ N, N = R.length := ⟨_, rfl⟩
    rw [← hN] at c0 lc1 hj
    clear hat hcx h2 hN HY hm2 hr2
    simp only [plI]
    go_wp2
    go_ret
    exact ⟨rfl, H.out.below HB2.out, RFr.of_below HB2.out⟩
  · have hd : (yn != q) = true := by simpa using hq
    rw [if_neg hq]
    clear hq hne
    go_enter Try.func11, Try.ntmps11
    go_wp2_with (first
      | (go_at_call 19; refine (HW.out _).mono ?_; rintro e w2 ⟨rfl, hw⟩; have hw := hw.symm; subst hw)
      | (go_at_call 24; fail))
    refine (HFI.out _ (H.out.below HB.out)).mono ?_
    rintro e w2 ⟨rfl, hb2⟩
    have HB2 := hid (HB.out.next hb2)
    have HZ2 : Hid (B32 w.heap.size w2 ⟨Re, Rt, Ra, Rb, Rcc, .slice Ro Rn Rc, Rns⟩) := (hb2.block _ (by simp)).trans HZ.out
    clear hb2
    have h2 := H.out.below HB2.out
    obtain ⟨v2, hm2, hr2⟩ := h2.mem
    obtain ⟨gx, cx, rfl, hgx, hcx⟩ := hr2.at (by omega)
    obtain ⟨lc1, lc2⟩ : R.length ≤ cx ∧ cx ≤ maxLen := by
      obtain ⟨ao, cp, e, l1, l2⟩ := hr2.len
      cases e
      exact ⟨l1, l2⟩
    unfold maxLen at lc2
    have c0 : w2.cell? ⟨r, 0, none⟩ = some (.slice (some ⟨gx, 0, none⟩) R.length cx) := by simp [World.cell?, hm2]
    have hat := hcx j hj
    rw [← HY.out] at hat
    have a1 : w2.cell? ⟨gx, j * 9 + 1, none⟩ = some (.int .i64 yn) := hat 1 (by omega)
    have a2 : w2.cell? ⟨gx, j * 9 + 2, none⟩ = some (.bool yd) := hat 2 (by omega)
    have HM2 := hid hm2
    have HR2 := hid hr2
    have hneg : decide ((j : Int) < 0) = false := by simp
    obtain ⟨N, hN⟩ : ∃ N, N = R.length := ⟨_, rfl⟩
    rw [← hN] at c0 lc1 hj
    clear hat hcx h2 hN HY hm2 hr2
    simp only [plI]
    go_wp2
    go_ret
    exact ⟨rfl, H.out.below HB2.out, RFr.of_below HB2.out⟩
end Go.Proofs.Ytabkfmmbjjchdaa
