import Derived.Test.YtonejnbflkkapabBo
import Derived.Test.YtonejnbflkkapabWl
namespace Go.Proofs.Ytonejnbflkkapab
open Go.RowKit

theorem kcell {W w1 : World} {g : Nat} (hb : Kept W.heap.size g W w1) : (∀ b o, b < W.heap.size → b ≠ g → w1.cell? ⟨b, o, none⟩ = W.cell? ⟨b, o, none⟩) ∧ (∀ b o, b < W.heap.size → b ≠ g → w1.frozen? ⟨b, o, none⟩ = W.frozen? ⟨b, o, none⟩) :=
  ⟨fun b o h h2 => by simp only [World.cell?, hb.block b h h2], fun b o h h2 => by simp only [World.frozen?, hb.block b h h2]⟩
theorem kept_alloc (w : World) (g : Nat) (o : Obj) : Kept w.heap.size g w (w.alloc o) := Kept.of_below (below_alloc w o)

set_option maxRecDepth 100000 in
set_option maxHeartbeats 8000000 in
theorem reads_walk (s : ByteArray) (hs : s.size ≤ maxLen) (ao : Option Addr) (len cap : Nat) (it : Nat → Item) (hlc : len ≤ maxLen) (hN : ∀ i, i < len → (it i).N ≤ 9223372036854775807) (w : World) (hl : Lie w ao len it) :
    Calls Try.prog 4 #[.string s, .slice ao len cap] w fun e w' => e = .returned (.bool true) ∧ Below w.heap.size w w' := by
  unfold maxLen at hlc
  go_enter Try.func4, Try.ntmps4
  go_wp2_with (first | (go_at_call 14; refine (of_any _ _).mono ?_; rintro e w1 ⟨rfl, hw1⟩; have b1 := hw1 ▸ below_alloc w _; have r1 := hw1 ▸ RIs.new s w; clear hw1; have z1 := r1.lt))
  have q2 := QIs.new s w1
  have r2 : RIs w.heap.size (w1.alloc (.cells #[.string s, .int .i64 0] 38)) s 0 := r1.below (below_alloc w1 _)
  have b2 : Below w.heap.size w (w1.alloc (.cells #[.string s, .int .i64 0] 38)) := b1.trans ((below_alloc w1 _).mono b1.size)
  go_loopw [24] (fun i wr => ∃ (j : Nat) (s' : ByteArray) (e' : Int), i = .int .i64 j ∧ j ≤ len ∧ s'.size ≤ maxLen ∧ RIs w.heap.size wr s' e' ∧ QIs w1.heap.size wr s' e' ∧ Below w.heap.size w wr) (fun i _ => len - (intOf i).toNat)
  case atStart => exact ⟨0, s, 0, rfl, Nat.zero_le _, hs, r2, q2, b2⟩
  case round =>
    clear q2 r2 b2
    obtain ⟨j, t, e, rfl, hj, ht, hr, hq, hbl⟩ := hrel
    have hz := hbl.size
    have hzq := hq.lt
    have hnw : ¬ wr.heap.size = w.heap.size := by omega
    have hnw1 : ¬ wr.heap.size = w1.heap.size := by omega
    by_cases hlt : j < len
    · rcases hl with hl | ⟨b, off, rfl, hb, hcs⟩
      · omega
      obtain ⟨c0, c1, c2, c3⟩ := hcs j hlt
      have d0 : wr.cell? ⟨b, off + j * 4, none⟩ = some (.int .i64 (it j).K) := (hbl.cell (p := ⟨b, off + j * 4, none⟩) hb).trans c0
      have d1 : wr.cell? ⟨b, off + j * 4 + 1, none⟩ = some (.int .i64 (it j).N) := (hbl.cell (p := ⟨b, off + j * 4 + 1, none⟩) hb).trans c1
      have d2 : wr.cell? ⟨b, off + j * 4 + 2, none⟩ = some (.int .i64 (it j).Z) := (hbl.cell (p := ⟨b, off + j * 4 + 2, none⟩) hb).trans c2
      have d3 : wr.cell? ⟨b, off + j * 4 + 3, none⟩ = some (.string (it j).s) := (hbl.cell (p := ⟨b, off + j * 4 + 3, none⟩) hb).trans c3
      have hNj := hN j hlt
      obtain ⟨x, hxx⟩ : ∃ x, x = it j := ⟨_, rfl⟩
      rw [← hxx] at d0 d1 d2 d3 hNj
      obtain ⟨K, N, Z, xs⟩ := x
      simp only at d0 d1 d2 d3 hNj
      clear hcs c0 c1 c2 c3 hN hxx
      have hR : ∀ o, RIs w.heap.size (wr.alloc o) t e := fun o => hr.below (below_alloc wr o)
      have hQ : ∀ o, QIs w1.heap.size (wr.alloc o) t e := fun o => hq.below (below_alloc wr o)
      have HR : Hid (∀ o, RIs w.heap.size (wr.alloc o) t e) := hR
      have HQ : Hid (∀ o, QIs w1.heap.size (wr.alloc o) t e) := hQ
      clear hR hQ
      rcases it_kind K with rfl | rfl | rfl | ⟨k0, k1, k2, n0, n1, n2⟩
      · skip
        obtain ⟨n, er, t', e', hle, A, B⟩ := both_uint t e ht
        have HA : Hid (∀ g w, RIs g w t e → _) := A
        have HB : Hid (∀ g w, QIs g w t e → _) := B
        clear A B
        go_wp2_with (first | (go_at_call 15; refine (HA.out _ _ (HR.out _)).mono ?_; rintro x w3 ⟨rfl, r3, k3⟩; have q3 := (HQ.out _).kept k3 (HQ.out _).lt (by omega); have z3 := k3.size; obtain ⟨cc3, cf3⟩ := kcell k3) | (go_at_call 16; refine (HB.out _ _ q3).mono ?_; rintro x w4 ⟨rfl, q4, k4⟩; have r4 := r3.kept k4 r3.lt (by omega); have z4 := k4.size; have e0 := q4.c0))
        go_quiet ((first | (go_at_call 23; exact Calls.quiet_of_same (left_r _ _ _ _ r4)) | (go_at_call 24; exact Calls.quiet_of_same (end_r _ _ _ _ r4)) | (go_at_call 25; exact Calls.quiet_of_same (qend _ _ _ _ q4))))
        go_wp2
        have hb4 : Below w.heap.size w w4 := ((hbl.trans ((below_alloc wr _).mono hz)).trans (k3.below (by simp; omega) (Nat.le_refl _))).trans (k4.below (by simp at z3; omega) (by omega))
        go_roundw
        case rel => exact ⟨j + 1, t', e', by go_num, by omega, Nat.le_trans hle ht, r4, q4, below_drewN hb4 _⟩
        case measure => simp [intOf]; omega
      · skip
        obtain ⟨n, er, t', e', hle, A, B⟩ := both_int t e ht
        have HA : Hid (∀ g w, RIs g w t e → _) := A
        have HB : Hid (∀ g w, QIs g w t e → _) := B
        clear A B
        go_wp2_with (first | (go_at_call 17; refine (HA.out _ _ (HR.out _)).mono ?_; rintro x w3 ⟨rfl, r3, k3⟩; have q3 := (HQ.out _).kept k3 (HQ.out _).lt (by omega); have z3 := k3.size; obtain ⟨cc3, cf3⟩ := kcell k3) | (go_at_call 18; refine (HB.out _ _ q3).mono ?_; rintro x w4 ⟨rfl, q4, k4⟩; have r4 := r3.kept k4 r3.lt (by omega); have z4 := k4.size; have e0 := q4.c0))
        go_quiet ((first | (go_at_call 23; exact Calls.quiet_of_same (left_r _ _ _ _ r4)) | (go_at_call 24; exact Calls.quiet_of_same (end_r _ _ _ _ r4)) | (go_at_call 25; exact Calls.quiet_of_same (qend _ _ _ _ q4))))
        go_wp2
        have hb4 : Below w.heap.size w w4 := ((hbl.trans ((below_alloc wr _).mono hz)).trans (k3.below (by simp; omega) (Nat.le_refl _))).trans (k4.below (by simp at z3; omega) (by omega))
        go_roundw
        case rel => exact ⟨j + 1, t', e', by go_num, by omega, Nat.le_trans hle ht, r4, q4, below_drewN hb4 _⟩
        case measure => simp [intOf]; omega
      · skip
        obtain ⟨n, er, t', e', hle, A, B⟩ := both_fixed t e Z ht
        have HA : Hid (∀ g w, RIs g w t e → _) := A
        have HB : Hid (∀ g w, QIs g w t e → _) := B
        clear A B
        go_wp2_with (first | (go_at_call 19; refine (HA.out _ _ (HR.out _)).mono ?_; rintro x w3 ⟨rfl, r3, k3⟩; have q3 := (HQ.out _).kept k3 (HQ.out _).lt (by omega); have z3 := k3.size; obtain ⟨cc3, cf3⟩ := kcell k3) | (go_at_call 20; refine (HB.out _ _ q3).mono ?_; rintro x w4 ⟨rfl, q4, k4⟩; have r4 := r3.kept k4 r3.lt (by omega); have z4 := k4.size; have e0 := q4.c0))
        go_quiet ((first | (go_at_call 23; exact Calls.quiet_of_same (left_r _ _ _ _ r4)) | (go_at_call 24; exact Calls.quiet_of_same (end_r _ _ _ _ r4)) | (go_at_call 25; exact Calls.quiet_of_same (qend _ _ _ _ q4))))
        go_wp2
        have hb4 : Below w.heap.size w w4 := ((hbl.trans ((below_alloc wr _).mono hz)).trans (k3.below (by simp; omega) (Nat.le_refl _))).trans (k4.below (by simp at z3; omega) (by omega))
        go_roundw
        case rel => exact ⟨j + 1, t', e', by go_num, by omega, Nat.le_trans hle ht, r4, q4, below_drewN hb4 _⟩
        case measure => simp [intOf]; omega
      · clear n0 n1 n2
        obtain ⟨n, er, t', e', hle, A, B⟩ := both_text t e N hNj ht
        have HA : Hid (∀ g w, RIs g w t e → _) := A
        have HB : Hid (∀ g w, QIs g w t e → _) := B
        clear A B
        go_wp2_with (first | (go_at_call 21; refine (HA.out _ _ (HR.out _)).mono ?_; rintro x w3 ⟨rfl, r3, k3⟩; have q3 := (HQ.out _).kept k3 (HQ.out _).lt (by omega); have z3 := k3.size; obtain ⟨cc3, cf3⟩ := kcell k3) | (go_at_call 22; refine (HB.out _ _ q3).mono ?_; rintro x w4 ⟨rfl, q4, k4⟩; have r4 := r3.kept k4 r3.lt (by omega); have z4 := k4.size; have e0 := q4.c0))
        go_quiet ((first | (go_at_call 23; exact Calls.quiet_of_same (left_r _ _ _ _ r4)) | (go_at_call 24; exact Calls.quiet_of_same (end_r _ _ _ _ r4)) | (go_at_call 25; exact Calls.quiet_of_same (qend _ _ _ _ q4))))
        go_wp2
        have hb4 : Below w.heap.size w w4 := ((hbl.trans ((below_alloc wr _).mono hz)).trans (k3.below (by simp; omega) (Nat.le_refl _))).trans (k4.below (by simp at z3; omega) (by omega))
        go_roundw
        case rel => exact ⟨j + 1, t', e', by go_num, by omega, Nat.le_trans hle ht, r4, q4, below_drewN hb4 _⟩
        case measure => simp [intOf]; omega
    · go_wp2_with (first | (go_at_call 13; refine (speaks_any _).mono ?_; rintro x w9 ⟨rfl, b9⟩))
      go_ret
      exact ⟨rfl, hbl.trans (b9.mono hz)⟩
end Go.Proofs.Ytonejnbflkkapab
