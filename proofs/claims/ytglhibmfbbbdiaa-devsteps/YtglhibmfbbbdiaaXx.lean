import Derived.Test.YtglhibmfbbbdiaaXj
import Derived.Deep.RegionHeld3
namespace Go.Proofs.Ytglhibmfbbbdiaa
open Go.RowKit Go.Maps

theorem pj_drew {K : Option (Nat × Obj)} {n base gd gx j : Nat} {w : World} (h : PJ K n base gd gx w j) : PJ K n base gd gx w.drew j := h.keep ⟨rfl, rfl, rfl, Nat.le_refl _, fun _ _ => rfl⟩
theorem undrew2 {B : Nat} {w w' : World} (h : Below B w w') : Below B w w'.drew := ⟨h.os, h.tape, h.output, h.size, h.block⟩
theorem two_cellsX {w : World} {g : Nat} {a b : Value} {t : TypeId} (hh : w.heap[g]? = some (.cells #[a, b] t (0, 0))) : w.cell? ⟨g, 0, none⟩ = some a ∧ w.cell? ⟨g, 1, none⟩ = some b := by
  constructor <;> simp [World.cell?, hh]
theorem kinds3 (K : Int) : K = 0 ∨ K = 1 ∨ K = 2 ∨ K = 3 ∨ ((K == 0) = false ∧ (K == 1) = false ∧ (K == 2) = false ∧ (K == 3) = false) := by
  rcases kinds K with h | h | h | ⟨h0, h1, h2⟩
  · exact .inl h
  · exact .inr (.inl h)
  · exact .inr (.inr (.inl h))
  · by_cases h3 : K = 3
    · exact .inr (.inr (.inr (.inl h3)))
    · exact .inr (.inr (.inr (.inr ⟨h0, h1, h2, by simp [h3]⟩)))
set_option maxRecDepth 100000 in
set_option maxHeartbeats 8000000 in
theorem steps_walk (n : Int) (ao : Option Addr) (len cap : Nat) (it : Nat → Stp) (W : World) (hS : SLie W ao len it) (_hlc : len ≤ cap) (_hcm : cap ≤ maxLen) :
    Calls Try.prog 3 #[.int .i64 n, .slice ao len cap] W fun e w' => e = .returned (.bool true) ∧ Below W.heap.size W w' := by
  unfold maxLen at _hcm
  have HS := hid hS
  clear hS
  by_cases hn : 1 ≤ n ∧ n ≤ 1024
  · obtain ⟨m, rfl⟩ := Int.eq_ofNat_of_zero_le (show 0 ≤ n by omega)
    have HNEW := hid (pj_new m (by omega) (by omega) W.heap.size W (Nat.le_refl _))
    by_cases hl3 : 300 < len
    · go_enter Try.func3, Try.ntmps3
      go_wp2_with (first
        | (go_at_call 8; refine HNEW.out.mono ?_; rintro e w1 ⟨gd, rfl, hb1, h9⟩; have H9 := hid h9; clear h9)
        | (go_at_call 9; refine H9.out.mono ?_; rintro e w2 ⟨gx, rfl, hb2, hP⟩)
        | (go_at_call 10; refine (speaks_any _).mono ?_; rintro e w7 ⟨rfl, hb7⟩))
      go_ret
      exact ⟨rfl, hb2.next hb7⟩
    · go_enter Try.func3, Try.ntmps3
      go_wp2_with (first
        | (go_at_call 8; refine HNEW.out.mono ?_; rintro e w1 ⟨gd, rfl, hb1, h9⟩; have H9 := hid h9; clear h9)
        | (go_at_call 9; refine H9.out.mono ?_; rintro e w2 ⟨gx, rfl, hb2, hP⟩))
      go_loopw [42] (fun i wr => ∃ j : Nat, i = .int .i64 j ∧ j ≤ len ∧ PJ none m W.heap.size gd gx wr j ∧ Below W.heap.size W wr) (fun i _ => len - (intOf i).toNat)
      case atStart => exact ⟨0, rfl, Nat.zero_le _, hP, hb2⟩
      case round =>
        obtain ⟨j, rfl, hj, hL2, hB2⟩ := hrel
        have HL := hid hL2
        have HB := hid hB2
        clear hL2 hB2 hP hb2 hb1 H9 HNEW
        by_cases hlt : j < len
        · obtain ⟨b, off, rfl, hbW, s0, s1, s2, s3, s4, s5, s6, hPR, bA, bM, bO, bT⟩ := HS.out j hlt
          obtain ⟨y, hy⟩ : ∃ y, y = it j := ⟨_, rfl⟩
          rw [← hy] at s0 s1 s2 s3 s4 s5 s6 hPR bA bM bO bT
          obtain ⟨K, A, M, O, T, x, pv, pl, pk⟩ := y
          simp only at s0 s1 s2 s3 s4 s5 s6 hPR bA bM bO bT
          have t0 := (HB.out.cell (p := ⟨b, off + j * 7, none⟩) hbW).trans s0
          have t1 := (HB.out.cell (p := ⟨b, off + j * 7 + 1, none⟩) hbW).trans s1
          have t2 := (HB.out.cell (p := ⟨b, off + j * 7 + 2, none⟩) hbW).trans s2
          have t3 := (HB.out.cell (p := ⟨b, off + j * 7 + 3, none⟩) hbW).trans s3
          have t4 := (HB.out.cell (p := ⟨b, off + j * 7 + 4, none⟩) hbW).trans s4
          have t5 := (HB.out.cell (p := ⟨b, off + j * 7 + 5, none⟩) hbW).trans s5
          have t6 := (HB.out.cell (p := ⟨b, off + j * 7 + 6, none⟩) hbW).trans s6
          have hbr : b < wr.heap.size := Nat.lt_of_lt_of_le hbW HB.out.size
          clear s0 s1 s2 s3 s4 s5 s6 hy
          obtain ⟨pao, pc, hpv⟩ : ∃ pao pc, pv = .slice pao pl pc := by obtain ⟨⟨pao, pc, e, _⟩, _⟩ := hPR; exact ⟨pao, pc, e⟩
          subst hpv
          have HPR := hid hPR
          clear hPR
          have hds := data_small M O x
          obtain ⟨d, hd⟩ : ∃ d, d = dataS M O x := ⟨_, rfl⟩
          rw [← hd] at hds
          have HDA := hid (fun K A T pv w => data_any K A M O T x pv bO w)
          rw [← hd] at HDA
          clear hd
          go_upto_block 2 with fail
          have HP0 := hid (HL.out.var (.cells #[.int .i64 K, .int .i64 A, .int .i64 M, .int .i64 O, .int .i64 T, .int .u8 (x.toNat : Int), .slice pao pl pc] 33 (0, 0)))
          have HB0 := hid (HB.out.next (below_alloc wr (.cells #[.int .i64 K, .int .i64 A, .int .i64 M, .int .i64 O, .int .i64 T, .int .u8 (x.toNat : Int), .slice pao pl pc] 33 (0, 0))))
          have HZ0 := hid (Nat.le_trans HB.out.size (below_alloc wr (.cells #[.int .i64 K, .int .i64 A, .int .i64 M, .int .i64 O, .int .i64 T, .int .u8 (x.toNat : Int), .slice pao pl pc] 33 (0, 0))).size)
          have hsz0 := HB.out.size
          go_cut [] (fun wx => PJ (some (wr.heap.size, (.cells #[.int .i64 K, .int .i64 A, .int .i64 M, .int .i64 O, .int .i64 T, .int .u8 (x.toNat : Int), .slice pao pl pc] 33 (0, 0)))) m W.heap.size gd gx wx (j + 1) ∧ Below W.heap.size W wx)
          case first =>
            clear t0 t1 t2 t3 t4 t5 t6 hbr
            rcases kinds3 K with rfl | rfl | rfl | rfl | ⟨k0, k1, k2, k3⟩
            · obtain ⟨q0, q1, q2, q3, q4, q5, q6⟩ := seven_cells HP0.out.cell
              go_wp2
              go_region_held3 (fun w' => w'.cell? ⟨wr.heap.size, 0, none⟩ = some (.int .i64 0) ∧ w'.cell? ⟨wr.heap.size, 1, none⟩ = some (.int .i64 A) ∧ w'.cell? ⟨wr.heap.size, 2, none⟩ = some (.int .i64 M) ∧ w'.cell? ⟨wr.heap.size, 3, none⟩ = some (.int .i64 O) ∧ w'.cell? ⟨wr.heap.size, 4, none⟩ = some (.int .i64 T) ∧ w'.cell? ⟨wr.heap.size, 5, none⟩ = some (.int .u8 (x.toNat : Int)) ∧ w'.cell? ⟨wr.heap.size, 6, none⟩ = some (.slice pao pl pc)) (first | exact ⟨q0, q1, q2, q3, q4, q5, q6⟩ | go_keep) (first
                | (go_at_call 12; refine (HDA.out _ _ _ _ _).mono ?_; rintro e w7 ⟨rfl, hb7⟩; have HM7 := hid (HM6.out.keep hb7); have HB7 := hid (HB6.out.next hb7); clear q0 q1 q2 q3 q4 q5 q6; obtain ⟨q0, q1, q2, q3, q4, q5, q6⟩ := seven_cells HM7.out.cell; clear hb7)
                | (go_at_call 12; refine (HDA.out _ _ _ _ _).mono ?_; rintro e w5 ⟨rfl, hb5⟩; have HP5 := hid ((pj_drew HP0.out).keep hb5); have HB5 := hid ((undrew2 HB0.out).next hb5); clear q0 q1 q2 q3 q4 q5 q6; obtain ⟨q0, q1, q2, q3, q4, q5, q6⟩ := seven_cells HP5.out.cell; clear hb5)
                | (go_at_call 11; refine (pj_wd A d bA (by omega) (by omega) _ HP5.out HB5.out.size).mono ?_; rintro e w6 ⟨rfl, hM6, hb6⟩; have HM6 := hid hM6; have HB6 := hid (HB5.out.trans hb6); clear q0 q1 q2 q3 q4 q5 q6; obtain ⟨q0, q1, q2, q3, q4, q5, q6⟩ := seven_cells HM6.out.cell; clear hM6 hb6)
                | (go_at_call 13; refine (pj_wx A d bA (by omega) (by omega) _ HM7.out HB7.out.size).mono ?_; rintro e w8 ⟨rfl, hM8, hb8⟩; have HM8 := hid hM8; have HB8 := hid (HB7.out.trans hb8); clear q0 q1 q2 q3 q4 q5 q6; obtain ⟨q0, q1, q2, q3, q4, q5, q6⟩ := seven_cells HM8.out.cell; clear hM8 hb8))
              all_goals
                clear q0 q1 q2 q3 q4 q5 q6
                go_wp2
                go_meet
                exact ⟨HM8.out, HB8.out⟩
            · obtain ⟨q0, q1, q2, q3, q4, q5, q6⟩ := seven_cells HP0.out.cell
              go_wp2
              go_region_held3 (fun w' => w'.cell? ⟨wr.heap.size, 0, none⟩ = some (.int .i64 1) ∧ w'.cell? ⟨wr.heap.size, 1, none⟩ = some (.int .i64 A) ∧ w'.cell? ⟨wr.heap.size, 2, none⟩ = some (.int .i64 M) ∧ w'.cell? ⟨wr.heap.size, 3, none⟩ = some (.int .i64 O) ∧ w'.cell? ⟨wr.heap.size, 4, none⟩ = some (.int .i64 T) ∧ w'.cell? ⟨wr.heap.size, 5, none⟩ = some (.int .u8 (x.toNat : Int)) ∧ w'.cell? ⟨wr.heap.size, 6, none⟩ = some (.slice pao pl pc)) (first | exact ⟨q0, q1, q2, q3, q4, q5, q6⟩ | go_keep) (first
                | (go_at_call 12; refine (HDA.out _ _ _ _ _).mono ?_; rintro e w7 ⟨rfl, hb7⟩; have HM7 := hid (HM6.out.keep hb7); have HB7 := hid (HB6.out.next hb7); clear q0 q1 q2 q3 q4 q5 q6; obtain ⟨q0, q1, q2, q3, q4, q5, q6⟩ := seven_cells HM7.out.cell; clear hb7)
                | (go_at_call 12; refine (HDA.out _ _ _ _ _).mono ?_; rintro e w5 ⟨rfl, hb5⟩; have HP5 := hid ((pj_drew HP0.out).keep hb5); have HB5 := hid ((undrew2 HB0.out).next hb5); clear q0 q1 q2 q3 q4 q5 q6; obtain ⟨q0, q1, q2, q3, q4, q5, q6⟩ := seven_cells HP5.out.cell; clear hb5)
                | (go_at_call 11; refine (pj_wd A d bA (by omega) (by omega) _ HP5.out HB5.out.size).mono ?_; rintro e w6 ⟨rfl, hM6, hb6⟩; have HM6 := hid hM6; have HB6 := hid (HB5.out.trans hb6); clear q0 q1 q2 q3 q4 q5 q6; obtain ⟨q0, q1, q2, q3, q4, q5, q6⟩ := seven_cells HM6.out.cell; clear hM6 hb6)
                | (go_at_call 13; refine (pj_wx A d bA (by omega) (by omega) _ HM7.out HB7.out.size).mono ?_; rintro e w8 ⟨rfl, hM8, hb8⟩; have HM8 := hid hM8; have HB8 := hid (HB7.out.trans hb8); clear q0 q1 q2 q3 q4 q5 q6; obtain ⟨q0, q1, q2, q3, q4, q5, q6⟩ := seven_cells HM8.out.cell; clear hM8 hb8))
              all_goals
                clear q0 q1 q2 q3 q4 q5 q6
                go_wp2
                go_meet
                exact ⟨HM8.out, HB8.out⟩
            · go_wp2_with (first
                | (go_at_call 14; refine (pj_fd _ HP0.out HZ0.out).mono ?_; rintro e w6 ⟨rfl, hM6, hb6⟩; have HM6 := hid hM6; have HB6 := hid (HB0.out.trans hb6); clear hM6 hb6)
                | (go_at_call 15; refine (pj_fx (by omega) _ HM6.out HB6.out.size).mono ?_; rintro e w7 ⟨rfl, hM7, hb7⟩))
              go_meet
              exact ⟨hM7, HB6.out.trans hb7⟩
            · obtain ⟨q0, q1, q2, q3, q4, q5, q6⟩ := seven_cells HP0.out.cell
              go_wp2
              go_region_held3 (fun w' => w'.cell? ⟨wr.heap.size, 0, none⟩ = some (.int .i64 3) ∧ w'.cell? ⟨wr.heap.size, 1, none⟩ = some (.int .i64 A) ∧ w'.cell? ⟨wr.heap.size, 2, none⟩ = some (.int .i64 M) ∧ w'.cell? ⟨wr.heap.size, 3, none⟩ = some (.int .i64 O) ∧ w'.cell? ⟨wr.heap.size, 4, none⟩ = some (.int .i64 T) ∧ w'.cell? ⟨wr.heap.size, 5, none⟩ = some (.int .u8 (x.toNat : Int)) ∧ w'.cell? ⟨wr.heap.size, 6, none⟩ = some (.slice pao pl pc)) (first | exact ⟨q0, q1, q2, q3, q4, q5, q6⟩ | go_keep) (first
                | (go_at_call 16; refine (pj_cd _ pl pk T (by omega) W _ HPR.out (undrew2 HB0.out) (Nat.le_refl _) (pj_drew HP0.out) HZ0.out).mono ?_; rintro e w6 ⟨rfl, hM6, hb6⟩; have HM6 := hid hM6; have HB6 := hid ((undrew2 HB0.out).trans hb6); clear q0 q1 q2 q3 q4 q5 q6; obtain ⟨q0, q1, q2, q3, q4, q5, q6⟩ := seven_cells HM6.out.cell; clear hM6 hb6)
                | (go_at_call 17; refine (pj_cx _ pl pk T (by omega) W _ HPR.out HB6.out (Nat.le_refl _) HM6.out HB6.out.size).mono ?_; rintro e w7 ⟨rfl, hM7, hb7⟩; have HM7 := hid hM7; have HB7 := hid (HB6.out.trans hb7); clear q0 q1 q2 q3 q4 q5 q6; obtain ⟨q0, q1, q2, q3, q4, q5, q6⟩ := seven_cells HM7.out.cell; clear hM7 hb7))
              all_goals
                clear q0 q1 q2 q3 q4 q5 q6
                go_wp2
                go_meet
                exact ⟨HM7.out, HB7.out⟩
            · go_wp2
              go_meet
              exact ⟨HP0.out.mono (by omega), HB0.out⟩
          case rest =>
            rename World => wo
            obtain ⟨hP, hB⟩ := hcut
            clear t0 t1 t2 t3 t4 t5 t6 hbr
            obtain ⟨q0, q1, q2, q3, q4, q5, q6⟩ := seven_cells hP.cell
            obtain ⟨mm, ql, qc, bl, hmm, hgx, hw18, hw19⟩ := pj_waits _ (pj_drew hP)
            obtain ⟨g0, g1⟩ := two_cellsX (w := wo) hgx
            have HP := hid hP
            have HBo := hid hB
            have H18 := hid hw18
            have H19 := hid hw19
            have hsz1 := HBo.out.size
            have HPd := hid (pj_drew hP)
            clear hP hB hgx hw18 hw19 q0 q2 q3 q4 q5 q6 HDA HPR HP0 HB0 HZ0
            go_wp2
            go_region_held3 (fun w' => w'.cell? ⟨wr.heap.size, 1, none⟩ = some (.int .i64 A) ∧ w'.cell? ⟨gx, 0, none⟩ = some (.slice (some ⟨bl, 0, none⟩) m m) ∧ w'.cell? ⟨gx, 1, none⟩ = some (.slice ql mm qc)) (first | exact ⟨k1, k2, k3⟩ | go_keep) (first
              | (go_at_call 18; refine (H18.out).mono ?_; rintro e w6 ⟨rfl, rfl⟩)
              | (go_at_call 19; refine (H19.out).mono ?_; rintro e w6 ⟨rfl, rfl⟩)
              | (go_at_call 20; refine (pj_same A (by omega) _ HPd.out).mono ?_; rintro e w6 ⟨rfl, hP6, hb6⟩; have k1 := (hb6.cell (p := ⟨wr.heap.size, 1, none⟩) (World.block_lt_of_cell? wo _ q1)).trans q1; have k2 := (hb6.cell (p := ⟨gx, 0, none⟩) (World.block_lt_of_cell? wo _ g0)).trans g0; have k3 := (hb6.cell (p := ⟨gx, 1, none⟩) (World.block_lt_of_cell? wo _ g1)).trans g1; have HP6 := hid hP6.drop; have HB6 := hid ((undrew2 HBo.out).next hb6); clear hb6 hP6))
            all_goals
              clear q1 g0 g1 k1 k2 k3 HPd HBo HP H18 H19
              go_wp2
              rename_i hHeld
              clear hHeld
              go_loopw [11] (fun i wr2 => ∃ k : Nat, i = .int .i64 k ∧ k ≤ 6 ∧ Hid (PJ none m W.heap.size gd gx wr2 (j + 1)) ∧ Hid (Below W.heap.size W wr2)) (fun i _ => 6 - (intOf i).toNat)
              case atStart => exact ⟨0, rfl, Nat.zero_le _, HP6, HB6⟩
              case round =>
                obtain ⟨k, rfl, hk, HP8, HB8⟩ := hrel
                clear HP6 HB6
                by_cases hk6 : k < 6
                · go_wp2_with (first
                    | (go_at_call 20; refine (pj_same k (by omega) _ HP8.out).mono ?_; rintro e w9 ⟨rfl, hP9, hb9⟩))
                  go_roundw
                  case rel => exact ⟨k + 1, by go_num, by omega, hid hP9, hid (HB8.out.next hb9)⟩
                  case measure => simp [intOf]; omega
                · go_wp2
                  go_roundw
                  case rel => exact ⟨j + 1, by go_num, by omega, HP8.out, HB8.out⟩
                  case measure => simp [intOf]; omega
        · go_wp2_with (first
            | (go_at_call 10; refine (speaks_any _).mono ?_; rintro e w7 ⟨rfl, hb7⟩))
          go_ret
          exact ⟨rfl, HB.out.next hb7⟩
  · go_enter Try.func3, Try.ntmps3
    go_wp2_with (first
      | (go_at_call 8; refine (new_bad n hn _).mono ?_; rintro e w1 ⟨rfl, hw1⟩; subst hw1)
      | (go_at_call 9; refine (xnew_bad n hn _).mono ?_; rintro e w2 ⟨rfl, hw2⟩; subst hw2)
      | (go_at_call 10; refine (speaks_any _).mono ?_; rintro e w7 ⟨rfl, hb7⟩))
    go_ret
    exact ⟨rfl, hb7⟩
end Go.Proofs.Ytglhibmfbbbdiaa
