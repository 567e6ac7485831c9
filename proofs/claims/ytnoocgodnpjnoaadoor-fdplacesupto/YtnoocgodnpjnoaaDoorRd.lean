import Derived.Test.YtnoocgodnpjnoaaDoorRc
import Derived.Test.YtnoocgodnpjnoaaDoorQi
namespace Go.Proofs.YtnoocgodnpjnoaaDoor
open Go.RowKit

set_option maxRecDepth 100000 in
set_option maxHeartbeats 4000000 in
theorem places_walk (ts : List Stp) (w : World) {v : Value} (hT : TLie w v ts) : Calls Tryd.prog 5 #[v] w fun e w' => e = .returned (.bool true) ∧ Below w.heap.size w w' := by
  obtain ⟨ao, cap, rfl, hlc, hcm, hcell⟩ := hT
  unfold maxLen at hcm
  have HC := hid hcell
  clear hcell
  go_enter Tryd.func5, Tryd.ntmps5
  go_wp2_with (first
    | (go_at_call 7; refine (fnew_any _).mono ?_; rintro e w1 ⟨rfl, t1, b1⟩; have HT1 := hid t1; have HB1 := hid b1; clear t1 b1)
    | (go_at_call 14; refine (sp_open HT1.out).mono ?_; rintro e w2 ⟨rfl, t2, k2⟩; have HP0 : Hid (PL w w2 (upd D0 0 (dA 0)) 0) := hid ⟨t2, KP.new HB1.out k2 (Nat.le_refl _), upd_pi D0_pi ⟨Int.le_refl 0, show (0 : Int) ≤ 533248 by decide⟩, upd_same _ _ _⟩; clear t2 k2))
  go_loopw [4, 19] (fun a i wr => ∃ (j : Nat) (at0 : Int) (D : Nat → Dsc), a = .int .i64 at0 ∧ i = .int .i64 j ∧ j ≤ ts.length ∧ Hid (PL w wr D at0)) (fun _ i _ => ts.length - (intOf i).toNat)
  case atStart => exact ⟨0, 0, _, rfl, rfl, Nat.zero_le _, HP0⟩
  case round =>
    obtain ⟨j, at0, D, rfl, rfl, hj, HP⟩ := hrel
    rename World => wr
    by_cases hlt : j < ts.length
    · obtain ⟨gb, off, ea, hgb, hat, hps⟩ := HC.out j hlt
      subst ea
      have hgr : gb < wr.heap.size := Nat.lt_of_lt_of_le hgb HP.out.bel.size
      have hblk := HP.out.bel.block gb hgb
      obtain ⟨s, hs⟩ : ∃ s, s = ts[j] := ⟨_, rfl⟩
      rw [← hs] at hat hps
      clear hs
      obtain ⟨sk, sf, sm, sn, sp⟩ := s
      simp only [] at hat hps
      obtain ⟨d0, d1, d2, d3, d4⟩ := hat
      simp only [] at d0 d1 d2 d3 d4
      have cc : ∀ o x, w.cell? ⟨gb, o, none⟩ = some x → wr.cell? ⟨gb, o, none⟩ = some x := fun o x h => by
        simp only [World.cell?] at h ⊢
        rw [hblk]; exact h
      replace d0 := cc _ _ d0
      replace d1 := cc _ _ d1
      replace d2 := cc _ _ d2
      replace d3 := cc _ _ d3
      replace d4 := cc _ _ d4
      clear cc hblk
      have hr := HP.out.rng
      have HZ := hid HP.out.z
      have HPi := hid HP.out.pi
      have HP1 := hid (HP.out.below (below_alloc wr (.cells #[.int .i64 sk, .int .i64 sf, .int .i64 sm, .int .i64 sn, .string sp] 30)))
      have HX1 : Hid (SBox wr.heap.size (wr.alloc (.cells #[.int .i64 sk, .int .i64 sf, .int .i64 sm, .int .i64 sn, .string sp] 30)) ⟨sk, sf, sm, sn, sp⟩) := hid (box_at _ _)
      have HG : Hid (wr.heap.size ≠ w.heap.size) := hid (by have := HP.out.ti.lt; omega)
      by_cases e2 : sk = 2
      · subst e2
        by_cases ef : sf = 0
        · subst ef
          go_wp2
          go_roundw
          case rel => exact ⟨j + 1, _, _, rfl, by go_num, by omega, HP1⟩
          case measure => simp [intOf]; omega
        · have hfne : (sf == 0) = false := by rw [beq_eq_false_iff_ne]; exact ef
          go_wp2_with (first
                  | (go_at_call 16; refine (close_any sf HP1.out.ti).mono ?_; rintro e w2 ⟨rfl, t2, k2⟩; have HP2 : Hid (PL w w2 _ at0) := hid (HP1.out.to t2 k2 (clos_pi HPi.out) ((clos_keep (by exact ef)).trans HZ.out)); clear t2 k2)
                  | (go_at_call 9; refine (at_zero HP2.out.ti HP2.out.z).mono ?_; rintro e w3 ⟨rfl, q, hw3⟩; have HP3 := hid (HP2.out.below (drewN_below _ q)); rw [← hw3] at HP3; clear hw3))
          go_roundw
          case rel => exact ⟨j + 1, _, _, rfl, by go_num, by omega, HP3⟩
          case measure => simp [intOf]; omega
      have g2 : (sk == 2) = false := by rw [beq_eq_false_iff_ne]; exact e2
      by_cases e0 : sk = 0
      · subst e0
        go_wp2_with (first
                | (go_at_call 14; refine (open_any sp HP1.out.ti hps).mono ?_; rintro e w2 ⟨rfl, t2, k2⟩; have HP2 : Hid (PL w w2 _ at0) := hid (HP1.out.to t2 k2 (open_pi HPi.out) ((open_keep (by rw [HZ.out])).trans HZ.out)); clear t2 k2)
                | (go_at_call 9; refine (at_zero HP2.out.ti HP2.out.z).mono ?_; rintro e w3 ⟨rfl, q, hw3⟩; have HP3 := hid (HP2.out.below (drewN_below _ q)); rw [← hw3] at HP3; clear hw3))
        go_roundw
        case rel => exact ⟨j + 1, _, _, rfl, by go_num, by omega, HP3⟩
        case measure => simp [intOf]; omega
      have g0 : (sk == 0) = false := by rw [beq_eq_false_iff_ne]; exact e0
      by_cases e1 : sk = 1
      · subst e1
        go_wp2_with (first
                | (go_at_call 14; refine (open_any sp HP1.out.ti hps).mono ?_; rintro e w2 ⟨rfl, t2, k2⟩; have HP2 : Hid (PL w w2 _ at0) := hid (HP1.out.to t2 k2 (open_pi HPi.out) ((open_keep (by rw [HZ.out])).trans HZ.out)); clear t2 k2)
                | (go_at_call 9; refine (at_zero HP2.out.ti HP2.out.z).mono ?_; rintro e w3 ⟨rfl, q, hw3⟩; have HP3 := hid (HP2.out.below (drewN_below _ q)); rw [← hw3] at HP3; clear hw3))
        go_roundw
        case rel => exact ⟨j + 1, _, _, rfl, by go_num, by omega, HP3⟩
        case measure => simp [intOf]; omega
      have g1 : (sk == 1) = false := by rw [beq_eq_false_iff_ne]; exact e1
      by_cases e3 : sk = 3
      · subst e3
        by_cases hz : seekE D sf sm sn = 0
        · by_cases ef : sf = 0
          · subst ef
            have HS : Hid (∀ wx, TI w.heap.size wx D → Calls Tryd.prog 17 #[.pointer (some ⟨w.heap.size, 0, none⟩), .int .i64 0, .int .i64 sm, .int .i64 sn] wx fun e w' => e = .returned (.tuple #[.int .i64 (sm + sn), .int .i64 0]) ∧ TI w.heap.size w' (seekD D 0 sm sn) ∧ KP w.heap.size wx w') := hid (fun wx t => by have := seek_any 0 sm sn t; unfold seekR at this; rw [if_pos hz, hz] at this; exact this)
            have HZ2 : Hid (seekD D 0 sm sn 0 = ⟨true, ⟨#[47, 97]⟩, sm + sn⟩) := hid (by unfold seekD; rw [if_pos hz]; show upd D 0 _ 0 = _; rw [upd_same]; show (⟨(D 0).o, (D 0).p, sm + sn⟩ : Dsc) = _; rw [HZ.out])
            have hr2 := (seek_zero hz).2
            clear hz
            go_wp2_with (first
                    | (go_at_call 17; refine (HS.out _ HP1.out.ti).mono ?_; rintro e w2 ⟨rfl, t2, k2⟩; have HP2 : Hid (PL w w2 _ (sm + sn)) := hid (HP1.out.to t2 k2 (seek_pi HPi.out) HZ2.out); have HX2 := hid (HX1.out.kept k2 HG.out); obtain ⟨y0, y1, y2, y3, y4⟩ := HX2.out.cells; clear t2 k2)
                    | (go_at_call 9; refine (at_zero HP2.out.ti HP2.out.z).mono ?_; rintro e w3 ⟨rfl, q, hw3⟩; have HP3 := hid (HP2.out.below (drewN_below _ q)); rw [← hw3] at HP3; clear hw3))
            go_roundw
            case rel => exact ⟨j + 1, _, _, rfl, by go_num, by omega, HP3⟩
            case measure => simp [intOf]; omega
          · have hfne : (sf == 0) = false := by rw [beq_eq_false_iff_ne]; exact ef
            have HS : Hid (∀ wx, TI w.heap.size wx D → Calls Tryd.prog 17 #[.pointer (some ⟨w.heap.size, 0, none⟩), .int .i64 sf, .int .i64 sm, .int .i64 sn] wx fun e w' => e = .returned (.tuple #[.int .i64 (sm + sn), .int .i64 0]) ∧ TI w.heap.size w' (seekD D sf sm sn) ∧ KP w.heap.size wx w') := hid (fun wx t => by have := seek_any sf sm sn t; unfold seekR at this; rw [if_pos hz, hz] at this; exact this)
            clear hz
            go_wp2_with (first
                    | (go_at_call 17; refine (HS.out _ HP1.out.ti).mono ?_; rintro e w2 ⟨rfl, t2, k2⟩; have HP2 : Hid (PL w w2 _ at0) := hid (HP1.out.to t2 k2 (seek_pi HPi.out) ((seek_keep (by exact ef)).trans HZ.out)); have HX2 := hid (HX1.out.kept k2 HG.out); obtain ⟨y0, y1, y2, y3, y4⟩ := HX2.out.cells; clear t2 k2)
                    | (go_at_call 9; refine (at_zero HP2.out.ti HP2.out.z).mono ?_; rintro e w3 ⟨rfl, q, hw3⟩; have HP3 := hid (HP2.out.below (drewN_below _ q)); rw [← hw3] at HP3; clear hw3))
            go_roundw
            case rel => exact ⟨j + 1, _, _, rfl, by go_num, by omega, HP3⟩
            case measure => simp [intOf]; omega
        · have HS := hid (fun wx (t : TI w.heap.size wx D) => seek_any sf sm sn t)
          have HZ2 : Hid (seekD D sf sm sn 0 = ⟨true, ⟨#[47, 97]⟩, at0⟩) := hid (by unfold seekD; rw [if_neg hz]; exact HZ.out)
          have hzb : (seekE D sf sm sn == 0) = false := by rw [beq_eq_false_iff_ne]; exact hz
          obtain ⟨xe, hxe⟩ : ∃ x, x = seekE D sf sm sn := ⟨_, rfl⟩
          rw [← hxe] at HS hzb
          clear hxe hz
          go_wp2_with (first
                  | (go_at_call 17; refine (HS.out _ HP1.out.ti).mono ?_; rintro e w2 ⟨rfl, t2, k2⟩; have HP2 : Hid (PL w w2 _ at0) := hid (HP1.out.to t2 k2 (seek_pi HPi.out) HZ2.out); have HX2 := hid (HX1.out.kept k2 HG.out); obtain ⟨y0, y1, y2, y3, y4⟩ := HX2.out.cells; clear t2 k2)
                  | (go_at_call 9; refine (at_zero HP2.out.ti HP2.out.z).mono ?_; rintro e w3 ⟨rfl, q, hw3⟩; have HP3 := hid (HP2.out.below (drewN_below _ q)); rw [← hw3] at HP3; clear hw3))
          go_roundw
          case rel => exact ⟨j + 1, _, _, rfl, by go_num, by omega, HP3⟩
          case measure => simp [intOf]; omega
      have g3 : (sk == 3) = false := by rw [beq_eq_false_iff_ne]; exact e3
      by_cases e4 : sk = 4
      · subst e4
        go_wp2_with (first
                | (go_at_call 18; refine (next_any sf sn HP1.out.ti).mono ?_; rintro e w2 ⟨rfl, b2⟩; have HP2 := hid (HP1.out.below b2); clear b2)
                | (go_at_call 9; refine (at_zero HP2.out.ti HP2.out.z).mono ?_; rintro e w3 ⟨rfl, q, hw3⟩; have HP3 := hid (HP2.out.below (drewN_below _ q)); rw [← hw3] at HP3; clear hw3))
        go_roundw
        case rel => exact ⟨j + 1, _, _, rfl, by go_num, by omega, HP3⟩
        case measure => simp [intOf]; omega
      have g4 : (sk == 4) = false := by rw [beq_eq_false_iff_ne]; exact e4
      by_cases e5 : sk = 5
      · subst e5
        go_wp2_with (first
                | (go_at_call 19; refine (write_any sf sp HP1.out.ti).mono ?_; rintro e w2 ⟨rfl, b2⟩; have HP2 := hid (HP1.out.below b2); clear b2)
                | (go_at_call 9; refine (at_zero HP2.out.ti HP2.out.z).mono ?_; rintro e w3 ⟨rfl, q, hw3⟩; have HP3 := hid (HP2.out.below (drewN_below _ q)); rw [← hw3] at HP3; clear hw3))
        go_roundw
        case rel => exact ⟨j + 1, _, _, rfl, by go_num, by omega, HP3⟩
        case measure => simp [intOf]; omega
      have g5 : (sk == 5) = false := by rw [beq_eq_false_iff_ne]; exact e5
      by_cases e6 : sk = 6
      · subst e6
        by_cases hz : movE D sf sn = 0
        · by_cases ef : sf = 0
          · subst ef
            have HS : Hid (∀ wx, TI w.heap.size wx D → Calls Tryd.prog 20 #[.pointer (some ⟨w.heap.size, 0, none⟩), .int .i64 0, .int .i64 sn] wx fun e w' => e = .returned (.int .i64 0) ∧ TI w.heap.size w' (movD D 0 sn) ∧ KP w.heap.size wx w') := hid (fun wx t => by have := moved_any 0 sn t HPi.out; rw [hz] at this; exact this)
            have hr2 : 0 ≤ sn ∧ at0 + sn ≤ 533248 := by have := (mov_zero hz).2; rw [show ((0 : Int).toNat) = 0 from rfl, HZ.out] at this; exact this
            have HZ2 : Hid (movD D 0 sn 0 = ⟨true, ⟨#[47, 97]⟩, at0 + sn⟩) := hid (by unfold movD; rw [if_pos hz]; show upd D 0 _ 0 = _; rw [upd_same]; show (⟨(D 0).o, (D 0).p, (D 0).n + sn⟩ : Dsc) = _; rw [HZ.out])
            have hwa : IntKind.i64.wrap (at0 + sn) = at0 + sn := by rw [IntKind.wrap_i64]; omega
            clear hz
            go_wp2_with (first
                    | (go_at_call 20; refine (HS.out _ HP1.out.ti).mono ?_; rintro e w2 ⟨rfl, t2, k2⟩; have HP2 : Hid (PL w w2 _ (at0 + sn)) := hid (HP1.out.to t2 k2 (mov_pi HPi.out) HZ2.out); have HX2 := hid (HX1.out.kept k2 HG.out); obtain ⟨y0, y1, y2, y3, y4⟩ := HX2.out.cells; clear t2 k2)
                    | (go_at_call 9; refine (at_zero HP2.out.ti HP2.out.z).mono ?_; rintro e w3 ⟨rfl, q, hw3⟩; have HP3 := hid (HP2.out.below (drewN_below _ q)); rw [← hw3] at HP3; clear hw3))
            go_roundw
            case rel => exact ⟨j + 1, _, _, rfl, by go_num, by omega, HP3⟩
            case measure => simp [intOf]; omega
          · have hfne : (sf == 0) = false := by rw [beq_eq_false_iff_ne]; exact ef
            have HS : Hid (∀ wx, TI w.heap.size wx D → Calls Tryd.prog 20 #[.pointer (some ⟨w.heap.size, 0, none⟩), .int .i64 sf, .int .i64 sn] wx fun e w' => e = .returned (.int .i64 0) ∧ TI w.heap.size w' (movD D sf sn) ∧ KP w.heap.size wx w') := hid (fun wx t => by have := moved_any sf sn t HPi.out; rw [hz] at this; exact this)
            clear hz
            go_wp2_with (first
                    | (go_at_call 20; refine (HS.out _ HP1.out.ti).mono ?_; rintro e w2 ⟨rfl, t2, k2⟩; have HP2 : Hid (PL w w2 _ at0) := hid (HP1.out.to t2 k2 (mov_pi HPi.out) ((mov_keep (by exact ef)).trans HZ.out)); have HX2 := hid (HX1.out.kept k2 HG.out); obtain ⟨y0, y1, y2, y3, y4⟩ := HX2.out.cells; clear t2 k2)
                    | (go_at_call 9; refine (at_zero HP2.out.ti HP2.out.z).mono ?_; rintro e w3 ⟨rfl, q, hw3⟩; have HP3 := hid (HP2.out.below (drewN_below _ q)); rw [← hw3] at HP3; clear hw3))
            go_roundw
            case rel => exact ⟨j + 1, _, _, rfl, by go_num, by omega, HP3⟩
            case measure => simp [intOf]; omega
        · have HS := hid (fun wx (t : TI w.heap.size wx D) => moved_any sf sn t HPi.out)
          have HZ2 : Hid (movD D sf sn 0 = ⟨true, ⟨#[47, 97]⟩, at0⟩) := hid (by unfold movD; rw [if_neg hz]; exact HZ.out)
          have hzb : (movE D sf sn == 0) = false := by rw [beq_eq_false_iff_ne]; exact hz
          obtain ⟨xe, hxe⟩ : ∃ x, x = movE D sf sn := ⟨_, rfl⟩
          rw [← hxe] at HS hzb
          clear hxe hz
          go_wp2_with (first
                  | (go_at_call 20; refine (HS.out _ HP1.out.ti).mono ?_; rintro e w2 ⟨rfl, t2, k2⟩; have HP2 : Hid (PL w w2 _ at0) := hid (HP1.out.to t2 k2 (mov_pi HPi.out) HZ2.out); have HX2 := hid (HX1.out.kept k2 HG.out); obtain ⟨y0, y1, y2, y3, y4⟩ := HX2.out.cells; clear t2 k2)
                  | (go_at_call 9; refine (at_zero HP2.out.ti HP2.out.z).mono ?_; rintro e w3 ⟨rfl, q, hw3⟩; have HP3 := hid (HP2.out.below (drewN_below _ q)); rw [← hw3] at HP3; clear hw3))
          go_roundw
          case rel => exact ⟨j + 1, _, _, rfl, by go_num, by omega, HP3⟩
          case measure => simp [intOf]; omega
      have g6 : (sk == 6) = false := by rw [beq_eq_false_iff_ne]; exact e6
      have HP2 := HP1
      go_wp2_with (first
              | (go_at_call 9; refine (at_zero HP2.out.ti HP2.out.z).mono ?_; rintro e w3 ⟨rfl, q, hw3⟩; have HP3 := hid (HP2.out.below (drewN_below _ q)); rw [← hw3] at HP3; clear hw3))
      go_roundw
      case rel => exact ⟨j + 1, _, _, rfl, by go_num, by omega, HP3⟩
      case measure => simp [intOf]; omega
    · go_wp2_with (first | (go_at_call 13; refine (speaks_any _).mono ?_; rintro e w9 ⟨rfl, b9⟩))
      go_ret
      exact ⟨rfl, HP.out.bel.next b9⟩
end Go.Proofs.YtnoocgodnpjnoaaDoor
