import Derived.Test.YtnoocgodnpjnoaaDoorSd
namespace Go.Proofs.YtnoocgodnpjnoaaDoor
open Go.RowKit

theorem retO {a : Act} {w : World} {R : Nat} {m : Opr} {e : Int} {post : Ending → World → Prop} (hb : Box R w m) (h2 : a.tmps.getD 10 undef = .pointer (some ⟨R, 0, none⟩)) (h3 : a.tmps.getD 11 undef = .int .i64 e) (hd : a.defers = []) (hp : post (.returned (.tuple #[m.v, .int .i64 e])) w) : bodyPost Tryd.prog Tryd.f24 post .ret a w := by
  refine bodyPost_ret (v := .tuple #[m.v, .int .i64 e]) ?_ hd hp
  rw [results_cell_tmp (p := 10) (u := 11) (ty := 52) rfl, h2, h3]
  simp [asAddr, Result.andThen, load52 hb]
set_option maxRecDepth 100000 in
set_option maxHeartbeats 1000000 in
theorem moved_ref {base top r : Nat} {w : World} {D : Nat → Dsc} (fd n : Int) (h : RT base top r w (fl D 16)) (hrb : r < base) (hP : PI D) : Calls Tryd.prog 25 #[.pointer (some ⟨r, 0, none⟩), .int .i64 fd, .int .i64 n] w fun e w' => e = .returned (.int .i64 (movE D fd n)) ∧ RI base r w' (fl (movD D fd n) 16) ∧ KR base top r w w' := by
  have HF := hid (find_ref fd h.ri)
  have HH := hid h
  clear h
  unfold movD movE
  unfold idx at HF
  cases ho : opn D fd with
  | true =>
    rw [ho] at HF
    obtain ⟨k, rfl, hk, hd⟩ := opn_parts ho
    rw [if_pos rfl, Int.toNat_natCast] at HF
    have hp := hP k
    have HO := hid hd
    cases hb : decide (0 ≤ n) && decide ((D (k : Int).toNat).n + n ≤ 533248) with
    | true =>
      simp at hb
      simp only [if_true, Int.toNat_natCast]
      obtain ⟨pl, hpl⟩ : ∃ x, x = (D k).n := ⟨_, rfl⟩
      have HPL := hid hpl
      rw [← hpl] at hb hp
      clear hd ho hP
      have hw1 : IntKind.i64.wrap (pl + n) = pl + n := by rw [IntKind.wrap_i64]; omega
      have hw2 : IntKind.i64.wrap (533248 - pl) = 533248 - pl := by rw [IntKind.wrap_i64]; omega
      clear hpl
      go_enter Tryd.func25, Tryd.ntmps25
      go_wp2_with (first | (go_at_call 10; refine (HF.out).mono ?_; rintro e w2 ⟨rfl, b2⟩; have HB := hid b2; clear b2; obtain ⟨x, nn, cap, c0, hnc, hcm, hcn, hbx, hxt, hxl, HR, HR1, c1, c2⟩ := (HH.out.below HB.out).at hk HO.out; rw [← HPL.out] at c1; replace HR := hid HR; replace HR1 := hid HR1; unfold maxLen at hcm; have f1 := HR.out.free (cnt D k * 3 + 1); obtain ⟨ci, hci⟩ : ∃ c, c = cnt D k := ⟨_, rfl⟩; have HCI := hid hci; rw [← hci] at c1 c2 f1 hcn; rw [← hci]; clear hci))
      go_region
      go_wp2
      go_ret
      refine ⟨rfl, ?_, ?_⟩
      · rw [HCI.out]
        have := (RT.put (by omega) HR1.out HR.out hxt hk HO.out (pl + n)).ri
        rw [HPL.out] at this ⊢
        exact this.below (drewN_below _ 1)
      · exact ((KR.of_below HB.out).trans (KR.set _ _ hbx hxt)).trans (KR.of_below (drewN_below _ 1))
    | false =>
      simp only [Bool.false_eq_true, if_false, if_true, show ¬ (309 : Int) = 0 by decide]
      rw [Int.toNat_natCast] at hb
      obtain ⟨pl, hpl⟩ : ∃ x, x = (D k).n := ⟨_, rfl⟩
      have HPL := hid hpl
      rw [← hpl] at hb hp
      clear hd ho hP hpl
      have hw2 : IntKind.i64.wrap (533248 - pl) = 533248 - pl := by rw [IntKind.wrap_i64]; omega
      by_cases h1 : n < 0
      · clear hb
        go_enter Tryd.func25, Tryd.ntmps25
        go_wp2_with (first | (go_at_call 10; refine (HF.out).mono ?_; rintro e w2 ⟨rfl, b2⟩; have HB := hid b2; clear b2))
        go_ret
        exact ⟨rfl, (HH.out.below HB.out).ri, KR.of_below HB.out⟩
      · have h2 : 533248 - pl < n := by
          rw [decide_eq_true (by omega)] at hb
          simp at hb
          omega
        clear hb
        go_enter Tryd.func25, Tryd.ntmps25
        go_wp2_with (first | (go_at_call 10; refine (HF.out).mono ?_; rintro e w2 ⟨rfl, b2⟩; have HB := hid b2; clear b2; obtain ⟨x, nn, cap, c0, hnc, hcm, hcn, hbx, hxt, hxl, HR, HR1, c1, c2⟩ := (HH.out.below HB.out).at hk HO.out; rw [← HPL.out] at c1; replace HR := hid HR; replace HR1 := hid HR1; unfold maxLen at hcm; obtain ⟨ci, hci⟩ : ∃ c, c = cnt D k := ⟨_, rfl⟩; rw [← hci] at c1 c2 hcn; rw [← hci]; clear hci))
        go_ret
        exact ⟨rfl, (HH.out.below HB.out).ri, KR.of_below HB.out⟩
  | false =>
    rw [ho] at HF
    simp only [Bool.false_eq_true, if_false, show ¬ (311 : Int) = 0 by decide] at HF ⊢
    clear ho
    go_enter Tryd.func25, Tryd.ntmps25
    go_wp2_with (first | (go_at_call 10; refine (HF.out).mono ?_; rintro e w2 ⟨rfl, b2⟩; have HB := hid b2; clear b2))
    go_ret
    exact ⟨rfl, (HH.out.below HB.out).ri, KR.of_below HB.out⟩
end Go.Proofs.YtnoocgodnpjnoaaDoor
