import Derived.Test.YtfjoajcfpldniaaRl
import Derived.Test.YtfjoajcfpldniaaRm
import Derived.Test.YtfjoajcfpldniaaRn
namespace Go.Proofs.Ytfjoajcfpldniaa
open Go.RowKit Go.Maps

theorem asks_any {B g r N J : Nat} {P : List Fm} {lv : Value} (K k : Int) (d : ByteArray) (hk : inI k) (w : World) (hC : CC B g w N J P) (hR : RC B r w N P lv) (hJ : J + 1 ≤ 90000) : Calls Try.prog 11 #[.pointer (some ⟨g, 0, none⟩), .pointer (some ⟨r, 0, none⟩), .agg #[.int .i64 K, .int .i64 k, .string d]] w fun e w' => e = .returned (.bool true) ∧ Both B g r N (J + 1) w w' := by
  rcases kindk K with hK | rfl | rfl | rfl | rfl | ⟨k0, k1, k2, k3, k4, k5⟩
  · exact asks_load K k hK d hk w hC hR hJ
  · exact asks_look k d hk w hC hR hJ
  · exact asks_store k d hk w hC hR hJ
  · exact asks_pin k d hk w hC hR hJ
  · exact asks_unpin k d hk w hC hR hJ
  · exact asks_take K k k0 k1 k2 k3 k4 k5 d w hC hR hJ
set_option maxRecDepth 100000 in
set_option maxHeartbeats 4000000 in
theorem steps_walk (n : Int) (v : Value) (l : List Stp) (W : World) (hl : TLie W v l) : Calls Try.prog 3 #[.int .i64 n, v] W fun e w' => e = .returned (.bool true) ∧ Below W.heap.size W w' := by
  have HSp := hid (fun w => speaks_any w)
  obtain ⟨ao, cap, rfl, hlc, hcm, hcell⟩ := hl
  have HC0 := hid hcell
  clear hcell
  unfold maxLen at hcm
  by_cases hn : 1 ≤ n ∧ n ≤ 64
  · obtain ⟨N, rfl⟩ : ∃ N : Nat, n = (N : Int) := ⟨n.toNat, by omega⟩
    have hN : 1 ≤ N ∧ N ≤ 64 := by omega
    have HNew := hid (cnew N hN.1 hN.2 W.heap.size W (Nat.le_refl _))
    have HNr := hid (fun w hB => rnew N hN.1 hN.2 W.heap.size w hB)
    clear hn
    go_enter Try.func3, Try.ntmps3
    go_wp2_with (go_at_call 8; fail)
    refine (HNew.out).mono ?_
    rintro e w1 ⟨g, rfl, hC, hB⟩
    have HC1 := hid hC
    have HB1 := hid hB
    have hs1 := hB.size
    clear hC hB HNew
    go_wp2_with (go_at_call 9; fail)
    refine (HNr.out _ hs1).mono ?_
    rintro e w2 ⟨rfl, hR2, hb2⟩
    have HC2 := hid (HC1.out.below hb2)
    have HR2 := hid hR2
    have HB2 := hid (HB1.out.next hb2)
    clear hR2 hb2 HC1 HB1 hs1 HNr
    obtain ⟨r, hr⟩ : ∃ r, r = w1.heap.size := ⟨_, rfl⟩
    rw [← hr] at HR2 ⊢
    clear hr
    by_cases hl3 : 500 < l.length
    · go_wp2_with (first
        | (go_at_call 10; refine (HSp.out _).mono ?_; rintro e w3 ⟨rfl, hb3⟩))
      go_ret
      exact ⟨rfl, HB2.out.next hb3⟩
    · go_wp2
      go_loopw [41] (fun i wr => ∃ (q : Nat) (P : List Fm) (lv : Value), i = .int .i64 q ∧ q ≤ l.length ∧ CC W.heap.size g wr N q P ∧ RC W.heap.size r wr N P lv ∧ Below W.heap.size W wr) (fun i _ => l.length - (intOf i).toNat)
      case atStart => exact ⟨0, [], _, rfl, Nat.zero_le _, HC2.out, HR2.out, HB2.out⟩
      case round =>
        obtain ⟨q, P, lv, rfl, hq, hC, hR, hB⟩ := hrel
        have HC := hid hC
        have HR := hid hR
        have HB := hid hB
        clear hC hR hB HC2 HR2 HB2
        by_cases hlt : q < l.length
        · obtain ⟨bb, off, rfl, hbW, s0, s1, s2, s3⟩ := HC0.out q hlt
          obtain ⟨y, hy⟩ : ∃ y, y = l[q] := ⟨_, rfl⟩
          rw [← hy] at s0 s1 s2 s3
          clear hy
          obtain ⟨K, k, d⟩ := y
          simp only at s0 s1 s2 s3
          have HK := hid s3
          have t0 := (HB.out.cell (p := ⟨bb, off + q * 3, none⟩) hbW).trans s0
          have t1 := (HB.out.cell (p := ⟨bb, off + q * 3 + 1, none⟩) hbW).trans s1
          have t2 := (HB.out.cell (p := ⟨bb, off + q * 3 + 2, none⟩) hbW).trans s2
          have hbr : bb < wr.heap.size := Nat.lt_of_lt_of_le hbW HB.out.size
          clear s0 s1 s2 s3
          have HX := hid (box_at wr (.cells #[.int .i64 K, .int .i64 k, .string d] 32))
          have HBx := hid (below_alloc wr (.cells #[.int .i64 K, .int .i64 k, .string d] 32))
          have HCx := hid (HC.out.below HBx.out)
          have HRx := hid (HR.out.below HBx.out)
          have HB3 := hid (HB.out.next HBx.out)
          have hJ : q + 1 ≤ 90000 := by omega
          go_upto_region 10 with fail
          obtain ⟨x0, hx0⟩ : ∃ x0, x0 = wr.alloc (.cells #[.int .i64 K, .int .i64 k, .string d] 32) := ⟨_, rfl⟩
          rw [← hx0] at HX HCx HRx HB3 ⊢
          clear hx0 t0 t1 t2 hbr HBx
          obtain ⟨bx, hbx⟩ : ∃ bx, bx = wr.heap.size := ⟨_, rfl⟩
          rw [← hbx] at HX ⊢
          clear hbx
          obtain ⟨q0, q1, q2⟩ := three_cells HX.out
          have hlx := lt_of_block HX.out
          have HAs := hid (asks_any K k d HK.out x0 HCx.out HRx.out hJ)
          go_wp2_with (go_at_call 11; fail)
          refine (HAs.out).mono ?_
          rintro e w4 ⟨rfl, P4, lv4, hC4, hR4, hB4⟩
          have hln := hC4.len
          have HC4 := hid hC4
          have HR4 := hid hR4
          have HB4 := hid (HB3.out.trans hB4)
          have HHe := hid (cheld w4 hC4)
          clear hC4 hR4 hB4 HAs HX HCx HRx HB3 q0 q1 q2 hlx HC HR HB
          go_wp2_with (go_at_call 13; fail)
          refine (HHe.out).mono ?_
          rintro e w5 ⟨v5, rfl, hI5, hb5⟩
          have HI5 := hid hI5
          have HC5 := hid (HC4.out.below hb5)
          have HR5 := hid (HR4.out.below hb5)
          have HB5 := hid (HB4.out.next hb5)
          have HHr := hid (rheld w5 HR5.out (by omega))
          clear hI5 hb5 HC4 HR4 HB4 HHe
          go_wp2_with (go_at_call 14; fail)
          refine (HHr.out).mono ?_
          rintro e w6 ⟨v6, rfl, hI6, hb6⟩
          have HIn := hid (rints w6 (HI5.out.below hb6) hI6)
          have HC6 := hid (HC5.out.below hb6)
          have HR6 := hid (HR5.out.below hb6)
          have HB6 := hid (HB5.out.next hb6)
          clear hI6 hb6 HC5 HR5 HB5 HHr
          go_wp2_with (go_at_call 12; fail)
          refine (HIn.out).mono ?_
          rintro e w7 ⟨rfl, hb7⟩
          have HC7 := hid (HC6.out.below hb7)
          have HR7 := hid (HR6.out.below hb7)
          have HB7 := hid (HB6.out.next hb7)
          clear hb7 HC6 HR6 HB6 HIn hln
          go_wp2
          go_roundw
          case rel => exact ⟨q + 1, _, _, by go_num, by omega, HC7.out, HR7.out, HB7.out⟩
          case measure => simp [intOf]; omega
        · have HDi := hid (cdirty wr HC.out)
          go_wp2_with (go_at_call 16; fail)
          refine (HDi.out).mono ?_
          rintro e w5 ⟨v5, rfl, hI5, hb5⟩
          have HI5 := hid hI5
          have HC5 := hid (HC.out.below hb5)
          have HR5 := hid (HR.out.below hb5)
          have HB5 := hid (HB.out.next hb5)
          have HHr := hid (rdirty w5 HR5.out HC5.out.nd (fun f hf => (HC5.out.rt f hf).1))
          clear hI5 hb5 HC HR HB HDi
          go_wp2_with (go_at_call 17; fail)
          refine (HHr.out).mono ?_
          rintro e w6 ⟨v6, rfl, hI6, hb6⟩
          have HIn := hid (rchanges w6 (HI5.out.below hb6) hI6.lie)
          have HB6 := hid (HB5.out.next hb6)
          clear hI6 hb6 HC5 HR5 HB5 HHr
          go_wp2_with (go_at_call 15; fail)
          refine (HIn.out).mono ?_
          rintro e w7 ⟨rfl, hb7⟩
          have HB7 := hid (HB6.out.next hb7)
          clear hb7 HB6 HIn
          go_wp2_with (first
            | (go_at_call 10; refine (HSp.out _).mono ?_; rintro e w8 ⟨rfl, hb8⟩))
          go_ret
          exact ⟨rfl, HB7.out.next hb8⟩
  · have HNew := hid (new_bad n hn W)
    have HNr := hid (fun w => rnew_bad n hn w)
    clear hn
    go_enter Try.func3, Try.ntmps3
    go_wp2_with (first
      | (go_at_call 8; refine (HNew.out).mono ?_; rintro e w1 ⟨rfl, hw⟩; have hw := hw.symm; subst hw)
      | (go_at_call 9; refine (HNr.out _).mono ?_; rintro e w1 ⟨rfl, hw⟩; have hw := hw.symm; subst hw)
      | (go_at_call 10; refine (HSp.out _).mono ?_; rintro e w2 ⟨rfl, hb2⟩))
    go_ret
    exact ⟨by simp, hb2⟩
end Go.Proofs.Ytfjoajcfpldniaa
