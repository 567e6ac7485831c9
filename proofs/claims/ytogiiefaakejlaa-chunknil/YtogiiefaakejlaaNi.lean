import Derived.Test.YtogiiefaakejlaaSp
import Derived.Test.YtogiiefaakejlaaCe
namespace Go.Proofs.Ytogiiefaakejlaa
open Go.RowKit Go.Maps

set_option maxRecDepth 100000 in
set_option maxHeartbeats 1000000 in
theorem add_nil (c : Ck) (hs : c.dat.size ≤ maxLen) (w : World) : Calls Try.prog 15 #[.pointer none, c.v] w fun e w' => e = .returned (.tuple #[.bool false, .int .i64 (if rgt c then 7 else 4)]) ∧ Below w.heap.size w w' := by
  have HCK := hid (check_any c hs)
  obtain ⟨dg, t, n, d, sm⟩ := c
  have HB := hid (below_alloc w (.cells #[.int .i64 dg, .int .i64 t, .int .i64 n, .string d, .int .i64 sm] 24))
  cases hr : rgt ⟨dg, t, n, d, sm⟩ with
  | false =>
    rw [hr] at HCK
    clear hr
    go_enter Try.func15, Try.ntmps15
    go_wp2_with (go_at_call 11; fail)
    refine (HCK.out _).mono ?_
    rintro e w1 ⟨rfl, hb1⟩
    have HB1 := hid (HB.out.next hb1)
    clear hb1
    go_wp2
    go_ret2
    exact ⟨rfl, HB1.out⟩
  | true =>
    rw [hr] at HCK
    clear hr
    go_enter Try.func15, Try.ntmps15
    go_wp2_with (go_at_call 11; fail)
    refine (HCK.out _).mono ?_
    rintro e w1 ⟨rfl, hb1⟩
    have HB1 := hid (HB.out.next hb1)
    clear hb1
    go_wp2_with (go_quiet (fail))
    go_ret2
    exact ⟨rfl, HB1.out.dN _⟩
set_option maxRecDepth 100000 in
set_option maxHeartbeats 1000000 in
theorem nil_walk (c : Ck) (hs : c.dat.size ≤ maxLen) (w : World) : Calls Try.prog 6 #[c.v] w fun e w' => e = .returned (.bool true) ∧ Below w.heap.size w w' := by
  have HA := hid (add_nil c hs)
  have HR := hid (right_any c hs)
  have HF := hid (ref_any c)
  have HSP := hid speaks_any
  have HBN := hid blocks_nil
  have HMN := hid miss_nil
  have HK := hid (KBox.made 24 w c)
  have HB := hid (below_alloc w (.cells c.cs.toArray 24))
  obtain ⟨z, hz⟩ : ∃ z, z = rgt c := ⟨_, rfl⟩
  rw [← hz] at HA HR
  clear hz
  obtain ⟨dg, t, n, d, sm⟩ := c
  simp only [Ck.cs] at HK HB
  cases z
  all_goals
    go_enter Try.func6, Try.ntmps6
    go_wp2_with (go_at_call 15; fail)
    refine (HA.out _).mono ?_
    rintro e w1 ⟨rfl, hb1⟩
    have HB1 := hid (HB.out.next hb1)
    have hk1 : KBox 24 w.heap.size w1 ⟨dg, t, n, d, sm⟩ := KBox.same HK.out (hb1.block _ (by simp))
    have HK1 := hid hk1
    clear hb1 hk1
    go_wp2_with (go_at_call 17; fail)
    refine (HBN.out _).mono ?_
    rintro e w2 ⟨rfl, hb2⟩
    have HB2 := hid (HB1.out.next hb2)
    have hk2 : KBox 24 w.heap.size w2 ⟨dg, t, n, d, sm⟩ := KBox.same HK1.out (hb2.block _ HK1.out.lt)
    obtain ⟨k0, k1, k2, k3, k4⟩ := hk2.cell
    clear hb2 hk2
    go_wp2_with (go_at_call 13; fail)
    refine (HF.out _).mono ?_
    rintro e w3 ⟨rfl, hb3⟩
    have HB3 := hid (HB2.out.next hb3)
    clear hb3
    go_wp2_with (go_at_call 12; fail)
    refine (HR.out _).mono ?_
    rintro e w4 ⟨rfl, hb4⟩
    have HB4 := hid (HB3.out.next hb4)
    clear hb4
    go_wp2_with (first
      | (go_at_call 20; refine (HMN.out _).mono ?_; rintro e w5 ⟨rfl, hw⟩; have hw := hw.symm; subst hw)
      | (go_at_call 8; refine (HSP.out _).mono ?_; rintro e w6 ⟨rfl, hb6⟩; have HB6 := hid (HB4.out.next hb6); clear hb6))
    go_ret
    exact ⟨rfl, HB6.out⟩
end Go.Proofs.Ytogiiefaakejlaa
