import Derived.Test.YtbjdgehgbfcimaaDoorPf
namespace Go.Proofs.YtbjdgehgbfcimaaDoor
open Go.RowKit

def pABC : ByteArray := ⟨#[47, 97, 47, 98, 99]⟩
def nA : ByteArray := ⟨#[97]⟩
def nBC : ByteArray := ⟨#[98, 99]⟩
theorem sp1 : splE pABC.data.toList = 0 := by decide +kernel
theorem sp2 : splL pABC.data.toList = [nA, nBC] := by decide +kernel
theorem sp3 : chkE [nA, nBC] = 0 := by decide +kernel
theorem sp4 : st (joinP [nA, nBC]) = pABC := by decide +kernel
theorem sp5 : parU pABC.data.toList = ⟨#[47, 97]⟩ ∧ parN pABC.data.toList = nBC ∧ parE pABC.data.toList = 0 := by decide +kernel
theorem sp6 : belB pABC.data.toList (⟨#[47, 97]⟩ : ByteArray).data.toList = true ∧ belE pABC.data.toList (⟨#[47, 97]⟩ : ByteArray).data.toList = 0 := by decide +kernel
theorem speaks_any (w : World) : Calls Tryd.prog 16 #[] w fun e w' => e = .returned (.bool true) ∧ Below w.heap.size w w' := by
  have H9 := hid (fun w => split_any pABC w (by decide))
  rw [sp1, sp2] at H9
  have H17 := hid (fun v w (h : SLie w v [nA, nBC]) => join_any v _ w h)
  rw [sp3, if_pos rfl, sp4] at H17
  have H11 := hid (fun w => parent_any pABC w (by decide))
  rw [sp5.1, sp5.2.1, sp5.2.2] at H11
  have H21 := hid (fun w => below_any pABC ⟨#[47, 97]⟩ w (by decide) (by decide))
  rw [sp6.1, sp6.2] at H21
  have H14 := hid (fun w => name_any ⟨#[46, 46]⟩ w)
  rw [nmB_two] at H14
  have H19 := hid (fun v w (h : SLie w v [nA, nBC]) => less_any (.slice none 0 0) v [] [nA, nBC] w (SLie.nil w) h)
  have e0 : lessS [] [nA, nBC] = true := rfl
  rw [e0] at H19
  clear e0
  unfold pABC at H9 H17 H11 H21
  unfold nBC at H11
  go_enter Tryd.func16, Tryd.ntmps16
  go_upto_region 2 with (first
    | (go_at_call 9; refine (H9.out _).mono ?_; rintro e w1 ⟨v, rfl, hv, hb1⟩; have HV := hid hv; have HB1 := hid hb1; clear hv hb1))
  obtain ⟨ao, cap, e, hc1, hc2, hc3⟩ := HV.out
  subst e
  clear hc3
  go_wp2_with (first
    | (go_at_call 17; refine (H17.out _ _ HV.out).mono ?_; rintro e w2 ⟨rfl, hb2⟩; have HV2 := hid (HV.out.below hb2); have HB2 := hid (below_next HB1.out hb2); clear hb2)
    | (go_at_call 11; refine (H11.out _).mono ?_; rintro e w3 ⟨rfl, hb3⟩; have HV3 := hid (HV2.out.below hb3); have HB3 := hid (below_next HB2.out hb3); clear hb3)
    | (go_at_call 21; refine (H21.out _).mono ?_; rintro e w4 ⟨rfl, hb4⟩; have HV4 := hid (HV3.out.below hb4); have HB4 := hid (below_next HB3.out hb4); clear hb4)
    | (go_at_call 14; refine (H14.out _).mono ?_; rintro e w5 ⟨rfl, hb5⟩; have HV5 := hid (HV4.out.below hb5); have HB5 := hid (below_next HB4.out hb5); clear hb5)
    | (go_at_call 19; refine (H19.out _ _ HV5.out).mono ?_; rintro e w6 ⟨rfl, hw⟩; have hw := hw.symm; subst hw))
  go_ret
  exact ⟨rfl, HB5.out⟩
set_option maxRecDepth 100000 in
theorem splits_walk (s : ByteArray) (w : World) (hs : s.size ≤ 1048576) : Calls Tryd.prog 3 #[.string s] w fun e w' => e = .returned (.bool true) ∧ Below w.heap.size w w' := by
  have H9 := hid (fun w => split_any s w hs)
  have H10 := hid (fun w => rsplit_any s w hs)
  have H11 := hid (fun w => parent_any s w hs)
  have H12 := hid (fun w => rparent_any s w hs)
  have H14 := hid (fun w => name_any s w)
  have H15 := hid (fun w => rname_any s w (by unfold maxLen; omega))
  have HT := hid (fun v v' w (h : SLie w v (splL s.data.toList)) (h' : SLie w v' (splL s.data.toList)) => texts_any v v' _ _ w h h')
  rw [sameS_self] at HT
  have HSP := hid speaks_any
  obtain ⟨E, hE⟩ : ∃ E, E = splE s.data.toList := ⟨_, rfl⟩
  obtain ⟨L, hL⟩ : ∃ L, L = splL s.data.toList := ⟨_, rfl⟩
  obtain ⟨pu, h1⟩ : ∃ x, x = parU s.data.toList := ⟨_, rfl⟩
  obtain ⟨pn, h2⟩ : ∃ x, x = parN s.data.toList := ⟨_, rfl⟩
  obtain ⟨pe, h3⟩ : ∃ x, x = parE s.data.toList := ⟨_, rfl⟩
  obtain ⟨ne, h4⟩ : ∃ x, x = nmB s := ⟨_, rfl⟩
  rw [← hE, ← hL] at H9 H10
  rw [← hL] at HT
  rw [← h1, ← h2, ← h3] at H11 H12
  rw [← h4] at H14 H15
  clear hE hL h1 h2 h3 h4
  go_enter Tryd.func3, Tryd.ntmps3
  go_wp2_with (first
    | (go_at_call 9; refine (H9.out _).mono ?_; rintro e w1 ⟨v, rfl, hv, hb1⟩; have HV := hid hv; have HB1 := hid hb1; clear hv hb1)
    | (go_at_call 10; refine (H10.out _).mono ?_; rintro e w2 ⟨v2, rfl, hv2, hb2⟩; have HV2 := hid hv2; have HV1 := hid (HV.out.below hb2); have HB2 := hid (below_next HB1.out hb2); clear hv2 hb2)
    | (go_at_call 11; refine (H11.out _).mono ?_; rintro e w3 ⟨rfl, hb3⟩; have HV3 := hid (HV1.out.below hb3); have HV23 := hid (HV2.out.below hb3); have HB3 := hid (below_next HB2.out hb3); clear hb3)
    | (go_at_call 12; refine (H12.out _).mono ?_; rintro e w4 ⟨rfl, hb4⟩; have HV4 := hid (HV3.out.below hb4); have HV24 := hid (HV23.out.below hb4); have HB4 := hid (below_next HB3.out hb4); clear hb4)
    | (go_at_call 13; refine (HT.out _ _ _ HV4.out HV24.out).mono ?_; rintro e w5 ⟨rfl, hb5⟩; have HB5 := hid (below_next HB4.out hb5); clear hb5)
    | (go_at_call 14; refine (H14.out _).mono ?_; rintro e w6 ⟨rfl, hb6⟩; have HB6 := hid (below_next HB5.out hb6); clear hb6)
    | (go_at_call 15; refine (H15.out _).mono ?_; rintro e w7 ⟨rfl, hw⟩; have hw := hw.symm; subst hw)
    | (go_at_call 16; refine (HSP.out _).mono ?_; rintro e w8 ⟨rfl, hb8⟩; have HB8 := hid (below_next HB6.out hb8); clear hb8))
  go_ret
  exact ⟨rfl, HB8.out⟩
end Go.Proofs.YtbjdgehgbfcimaaDoor
