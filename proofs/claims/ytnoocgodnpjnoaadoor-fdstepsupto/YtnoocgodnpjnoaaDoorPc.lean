import Derived.Test.YtnoocgodnpjnoaaDoorSh
import Derived.OwnWalk
import Derived.Deep.RegionHeld3
namespace Go.Proofs.YtnoocgodnpjnoaaDoor
open Go.RowKit

theorem pre_no {l : List UInt8} (h : ∀ r, l ≠ 47 :: r) : Lib.hasPrefix l [47] = false := by
  unfold Lib.hasPrefix
  cases l with
  | nil => rfl
  | cons b r =>
    have : b ≠ 47 := fun e => h r (by rw [e])
    simp [List.isPrefixOf, Ne.symm this]
theorem pre_yes (r : List UInt8) : Lib.hasPrefix (47 :: r) [47] = true := by simp [Lib.hasPrefix, List.isPrefixOf]
theorem trim_yes (r : List UInt8) : Lib.trimPrefix (47 :: r) [47] = r := by simp [Lib.trimPrefix, pre_yes]
theorem ret_two {v : Value} {a b : Int} (h : a = b) : Ending.returned (.tuple #[v, .int .i64 a]) = .returned (.tuple #[v, .int .i64 b]) := by rw [h]
theorem st47 {s : ByteArray} {r : List UInt8} (h : s.data.toList = 47 :: r) (hr : r ≠ []) : (s.toList == [47]) = false := by
  rw [Lib.toList_data, h]
  simp [hr]
theorem st47n {s : ByteArray} (h : ∀ r, s.data.toList ≠ 47 :: r) : (s.toList == [47]) = false := by
  rw [Lib.toList_data]
  simp [h []]
set_option maxRecDepth 100000 in
set_option maxHeartbeats 2000000 in
/-- Split -/
theorem split_any (s : ByteArray) (w : World) (hs : s.size ≤ 1048576) : Calls Tryd.prog 27 #[.string s] w fun e w' => ∃ v, e = .returned (.tuple #[v, .int .i64 (splE s.data.toList)]) ∧ SLie w' v (splL s.data.toList) ∧ Below w.heap.size w w' := by
  by_cases h1 : s = ⟨#[47]⟩
  · subst h1
    have e1 : splE (⟨#[47]⟩ : ByteArray).data.toList = 0 := splE_root
    have e2 : splL (⟨#[47]⟩ : ByteArray).data.toList = [] := splL_root
    rw [e1, e2]
    go_enter Tryd.func27, Tryd.ntmps27
    go_wp2
    go_ret2
    exact ⟨_, rfl, SLie.nil _, Below.refl _ _⟩
  have HC := hid (fun w => cutPrefix_any s ⟨#[47]⟩ w)
  rw [show (⟨#[47]⟩ : ByteArray).data.toList = [47] from rfl] at HC
  by_cases h2 : ∃ r, s.data.toList = 47 :: r
  · obtain ⟨r, hr⟩ := h2
    have hr0 : r ≠ [] := fun e => h1 (ba_ext (by rw [hr, e]))
    have k1 := st47 hr hr0
    have hlen : r.length + 1 = s.size := by rw [← len_list, hr]; simp
    rw [hr, trim_yes, pre_yes] at HC
    rw [hr, splE_some hr0]
    have HS := hid (fun w => stsplit_any (st r) w (by rw [st_size]; omega))
    rw [st_list] at HS
    have HR : Hid (chkE (namesOf r) = 0 → splL (47 :: r) = namesOf r) := splL_some hr0
    have HR2 : Hid (chkE (namesOf r) ≠ 0 → splL (47 :: r) = []) := fun h => splL_err (by rw [splE_some hr0]; exact h)
    have HK := hid (fun v w => check_any v (namesOf r) w)
    obtain ⟨N, hN⟩ : ∃ N, N = namesOf r := ⟨_, rfl⟩
    rw [← hN] at HS HR HR2 HK ⊢
    obtain ⟨E, hE⟩ : ∃ E, E = chkE N := ⟨_, rfl⟩
    rw [← hE] at HR HR2 HK ⊢
    obtain ⟨R, hR⟩ : ∃ R, R = st r := ⟨_, rfl⟩
    rw [← hR] at HS
    have e : (⟨r.toArray⟩ : ByteArray) = R := hR.symm
    rw [e] at HC
    obtain ⟨Z, hZ⟩ : ∃ Z, Z = splL (47 :: r) := ⟨_, rfl⟩
    rw [← hZ] at HR HR2 ⊢
    clear hN hE hR e hr h1 hr0 hlen hZ
    by_cases h0 : E = 0
    · subst h0
      have e := HR.out rfl
      subst e
      clear HR HR2
      go_enter Tryd.func27, Tryd.ntmps27
      go_wp2_with (first
        | (go_at_call 31; refine (HC.out _).mono ?_; rintro e w1 ⟨rfl, hw⟩; have hw := hw.symm; subst hw)
        | (go_at_call 32; refine (HS.out _).mono ?_; rintro e w1 ⟨v, rfl, hv, hb1⟩; have HV := hid hv; have HB1 := hid hb1; clear hv hb1)
        | (go_at_call 33; refine (HK.out _ _ HV.out).mono ?_; rintro e w2 ⟨rfl, hb2⟩; have HB2 := hid hb2; clear hb2))
      go_ret2
      exact ⟨_, rfl, HV.out.below HB2.out, below_next HB1.out HB2.out⟩
    · have e := HR2.out h0
      subst e
      clear HR HR2
      have hne : (E != 0) = true := by simpa using h0
      go_enter Tryd.func27, Tryd.ntmps27
      go_wp2_with (first
        | (go_at_call 31; refine (HC.out _).mono ?_; rintro e w1 ⟨rfl, hw⟩; have hw := hw.symm; subst hw)
        | (go_at_call 32; refine (HS.out _).mono ?_; rintro e w1 ⟨v, rfl, hv, hb1⟩; have HV := hid hv; have HB1 := hid hb1; clear hv hb1)
        | (go_at_call 33; refine (HK.out _ _ HV.out).mono ?_; rintro e w2 ⟨rfl, hb2⟩; have HB2 := hid hb2; clear hb2))
      go_ret2
      exact ⟨_, rfl, SLie.nil _, below_next HB1.out HB2.out⟩
  · have h2' : ∀ r, s.data.toList ≠ 47 :: r := fun r e => h2 ⟨r, e⟩
    have k1 := st47n h2'
    rw [splL_err (by rw [splE_not h2']; omega), splE_not h2']
    rw [pre_no h2'] at HC
    clear h2 h2' h1
    go_enter Tryd.func27, Tryd.ntmps27
    go_wp2_with (first
      | (go_at_call 31; refine (HC.out _).mono ?_; rintro e w1 ⟨rfl, hw⟩; have hw := hw.symm; subst hw))
    go_ret2
    exact ⟨_, rfl, SLie.nil _, Below.refl _ _⟩
end Go.Proofs.YtnoocgodnpjnoaaDoor
