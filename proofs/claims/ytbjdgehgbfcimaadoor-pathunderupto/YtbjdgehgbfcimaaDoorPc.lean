import Derived.Test.YtbjdgehgbfcimaaDoorSh
import Derived.OwnWalk
import Derived.Deep.RegionHeld3
namespace Go.Proofs.YtbjdgehgbfcimaaDoor
open Go.RowKit

theorem pre_no {l : List UInt8} (h : ∀ r, l ≠ 47 :: r) : Lib.hasPrefix l [47] = false := by
  unfold Lib.hasPrefix
  cases l with
  | nil => rfl
  | cons b r =>
    have : b ≠ 47 := fun e => h r (by rw [e])
    simp [List.isPrefixOf, Ne.symm this]
theorem pre_yes (r : List UInt8) : Lib.hasPrefix (47 :: r) [47] = true := by simp [Lib.hasPrefix, List.isPrefixOf]
theorem trim_yes (r : List UInt8) : Lib.trimPrefix (47 :: r) [47] = r := by simp [Lib.trimPrefix, pre_yes]
theorem ret_two {v : Value} {a b : Int} (h : a = b) : Ending.returned (.tuple #[v, .int .i64 a]) = .returned (.tuple #[v, .int .i64 b]) := by rw [h]
theorem st47 {s : ByteArray} {r : List UInt8} (h : s.data.toList = 47 :: r) (hr : r ≠ []) : (s.toList == [47]) = false := by
  rw [Lib.toList_data, h]
  simp [hr]
theorem st47n {s : ByteArray} (h : ∀ r, s.data.toList ≠ 47 :: r) : (s.toList == [47]) = false := by
  rw [Lib.toList_data]
  simp [h []]
set_option maxRecDepth 100000 in
set_option maxHeartbeats 2000000 in
/-- Split -/
theorem split_any (s : ByteArray) (w : World) (hs : s.size ≤ 1048576) : Calls Tryd.prog 9 #[.string s] w fun e w' => ∃ v, e = .returned (.tuple #[v, .int .i64 (splE s.data.toList)]) ∧ SLie w' v (splL s.data.toList) ∧ Below w.heap.size w w' := by
  by_cases h1 : s = ⟨#[47]⟩
  · subst h1
    have e1 : splE (⟨#[47]⟩ : ByteArray).data.toList = 0 := splE_root
    have e2 : splL (⟨#[47]⟩ : ByteArray).data.toList = [] := splL_root
    rw [e1, e2]
    go_enter Tryd.func9, Tryd.ntmps9
    go_wp2
    go_ret2
    exact ⟨_, rfl, SLie.nil _, Below.refl _ _⟩
  have HC := hid (fun w => cutPrefix_any s ⟨#[47]⟩ w)
  rw [show (⟨#[47]⟩ : ByteArray).data.toList = [47] from rfl] at HC
  by_cases h2 : ∃ r, s.data.toList = 47 :: r
  · obtain ⟨r, hr⟩ := h2
    have hr0 : r ≠ [] := fun e => h1 (ba_ext (by rw [hr, e]))
    have k1 := st47 hr hr0
    have hlen : r.length + 1 = s.size := by rw [← len_list, hr]; simp
    rw [hr, trim_yes, pre_yes] at HC
    rw [hr, splE_some hr0]
    have HS := hid (fun w => stsplit_any (st r) w (by rw [st_size]; omega))
    rw [st_list] at HS
    have HR : Hid (chkE (namesOf r) = 0 → splL (47 :: r) = namesOf r) := splL_some hr0
    have HR2 : Hid (chkE (namesOf r) ≠ 0 → splL (47 :: r) = []) := fun h => splL_err (by rw [splE_some hr0]; exact h)
    have HK := hid (fun v w => check_any v (namesOf r) w)
    obtain ⟨N, hN⟩ : ∃ N, N = namesOf r := ⟨_, rfl⟩
    rw [← hN] at HS HR HR2 HK ⊢
    obtain ⟨E, hE⟩ : ∃ E, E = chkE N := ⟨_, rfl⟩
    rw [← hE] at HR HR2 HK ⊢
    obtain ⟨R, hR⟩ : ∃ R, R = st r := ⟨_, rfl⟩
    rw [← hR] at HS
    have e : (⟨r.toArray⟩ : ByteArray) = R := hR.symm
    rw [e] at HC
    obtain ⟨Z, hZ⟩ : ∃ Z, Z = splL (47 :: r) := ⟨_, rfl⟩
    rw [← hZ] at HR HR2 ⊢
    clear hN hE hR e hr h1 hr0 hlen hZ
    by_cases h0 : E = 0
    · subst h0
      have e := HR.out rfl
      subst e
      clear HR HR2
      go_enter Tryd.func9, Tryd.ntmps9
      go_wp2_with (first
        | (go_at_call 23; refine (HC.out _).mono ?_; rintro e w1 ⟨rfl, hw⟩; have hw := hw.symm; subst hw)
        | (go_at_call 24; refine (HS.out _).mono ?_; rintro e w1 ⟨v, rfl, hv, hb1⟩; have HV := hid hv; have HB1 := hid hb1; clear hv hb1)
        | (go_at_call 25; refine (HK.out _ _ HV.out).mono ?_; rintro e w2 ⟨rfl, hb2⟩; have HB2 := hid hb2; clear hb2))
      go_ret2
      exact ⟨_, rfl, HV.out.below HB2.out, below_next HB1.out HB2.out⟩
    · have e := HR2.out h0
      subst e
      clear HR HR2
      have hne : (E != 0) = true := by simpa using h0
      go_enter Tryd.func9, Tryd.ntmps9
      go_wp2_with (first
        | (go_at_call 23; refine (HC.out _).mono ?_; rintro e w1 ⟨rfl, hw⟩; have hw := hw.symm; subst hw)
        | (go_at_call 24; refine (HS.out _).mono ?_; rintro e w1 ⟨v, rfl, hv, hb1⟩; have HV := hid hv; have HB1 := hid hb1; clear hv hb1)
        | (go_at_call 25; refine (HK.out _ _ HV.out).mono ?_; rintro e w2 ⟨rfl, hb2⟩; have HB2 := hid hb2; clear hb2))
      go_ret2
      exact ⟨_, rfl, SLie.nil _, below_next HB1.out HB2.out⟩
  · have h2' : ∀ r, s.data.toList ≠ 47 :: r := fun r e => h2 ⟨r, e⟩
    have k1 := st47n h2'
    rw [splL_err (by rw [splE_not h2']; omega), splE_not h2']
    rw [pre_no h2'] at HC
    clear h2 h2' h1
    go_enter Tryd.func9, Tryd.ntmps9
    go_wp2_with (first
      | (go_at_call 23; refine (HC.out _).mono ?_; rintro e w1 ⟨rfl, hw⟩; have hw := hw.symm; subst hw))
    go_ret2
    exact ⟨_, rfl, SLie.nil _, Below.refl _ _⟩
theorem join_len (l : List ByteArray) (h : ∀ x ∈ l, x.size ≤ 24) (h8 : l.length ≤ 8) : (Lib.join (l.map (·.data.toList)) [47]).length ≤ 1000 := by
  cases l with
  | nil => simp [Lib.join]
  | cons x r =>
    rw [List.map_cons, Lib.join_length]
    have hl : ∀ (l : List ByteArray), (∀ x ∈ l, x.size ≤ 24) → Lib.lens (l.map (·.data.toList)) ≤ 24 * l.length := by
      intro l
      induction l with
      | nil => intro _; simp [Lib.lens]
      | cons y t ih =>
        intro hh
        have h1 := ih (fun z hz => hh z (by simp [hz]))
        have h2 := hh y (by simp)
        rw [← len_list] at h2
        simp only [List.map_cons, Lib.lens, List.sum_cons, List.length_cons] at h1 ⊢
        omega
    have := hl (x :: r) h
    simp at this h8 ⊢
    omega
theorem good_join {l : List ByteArray} (h : chkE l = 0) : (∀ x ∈ l, x.size ≤ 24) ∧ l.length ≤ 8 := by
  obtain ⟨h1, h2⟩ := chkE_ok.1 h
  refine ⟨fun x hx => ?_, h2⟩
  have := (nmE_ok.1 (chkN_ok.1 h1 x hx)).2.2.2.2
  rw [len_list] at this; exact this
theorem stjoin_any (v : Value) (l : List ByteArray) (w : World) (h : SLie w v l) (h1 : ∀ x ∈ l, x.size ≤ 24) (h8 : l.length ≤ 8) : Calls Tryd.prog 34 #[v, .string ⟨#[47]⟩] w fun e w' => e = .returned (.string (st (Lib.join (l.map (·.data.toList)) [47]))) ∧ Below w.heap.size w w' := by
  have hj := join_len l h1 h8
  obtain ⟨ao, cap, rfl, hlc, hcm, hcell⟩ := h
  cases l with
  | nil => exact (Tryd.strings_Join_none ao cap ⟨#[47]⟩ w).mono fun e w' ⟨he, hw⟩ => ⟨he, hw ▸ Below.refl _ _⟩
  | cons x r =>
    obtain ⟨gb, off, rfl, hg, _⟩ := hcell 0 (by simp)
    have hc : ∀ (j : Nat) y, (x :: r)[j]? = some y → w.cell? ⟨gb, off + j, none⟩ = some (.string y) := by
      intro j y hy
      obtain ⟨hj, e⟩ := List.getElem?_eq_some_iff.1 hy
      obtain ⟨gb', off', e1, _, c⟩ := hcell j hj
      cases e1
      rw [← e]; exact c
    exact Tryd.strings_Join gb off cap (x :: r) ⟨#[47]⟩ w hc hg (by omega) hlc (by show (Lib.join _ [47]).length ≤ _; omega)
theorem app47 (l : List UInt8) : (⟨#[47]⟩ : ByteArray) ++ st l = st (47 :: l) := by
  apply ba_ext
  simp [st]
theorem joined_any (v : Value) (l : List ByteArray) (w : World) (h : SLie w v l) (h1 : ∀ x ∈ l, x.size ≤ 24) (h8 : l.length ≤ 8) : Calls Tryd.prog 26 #[v] w fun e w' => e = .returned (.string (st (joinP l))) ∧ Below w.heap.size w w' := by
  have HJ := hid (stjoin_any v l w h h1 h8)
  have HA := hid (app47 (Lib.join (l.map (·.data.toList)) [47]))
  have hj := join_len l h1 h8
  rw [← st_size] at hj
  unfold joinP
  obtain ⟨J, hJ⟩ : ∃ J, J = Lib.join (l.map (·.data.toList)) [47] := ⟨_, rfl⟩
  rw [← hJ] at HJ HA hj ⊢
  clear hJ h h1 h8
  go_enter Tryd.func26, Tryd.ntmps26
  go_wp2_with (first
    | (go_at_call 34; refine (HJ.out).mono ?_; rintro e w1 ⟨rfl, hb1⟩; have HB1 := hid hb1; clear hb1))
  go_ret
  exact ⟨by rw [← HA.out]; rfl, HB1.out⟩
set_option maxRecDepth 100000 in
/-- Join -/
theorem join_any (v : Value) (l : List ByteArray) (w : World) (h : SLie w v l) : Calls Tryd.prog 17 #[v] w fun e w' => e = .returned (.tuple #[.string (if chkE l = 0 then st (joinP l) else ⟨#[]⟩), .int .i64 (chkE l)]) ∧ Below w.heap.size w w' := by
  have HK := hid (check_any v l w h)
  by_cases h0 : chkE l = 0
  · have HJ := hid (fun w' (hb : Below w.heap.size w w') => joined_any v l w' (h.below hb) (good_join h0).1 (good_join h0).2)
    rw [if_pos h0]
    rw [h0] at HK ⊢
    clear h0
    obtain ⟨J, hJ⟩ : ∃ J, J = st (joinP l) := ⟨_, rfl⟩
    rw [← hJ] at HJ ⊢
    clear hJ
    go_enter Tryd.func17, Tryd.ntmps17
    go_wp2_with (first
      | (go_at_call 25; refine (HK.out).mono ?_; rintro e w1 ⟨rfl, hb1⟩; have HB1 := hid hb1; clear hb1)
      | (go_at_call 26; refine (HJ.out _ HB1.out).mono ?_; rintro e w2 ⟨rfl, hb2⟩; have HB2 := hid hb2; clear hb2))
    go_ret2
    exact ⟨rfl, below_next HB1.out HB2.out⟩
  · rw [if_neg h0]
    obtain ⟨E, hE⟩ : ∃ E, E = chkE l := ⟨_, rfl⟩
    rw [← hE] at HK h0 ⊢
    clear hE
    have hne : (E != 0) = true := by simpa using h0
    go_enter Tryd.func17, Tryd.ntmps17
    go_wp2_with (first
      | (go_at_call 25; refine (HK.out).mono ?_; rintro e w1 ⟨rfl, hb1⟩; have HB1 := hid hb1; clear hb1))
    go_ret2
    exact ⟨rfl, HB1.out⟩
theorem SLie.cut {w : World} {ao : Option Addr} {n cap : Nat} {l : List ByteArray} (h : SLie w (.slice ao n cap) l) (k : Nat) (hk : k ≤ l.length) : SLie w (.slice ao k cap) (l.take k) := by
  obtain ⟨ao', cap', e, h1, h2, h3⟩ := h
  cases e
  refine ⟨ao, cap, by rw [List.length_take, Nat.min_eq_left hk], by rw [List.length_take]; omega, h2, fun i hi => ?_⟩
  rw [List.length_take] at hi
  obtain ⟨gb, off, e1, hg, c⟩ := h3 i (by omega)
  exact ⟨gb, off, e1, hg, by rw [c]; simp⟩
/-- Parent's answers -/
def parE (p : List UInt8) : Int := if splE p = 0 then (if p = [47] then 309 else 0) else splE p
def parU (p : List UInt8) : ByteArray := if splE p = 0 then (if p = [47] then ⟨#[]⟩ else st (joinP ((splL p).take ((splL p).length - 1)))) else ⟨#[]⟩
def parN (p : List UInt8) : ByteArray := if splE p = 0 then (if p = [47] then ⟨#[]⟩ else (splL p).getLastD ⟨#[]⟩) else ⟨#[]⟩
theorem splL_ne {p : List UInt8} (h : splE p = 0) (h1 : p ≠ [47]) : splL p ≠ [] := by
  intro e
  have := join_split h
  rw [e, joinP_nil] at this
  exact h1 this.symm
theorem getLastD_eq {α : Type} (l : List α) (d : α) (h : l ≠ []) : l.getLastD d = l[l.length - 1]'(by have := List.length_pos_iff.2 h; omega) := by
  rw [List.getLastD_eq_getLast?, List.getLast?_eq_getElem?, List.getElem?_eq_getElem (by have := List.length_pos_iff.2 h; omega)]
  rfl
set_option maxRecDepth 100000 in
set_option maxHeartbeats 2000000 in
/-- Parent -/
theorem parent_any (s : ByteArray) (w : World) (hs : s.size ≤ 1048576) : Calls Tryd.prog 11 #[.string s] w fun e w' => e = .returned (.tuple #[.string (parU s.data.toList), .string (parN s.data.toList), .int .i64 (parE s.data.toList)]) ∧ Below w.heap.size w w' := by
  have HS := hid (split_any s w hs)
  obtain ⟨p, hp⟩ : ∃ p, p = s.data.toList := ⟨_, rfl⟩
  rw [← hp] at HS ⊢
  clear hp hs
  by_cases h0 : splE p = 0
  · by_cases h1 : p = [47]
    · subst h1
      have e1 : parE [47] = 309 := by simp [parE, splE_root]
      have e2 : parU [47] = ⟨#[]⟩ := by simp [parU, splE_root]
      have e3 : parN [47] = ⟨#[]⟩ := by simp [parN, splE_root]
      rw [splE_root, splL_root] at HS
      rw [e1, e2, e3]
      clear e1 e2 e3 h0
      go_enter Tryd.func11, Tryd.ntmps11
      go_wp2_with (first
        | (go_at_call 9; refine (HS.out).mono ?_; rintro e w1 ⟨v, rfl, ⟨ao, cap, rfl, _⟩, hb1⟩; have HB1 := hid hb1; clear hb1))
      go_ret3
      exact ⟨rfl, HB1.out⟩
    · have hne := splL_ne h0 h1
      have hgood := good_join (splL_ok p)
      have e1 : parE p = 0 := by simp [parE, h0, h1]
      have e2 : parU p = st (joinP ((splL p).take ((splL p).length - 1))) := by simp [parU, h0, h1]
      have e3 : parN p = (splL p)[(splL p).length - 1]'(by have := List.length_pos_iff.2 hne; omega) := by
        unfold parN
        rw [if_pos h0, if_neg h1, getLastD_eq _ _ hne]
      rw [h0] at HS
      rw [e1, e2, e3]
      clear e1 e2 e3 h0 h1
      obtain ⟨n, hn⟩ : ∃ n, (splL p).length = n + 1 := ⟨(splL p).length - 1, by have := List.length_pos_iff.2 hne; omega⟩
      have HJ := hid (fun v w' (h : SLie w' v ((splL p).take n)) => joined_any v _ w' h (fun x hx => hgood.1 x (List.mem_of_mem_take hx)) (by have := hgood.2; rw [List.length_take]; omega))
      have hn8 : n ≤ 8 := by have := hgood.2; omega
      have e4 : (splL p).length - 1 = n := by omega
      have HN := hid hn
      have HX : Hid ((splL p)[(splL p).length - 1]'(by have := List.length_pos_iff.2 hne; omega) = (splL p)[n]'(by have := HN.out; omega)) := by
        show _ = _
        congr 1
      rw [HX.out, e4]
      obtain ⟨x, hx⟩ : ∃ x, x = (splL p)[n]'(by have := HN.out; omega) := ⟨_, rfl⟩
      have HXX : Hid (∀ h : n < (splL p).length, x = (splL p)[n]'h) := fun _ => hx
      rw [← hx]
      obtain ⟨J, hJ⟩ : ∃ J, J = st (joinP ((splL p).take n)) := ⟨_, rfl⟩
      rw [← hJ] at HJ ⊢
      clear hx hJ e4 HX hne hgood hn
      go_enter Tryd.func11, Tryd.ntmps11
      go_upto_region 2 with (first
        | (go_at_call 9; refine (HS.out).mono ?_; rintro e w1 ⟨v, rfl, hv, hb1⟩; have HV := hid hv; have HB1 := hid hb1; clear hb1 hv))
      obtain ⟨ao, cap, hv, hc1, hc2, hc3⟩ := HV.out
      obtain ⟨gb, off, e, hgl, c0⟩ := hc3 n (by rw [HN.out]; omega)
      rw [HN.out] at hv
      subst hv e
      have HC := hid (HV.out.cut n (by rw [HN.out]; omega))
      rw [← HXX.out] at c0
      rw [HN.out] at hc1
      unfold maxLen at hc2
      clear hc3
      have i0 : (0 : Int) ≤ (n : Int) := by omega
      have i1 : (n : Int) ≤ (cap : Int) := by omega
      have i2 : (n : Int) < ((n + 1 : Nat) : Int) := by omega
      have i3 : (n : Int) < (n : Int) + 1 := by omega
      have i4 : n < n + 1 := by omega
      have i5 : n ≤ cap := by omega
      have i6 : IntKind.i64.wrap (n : Int) = (n : Int) := by rw [IntKind.wrap_i64]; omega
      go_wp2
      go_region_held3 (fun w' => w'.cell? ⟨gb, off + n, none⟩ = some (.string x)) (first | exact c0 | exact d1 | go_keep) (first
        | (go_at_call 26; refine (HJ.out _ _ (HC.out.below (by exact ⟨rfl, rfl, rfl, Nat.le_refl _, fun _ _ => rfl⟩))).mono ?_; rintro e w2 ⟨rfl, hb2⟩; have HB2 : Hid (Below w1.heap.size w1 w2) := hid ⟨hb2.os, hb2.tape, hb2.output, hb2.size, hb2.block⟩; have d1 : w2.cell? ⟨gb, off + n, none⟩ = some (.string x) := (HB2.out.cell (p := ⟨gb, off + n, none⟩) hgl).trans c0; clear hb2))
      all_goals
        go_wp2
        go_ret3
        exact ⟨rfl, below_next HB1.out HB2.out⟩
  · have e1 : parE p = splE p := by simp [parE, h0]
    have e2 : parU p = ⟨#[]⟩ := by simp [parU, h0]
    have e3 : parN p = ⟨#[]⟩ := by simp [parN, h0]
    rw [e1, e2, e3]
    rw [splL_err h0] at HS
    obtain ⟨E, hE⟩ : ∃ E, E = splE p := ⟨_, rfl⟩
    rw [← hE] at HS h0 ⊢
    have hne : (E != 0) = true := by simpa using h0
    clear hE e1 e2 e3
    go_enter Tryd.func11, Tryd.ntmps11
    go_wp2_with (first
      | (go_at_call 9; refine (HS.out).mono ?_; rintro e w1 ⟨v, rfl, hv, hb1⟩; have HB1 := hid hb1; clear hb1 hv))
    go_ret3
    exact ⟨rfl, HB1.out⟩
end Go.Proofs.YtbjdgehgbfcimaaDoor
