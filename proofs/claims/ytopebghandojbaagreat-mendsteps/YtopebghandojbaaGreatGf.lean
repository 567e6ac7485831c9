import Derived.Test.YtopebghandojbaaGreatGd
namespace Go.Proofs.YtopebghandojbaaGreat
open Go.RowKit Go.Maps

theorem r9_of (x y : Nat) : ∀ (l : List Chg) (last : Int), rises last l = true → withinB (1 + (y : Int)) x l = true → r9 x y last l = true
  | [], _, _, _ => rfl
  | c :: l, last, h1, h2 => by
    unfold withinB at h2
    rw [List.all_cons] at h2
    simp only [Bool.and_eq_true, decide_eq_true_eq] at h2
    simp only [rises, Bool.and_eq_true, decide_eq_true_eq] at h1
    obtain ⟨a1, a2, a3, a4⟩ := h1
    simp only [r9, Bool.and_eq_true, decide_eq_true_eq]
    exact ⟨⟨by omega, h2.1.2⟩, a3, a1, r9_of x y l c.b a4 h2.2⟩
theorem r9_eq (x y : Nat) (l : List Chg) (h : right l = true) : r9 x y (-1) l = withinB (1 + (y : Int)) x l := by
  have hr : rises (-1) l = true := by unfold right at h; rw [Bool.and_eq_true] at h; exact h.2
  cases h2 : withinB (1 + (y : Int)) x l with
  | true => exact r9_of x y l _ hr h2
  | false =>
    cases h3 : r9 x y (-1) l with
    | false => rfl
    | true => rw [r9_within x y l _ h3] at h2; cases h2
set_option maxRecDepth 100000 in
theorem rcommit_bad {s : Nat} (v : Value) (L : List Chg) (hr : right L = false) (w : World) (hL : CLie w v L) :
    Calls Tryz.prog 15 #[.pointer (some ⟨s, 0, none⟩), v] w fun e w' => e = .returned (.int .i64 70) ∧ Below w.heap.size w w' := by
  have HR := hid (right_any v L w hL)
  rw [hr] at HR
  obtain ⟨lo, lc, rfl, _⟩ := hL
  go_enter Tryz.func15, Tryz.ntmps15
  go_wp2_with (first
    | (go_at_call 33; refine HR.out.mono ?_; rintro e w1 ⟨rfl, hb1⟩))
  go_ret
  exact ⟨rfl, hb1⟩
set_option maxRecDepth 100000 in
theorem rcommit_out {s d x y z j : Nat} {ov nv av : Value} {c : Int} (v : Value) (L : List Chg) (hr : right L = true) (hw : withinB (1 + (y : Int)) x L = false) (w : World) (hst : RSt s w d x y z j ov nv av c) (hL : CLie w v L) :
    Calls Tryz.prog 15 #[.pointer (some ⟨s, 0, none⟩), v] w fun e w' => e = .returned (.int .i64 70) ∧ Below w.heap.size w w' := by
  have HR := hid (right_any v L w hL)
  rw [hr] at HR
  have H9 := hid (fun w' (k : Below w.heap.size w w') => right9_any x y z v L w' (hL.below k))
  rw [r9_eq x y L hr, hw] at H9
  have HST := hid hst
  have hsl := hst.lt
  obtain ⟨lo, lc, rfl, _⟩ := hL
  clear hst
  go_enter Tryz.func15, Tryz.ntmps15
  go_wp2_with (first
    | (go_at_call 33; refine HR.out.mono ?_; rintro e w1 ⟨rfl, hb1⟩
       obtain ⟨_, c1, c2, c3, _⟩ := (HST.out.below hb1).cells)
    | (go_at_call 34; refine (H9.out _ hb1).mono ?_; rintro e w2 ⟨rfl, hb2⟩))
  go_ret
  exact ⟨rfl, hb1.next hb2⟩
set_option maxRecDepth 100000 in
theorem rcommit_busy {s d x y z j : Nat} {ov nv av : Value} {c : Int} {a : AT} {A : List AT} (_ : A.length ≤ 5000) (v : Value) (L : List Chg) (hr : right L = true) (hw : withinB (1 + (y : Int)) x L = true) (w : World) (hst : RSt s w d x y z j ov nv av c) (hA : RRow w av (a :: A)) (hL : CLie w v L) :
    Calls Tryz.prog 15 #[.pointer (some ⟨s, 0, none⟩), v] w fun e w' => e = .returned (.int .i64 7) ∧ Below w.heap.size w w' := by
  have HR := hid (right_any v L w hL)
  rw [hr] at HR
  have H9 := hid (fun w' (k : Below w.heap.size w w') => right9_any x y z v L w' (hL.below k))
  rw [r9_eq x y L hr, hw] at H9
  have HST := hid hst
  have hsl := hst.lt
  obtain ⟨ao, cap, rfl, _, _⟩ := hA.len
  obtain ⟨lo, lc, rfl, _⟩ := hL
  clear hst hA
  go_enter Tryz.func15, Tryz.ntmps15
  go_wp2_with (first
    | (go_at_call 33; refine HR.out.mono ?_; rintro e w1 ⟨rfl, hb1⟩
       obtain ⟨_, c1, c2, c3, _⟩ := (HST.out.below hb1).cells)
    | (go_at_call 34; refine (H9.out _ hb1).mono ?_; rintro e w2 ⟨rfl, hb2⟩
       have c7 : w2.cell? ⟨s, 7, none⟩ = some (.slice ao (A.length + 1) cap) := ((HST.out.below (hb1.next hb2)).cells).2.2.2.2.2.2.2.1))
  go_ret
  exact ⟨rfl, hb1.next hb2⟩
set_option maxRecDepth 100000 in
theorem rcommit_full {s d x y z j : Nat} {ov nv av : Value} {c : Int} {r : Option Nat} {P : Int} {T F S : Nat} {vs : List Value} (v : Value) (L : List Chg) (hr : right L = true) (hw : withinB (1 + (y : Int)) x L = true) (hfull : P < (L.length : Int) + 1) (w : World) (hst : RSt s w d x y z j ov nv av c) (hA : RRow w av []) (hK : RK j r w P T F S vs) (hL : CLie w v L) :
    Calls Tryz.prog 15 #[.pointer (some ⟨s, 0, none⟩), v] w fun e w' => e = .returned (.int .i64 5) ∧ Below w.heap.size w w' := by
  have h48 := right_len hr
  have HR := hid (right_any v L w hL)
  rw [hr] at HR
  have H9 := hid (fun w' (k : Below w.heap.size w w') => right9_any x y z v L w' (hL.below k))
  rw [r9_eq x y L hr, hw] at H9
  have HST := hid hst
  have HK := hid hK
  have hsl := hst.lt
  have hjl := hK.lt.1
  obtain ⟨ao, cap, rfl, _, _⟩ := hA.len
  obtain ⟨lo, lc, rfl, _⟩ := hL
  clear hst hA hK
  go_enter Tryz.func15, Tryz.ntmps15
  go_wp2_with (first
    | (go_at_call 33; refine HR.out.mono ?_; rintro e w1 ⟨rfl, hb1⟩
       obtain ⟨_, c1, c2, c3, _⟩ := (HST.out.below hb1).cells)
    | (go_at_call 34; refine (H9.out _ hb1).mono ?_; rintro e w2 ⟨rfl, hb2⟩
       obtain ⟨_, _, _, _, c4, _, _, c7, _⟩ := (HST.out.below (hb1.next hb2)).cells
       have c7 : w2.cell? ⟨s, 7, none⟩ = some (.slice ao 0 cap) := c7
       have k0 : w2.cell? ⟨j, 0, none⟩ = some (.int .i64 P) := by obtain ⟨_, _, h1, _⟩ := HK.out.below (hb1.next hb2); exact h1.cells.1))
  go_ret
  exact ⟨rfl, hb1.next hb2⟩
theorem RS.jfr {s d x y z j : Nat} {w w' : World} {ov nv av : Value} {c : Int} {A : List AT} {r : Option Nat} {P : Int} {T F S : Nat} {vs : List Value} (h1 : RSt s w d x y z j ov nv av c) (h2 : RRow w av A) (hK : RK j r w P T F S vs) (k : JFr j r w w') : RSt s w' d x y z j ov nv av c ∧ RRow w' av A := by
  obtain ⟨Lv, k1, k2, k3, k4⟩ := hK
  have tj : ∀ b cs t, w.heap[b]? = some (.cells cs t (0, 0)) → t ≠ 113 → b ≠ j := fun b cs t e ht e2 => by
    subst e2; unfold RI at k2; rw [k2] at e; cases e; exact ht rfl
  have tr : ∀ b cs t, w.heap[b]? = some (.cells cs t (0, 0)) → t ≠ 24 → some b ≠ r := fun b cs t e ht e2 => by
    obtain ⟨cur, hc⟩ := k3.own b (k1.trans e2.symm)
    rw [hc] at e; cases e; exact ht rfl
  refine ⟨(k.block s h1.lt (tj s _ _ h1 (by decide)) (tr s _ _ h1 (by decide))).trans h1, h2.same fun b hb => ?_⟩
  obtain ⟨cur, hc⟩ := h2.own b hb
  exact k.block b (lt_of_block hc) (tj b _ _ hc (by decide)) (tr b _ _ hc (by decide))
theorem RRow.st {s d x y z j : Nat} {w : World} {ov nv av av' : Value} {c : Int} {A : List AT} (h : RRow w av' A) (hs : RSt s w d x y z j ov nv av c) (i : Nat) (v : Value) : RRow (w.setCell ⟨s, i, none⟩ v) av' A :=
  h.same fun b hb => Below.heap_setCell _ _ _ _ (fun e => by
    have e : b = s := e
    subst e
    obtain ⟨cur, hc⟩ := h.own b hb
    unfold RSt at hs; rw [hs] at hc; cases hc)
theorem RK.st {s d x y z j : Nat} {w : World} {ov nv av : Value} {c : Int} {r : Option Nat} {P : Int} {T F S : Nat} {vs : List Value} (h : RK j r w P T F S vs) (hs : RSt s w d x y z j ov nv av c) (i : Nat) (v : Value) : RK j r (w.setCell ⟨s, i, none⟩ v) P T F S vs := by
  obtain ⟨Lv, k1, k2, k3, k4⟩ := id h
  refine h.same (Below.heap_setCell _ _ _ _ (fun e => ?_)) fun a ha => Below.heap_setCell _ _ _ _ (fun e => ?_)
  · have e : j = s := e
    subst e; unfold RI at k2; unfold RSt at hs; rw [hs] at k2; cases k2
  · have e : a = s := e
    subst e; obtain ⟨cur, hc⟩ := k3.own a (k1.trans ha); unfold RSt at hs; rw [hs] at hc; cases hc
theorem wrL_bnd (P : Int) (hP : 0 < P) : ∀ (h : Int) (B : List ByteArray), ∀ c ∈ wrL P h B, 0 ≤ c.b ∧ c.b ≤ P
  | _, [], c, hc => by cases hc
  | h, b :: B, c, hc => by
    rw [wrL, List.mem_cons] at hc
    rcases hc with rfl | hc
    · have h1 := Int.emod_lt_of_pos h hP
      have h2 := Int.emod_nonneg h (show P ≠ 0 by omega)
      show 0 ≤ 1 + h % P ∧ 1 + h % P ≤ P
      omega
    · exact wrL_bnd P hP (h + 1) B c hc
theorem acts_take (W : List Chg) (q : Nat) (h : q < W.length) : actsL (W.take (q + 1)) = actsL (W.take q) ++ [⟨0, 1 + W[q].b, W[q].d⟩] := by
  unfold actsL
  rw [List.take_succ_eq_append_getElem h, List.map_append]
  rfl
/-- a commit's acts -/
def comAct (P : Int) (T F : Nat) (sum : Int) (n : Nat) (L : List Chg) : List AT := actsL (wrL P ((T : Int) + sum) (encL (F + n) L)) ++ [⟨1, 0, ByteArray.empty⟩, ⟨0, 1, hdB T F (F + (n + 1))⟩, ⟨3, 0, ByteArray.empty⟩]
set_option maxRecDepth 100000 in
set_option maxHeartbeats 8000000 in
theorem rcommit_ok {M : Nat → Prop} {s d x y z j : Nat} {ov nv : Value} {c : Int} {r r1 : Option Nat} {P : Int} {T F S T1 F1 S1 : Nat} {vs vs1 : List Value} {A1 : List AT} (v : Value) (L : List Chg) (hr : right L = true) (hw : withinB (1 + (y : Int)) x L = true) (hP : 0 < P) (hP2 : P ≤ 300) (hpl : (L.length : Int) + 1 ≤ P) (hsum : sumI (vs.map szOf) ≤ P)
    (hT1 : T1 < P) (hF10 : 1 ≤ F1) (hF1 : F1 + vs1.length ≤ 1099511627000) (hvs1 : vs1.length ≤ 299) (hs1 : sumI (vs1.map szOf) + L.length + 1 ≤ P) (hA1 : A1.length ≤ 3100)
    (w : World) (hst : RA M s w d x y z j ov nv c []) (hK : RK j r w P T F S vs) (hL : CLie w v L) (hsM : M s) (hjM : M j) (hr1 : ∀ b, r1 = some b → M b) (hnew : ∀ k, w.heap.size ≤ k → M k) (hv : L ≠ [] → ∀ b, v.ownBlock = some b → ¬ M b)
    (hmid : (P - sumI (vs.map szOf) < (L.length : Int) + 1 ∧ ∀ w', Below w.heap.size w w' → Calls Tryz.prog 71 #[.pointer (some ⟨s, 0, none⟩)] w' fun e w'' => e = .returned (.tuple #[]) ∧ RA M s w'' d x y z j ov nv c A1 ∧ RK j r1 w'' P T1 F1 S1 vs1 ∧ Keep M w' w'') ∨
      ((L.length : Int) + 1 ≤ P - sumI (vs.map szOf) ∧ ∀ w', Below w.heap.size w w' → RA M s w' d x y z j ov nv c A1 ∧ RK j r1 w' P T1 F1 S1 vs1)) :
    Calls Tryz.prog 15 #[.pointer (some ⟨s, 0, none⟩), v] w fun e w' => e = .returned (.int .i64 0) ∧ ∃ r', RA M s w' d x y z j ov v c (A1 ++ comAct P T1 F1 (sumI (vs1.map szOf)) vs1.length L) ∧ RK j r' w' P T1 F1 (vs1.length + 1) (vs1 ++ [v]) ∧ (∀ b, r' = some b → M b) ∧ Keep M w w' := by
  have h48 := right_len hr
  have HR := hid (right_any v L w hL)
  rw [hr] at HR
  have H9 := hid (fun w' (k : Below w.heap.size w w') => right9_any x y z v L w' (hL.below k))
  rw [r9_eq x y L hr, hw] at H9
  have HFR := hid (fun w' (k : Below w.heap.size w w') => refFree_j j r P T F S vs (by omega) hP2 hsum w' (hK.below k))
  have HST := hid hst
  have HK := hid hK
  have HSM := hid hsM
  have HJM := hid hjM
  have hnew := hid hnew
  have HR1 := hid hr1
  have HV := hid hv
  have hjl := hK.lt.1
  have hsl : s < w.heap.size := by obtain ⟨_, h1, _⟩ := hst; exact h1.lt
  obtain ⟨av0, hst0, hA0, _⟩ := hst
  have HS0 := hid hst0
  obtain ⟨ao0, cap0, rfl, _, _⟩ := hA0.len
  have HL := hid hL
  have HHR := hid hr
  obtain ⟨lo, lc, rfl, _⟩ := hL
  obtain ⟨sm, hsm⟩ : ∃ sm, sm = sumI (vs.map szOf) := ⟨_, rfl⟩
  rw [← hsm] at hmid HFR hsum
  have hsm0 : 0 ≤ sm := by
    rw [hsm]
    obtain ⟨_, _, _, _, h3⟩ := hK
    refine sumI_nn fun a ha => ?_
    obtain ⟨u, hu, rfl⟩ := List.mem_map.1 ha
    obtain ⟨a, n, c, rfl, _⟩ := h3 u hu
    show (0 : Int) ≤ (n : Int) + 1
    omega
  have HMID := hid hmid
  obtain ⟨fr, hfr⟩ : ∃ fr : Bool, fr = decide (P - sm < (L.length : Int) + 1) := ⟨_, rfl⟩
  clear hsm hst0 hA0 hK hsM hjM hr1 hv hmid hr hw
  go_enter Tryz.func15, Tryz.ntmps15
  go_upto_if 47 with (first
    | (go_at_call 33; refine HR.out.mono ?_; rintro e w1 ⟨rfl, hb1⟩
       obtain ⟨_, c1, c2, c3, _⟩ := (HS0.out.below hb1).cells)
    | (go_at_call 34; refine (H9.out _ hb1).mono ?_; rintro e w2 ⟨rfl, hb2⟩
       have HB2 := hid (hb1.next hb2)
       obtain ⟨_, _, _, _, c4, _, _, c7, _⟩ := (HS0.out.below (hb1.next hb2)).cells
       have c7 : w2.cell? ⟨s, 7, none⟩ = some (.slice ao0 0 cap0) := c7
       have k0 : w2.cell? ⟨j, 0, none⟩ = some (.int .i64 P) := by obtain ⟨_, _, h1, _⟩ := HK.out.below (hb1.next hb2); exact h1.cells.1
       clear hb1 hb2 c1 c2 c3)
    | (go_at_call 70; refine (HFR.out _ HB2.out).mono ?_; rintro e w3 ⟨rfl, hw⟩; have hw := hw.symm; subst hw))
  go_cut [] (fun wx => RA M s wx d x y z j ov nv c A1 ∧ RK j r1 wx P T1 F1 S1 vs1 ∧ Keep M w wx)
  case first =>
    rcases HMID.out with ⟨h1, h2⟩ | ⟨h1, h2⟩
    · have HSE := hid (h2 _ HB2.out)
      go_wp2_with (first
        | (go_at_call 71; refine HSE.out.mono ?_; rintro e w3 ⟨rfl, q1, q2, q3⟩))
      go_meet
      exact ⟨q1, q2, (Keep.of HB2.out).trans q3⟩
    · have hm := h2 _ HB2.out
      go_wp2_with fail
      go_meet
      exact ⟨hm.1, hm.2, Keep.of HB2.out⟩
  case rest =>
    obtain ⟨hra, hrk, hke⟩ := hcut
    rename World => w3
    have HE3 := hid hke
    have hz3 := hke.size
    have HK3 := hid hrk
    have HRA3 := hid hra
    obtain ⟨Lv, hLv, hRI, hVR, hSl⟩ := hrk
    have hL3 : CLie w3 (.slice lo L.length lc) L := CLie.same2 HL.out hz3 (fun hn a ha => HE3.out.block a (Nat.lt_of_not_le fun h => HV.out hn a ha (hnew.out a h)) (HV.out hn a ha))
    have HAP := hid (refAppend_ok2 j r1 P T1 F1 S1 vs1 (.slice lo L.length lc) L hP hP2 hT1 hF10 (by omega) (by omega) hs1 HHR.out w3 Lv hLv hRI hVR hSl hL3)
    have hWb := wrL_bnd P hP ((T1 : Int) + sumI (vs1.map szOf)) (encL (F1 + vs1.length) L)
    have hWl : (wrL P ((T1 : Int) + sumI (vs1.map szOf)) (encL (F1 + vs1.length) L)).length = L.length + 1 := by rw [wrL_len, encL_len]
    obtain ⟨W, hW⟩ : ∃ W, W = wrL P ((T1 : Int) + sumI (vs1.map szOf)) (encL (F1 + vs1.length) L) := ⟨_, rfl⟩
    rw [← hW] at HAP hWb hWl
    have HW := hid hW
    obtain ⟨av, hS3, hR3, hAM3⟩ := hra
    have HS3 := hid hS3
    have HR3 := hid hR3
    have HAM3 := hid hAM3
    have hsl3 := hS3.lt
    have c4 : w3.cell? ⟨s, 4, none⟩ = some (.pointer (some ⟨j, 0, none⟩)) := hS3.cells.2.2.2.2.1
    have hav3 : ∀ b, av.ownBlock = some b → b < w3.heap.size := fun b hb => by obtain ⟨cur, hc⟩ := hR3.own b hb; exact lt_of_block hc
    have HAV3 := hid hav3
    clear hLv hRI hVR hSl hL3 hW hS3 hR3 hAM3 hav3 hke
    go_upto_region 12 with (first
      | (go_at_call 72; refine HAP.out.mono ?_; rintro e w4 ⟨wv, r', rfl, hwc, hrk4, hnw, hjf, _, hfresh⟩
         obtain ⟨wo, wc, rfl, hwl, hwm, hwcell⟩ := id hwc))
    have HS4 := hid (RS.jfr HS3.out HR3.out HK3.out hjf).1
    have HR4 := hid (RS.jfr HS3.out HR3.out HK3.out hjf).2
    have HK4 := hid hrk4
    have HFRE := hid hfresh
    have HWC := hid hwcell
    have hr'M : ∀ b, r' = some b → M b := fun b hb => by
      rcases hnw with e | ⟨k, e, hk⟩
      · exact HR1.out b (e ▸ hb)
      · rw [hb] at e; cases e; exact hnew.out b (by omega)
    have HRM := hid hr'M
    have HE4 := hid (HE3.out.trans (Keep.jfr hjf HJM.out HR1.out))
    have hz4 := hjf.size
    unfold maxLen at hwm
    clear hwc hrk4 hnw hjf hfresh hwcell hr'M c4 HAP
    obtain ⟨ML, hML⟩ : ∃ ML : Nat → Prop, ML = fun k => k = s ∨ av.ownBlock = some k ∨ w4.heap.size ≤ k := ⟨_, rfl⟩
    have HML : Hid (∀ k, ML k ↔ k = s ∨ av.ownBlock = some k ∨ w4.heap.size ≤ k) := hid (fun k => by rw [hML])
    have hsML : Hid (ML s) := hid ((HML.out s).2 (.inl rfl))
    have HNW := hnew
    have hnewL : Hid (∀ k, w4.heap.size ≤ k → ML k) := hid (fun k hk => (HML.out k).2 (.inr (.inr hk)))
    have HMLM : Hid (∀ k, ML k → M k) := hid (fun k hk => by
      rcases (HML.out k).1 hk with e | e | e
      · rw [e]; exact HSM.out
      · exact HAM3.out k e
      · exact hnew.out k (by omega))
    clear hML
    go_wp2
    go_loopw [64] (fun i wr => ∃ q : Nat, i = .int .i64 q ∧ q ≤ W.length ∧ RA ML s wr d x y z j ov nv c (A1 ++ actsL (W.take q)) ∧ RK j r' wr P T1 F1 S1 (vs1 ++ [.slice lo L.length lc]) ∧ Keep ML w4 wr) (fun i _ => W.length - (intOf i).toNat)
    case atStart => exact ⟨0, rfl, Nat.zero_le _, ⟨av, HS4.out, by simpa [actsL] using HR4.out, fun b hb => (HML.out b).2 (.inr (.inl hb))⟩, HK4.out, Keep.refl _ _⟩
    case round =>
      obtain ⟨q, rfl, hq, hra, hrk, hke⟩ := hrel
      have HRAq := hid hra
      have HRKq := hid hrk
      have HKE := hid hke
      have hsz := hke.size
      clear hra hrk hke
      by_cases hqk : q < W.length
      · obtain ⟨gb, of2, e, hgl, d0, d1⟩ := HWC.out q hqk
        subst e
        have hgf : w3.heap.size ≤ gb := HFRE.out gb rfl
        have hnM : ¬ ML gb := fun h => by
          rcases (HML.out gb).1 h with e | e | e
          · omega
          · have := HAV3.out gb e; omega
          · omega
        have HT : Hid (A1 ++ actsL (W.take (q + 1)) = A1 ++ (actsL (W.take q) ++ [⟨0, 1 + W[q].b, W[q].d⟩])) := hid (by rw [acts_take W q hqk])
        have hln := actsL_len (W.take q)
        rw [List.length_take] at hln
        have hbd := hWb _ (List.getElem_mem hqk)
        have hblk := HKE.out.block gb hgl hnM
        obtain ⟨cc, hcc⟩ : ∃ cc, cc = W[q] := ⟨_, rfl⟩
        rw [← hcc] at d0 d1 HT hbd
        clear hcc hnM
        have hwr : IntKind.i64.wrap (1 + cc.b) = 1 + cc.b := by rw [IntKind.wrap_i64]; omega
        have cellq : ∀ i, wr.cell? ⟨gb, i, none⟩ = w4.cell? ⟨gb, i, none⟩ := fun i => by simp only [World.cell?, hblk]
        replace d0 := (cellq _).trans d0
        replace d1 := (cellq _).trans d1
        have hgr : gb < wr.heap.size := by omega
        obtain ⟨Tq, hTq⟩ : ∃ Tq, Tq = A1 ++ actsL (W.take q) := ⟨_, rfl⟩
        have hTl : Tq.length ≤ 3200 := by rw [hTq, List.length_append, hln]; omega
        rw [← List.append_assoc, ← hTq] at HT
        rw [← hTq] at HRAq
        clear hTq hln
        obtain ⟨av, hS, hR, hAM⟩ := HRAq.out
        have hsr := hS.lt
        have hb2 := below_alloc wr (.cells #[.int .i64 cc.b, .string cc.d] 128)
        have HS2 := hid (hS.below hb2)
        have HA2 := hid (hR.below hb2)
        have HAM := hid hAM
        have HK2 := hid (HRKq.out.below hb2)
        have HKE2 := hid (HKE.out.trans (Keep.of hb2))
        have HBX := box_at wr (.cells #[.int .i64 cc.b, .string cc.d] 128)
        have hz2 : (wr.alloc (.cells #[.int .i64 cc.b, .string cc.d] 128)).heap.size = wr.heap.size + 1 := by simp
        clear hS hR hAM cellq hblk hb2
        go_upto_region 15 with fail
        obtain ⟨w2, hw2⟩ : ∃ w2, w2 = wr.alloc (.cells #[.int .i64 cc.b, .string cc.d] 128) := ⟨_, rfl⟩
        rw [← hw2] at HS2 HA2 HK2 HKE2 HBX hz2 ⊢
        clear hw2 d0 d1
        have c7 := HS2.out.cells.2.2.2.2.2.2.2.1
        have f70 := HS2.out.free 7
        have hs2l := HS2.out.lt
        obtain ⟨u0, u1⟩ := two_cells HBX
        obtain ⟨ao, ac', e9, _, _⟩ := HA2.out.len
        subst e9
        have hbx : ∀ a b c : Value, (w2.alloc (.cells #[a, b, c] 130)).heap[wr.heap.size + 1]? = some (.cells #[a, b, c] 130 (0, 0)) := fun a b c => by rw [← hz2]; exact box_at _ _
        have hsM := hsML
        have hnew := hnewL
        clear HBX
        go_region_law (rw [if_pos (by rfl)]; refine wp_pushR (.tmp 72) (.tmp 79) rfl (wr.heap.size + 1) (.slice ao Tq.length ac') Tq ⟨0, 1 + cc.b, cc.d⟩ 0 rfl (by simp [Act.eval]) (by simp [Act.eval]) (three_cells (hbx _ _ _)).1 (three_cells (hbx _ _ _)).2.1 (three_cells (hbx _ _ _)).2.2 (by exact (RRow.below (w := w2) HA2.out (below_alloc _ _) : RRow (w2.alloc _) _ _)) (by omega) ?_; intro v7 w7 hR7 hg7 hn7; have hg8 : w2.grownBy w7 (Value.slice ao Tq.length ac').ownBlock := grow_alloc (show (w2.alloc _).grownBy w7 _ from ⟨hg7.os, hg7.tape, hg7.output, hg7.size, hg7.block⟩); obtain ⟨a7, c7', e7, _, _⟩ := hR7.len; rw [List.length_append, List.length_singleton] at e7; subst e7; have hp := RA.push HS2.out HA2.out HAM.out hsM.out (fun k hk => hnew.out k (by omega)) hR7 hg8 (by rcases hn7 with e | ⟨k, e, hk⟩; exact .inl e; exact .inr ⟨k, e, Nat.le_trans (Nat.le_succ _) (by simpa using hk)⟩); have h7s := hp.1; have d7 := h7s.cells.2.2.2.2.2.2.2.1; have f7 := h7s.free 7)
        all_goals
          go_wp2
          go_roundw
          case rel =>
            refine ⟨q + 1, by go_num, by omega, by rw [HT.out]; exact hp.2.1, RA.kfr HK2.out HS2.out HA2.out hg8, HKE2.out.trans hp.2.2⟩
          case measure => simp only [intOf] at *; omega
      · have hqe : q = W.length := by omega
        subst hqe
        rw [List.take_length] at HRAq
        have hwsz := actsL_len W
        obtain ⟨T0, hT0⟩ : ∃ T0, T0 = A1 ++ actsL W := ⟨_, rfl⟩
        have hTl : T0.length ≤ 3200 := by rw [hT0, List.length_append, hwsz]; omega
        rw [← hT0] at HRAq
        have HT0 := hid hT0
        clear hT0 hwsz
        have HRA0 := hid (HRAq.out.weak HMLM.out)
        have HE5 := hid (HE4.out.trans (HKE.out.weak HMLM.out))
        have hsM := HSM
        have hnew := HNW
        have HSE := hid (refSeal_j j r' P T1 F1 S1 (vs1 ++ [.slice lo L.length lc]) (by omega) (by rw [List.length_append, List.length_singleton]; omega) wr HRKq.out)
        rw [List.length_append, List.length_singleton] at HSE
        obtain ⟨HD, hHD⟩ : ∃ HD, HD = hdB T1 F1 (F1 + (vs1.length + 1)) := ⟨_, rfl⟩
        rw [← hHD] at HSE
        have HHD := hid hHD
        obtain ⟨av, hS, hR, hAM⟩ := HRA0.out
        have c4 : wr.cell? ⟨s, 4, none⟩ = some (.pointer (some ⟨j, 0, none⟩)) := hS.cells.2.2.2.2.1
        have hslr := hS.lt
        clear hS hR hAM hHD
        go_upto_region 18 with (first
          | (go_at_call 73; refine HSE.out.mono ?_; rintro e w6 ⟨rfl, hk6, hj6⟩))
        have HB6 := below_alloc w6 (.cells #[.int .i64 0, .string HD] 128)
        have HR7 := hid ((HRA0.out.jfr HRKq.out hj6).below HB6)
        have HK7 := hid (hk6.below HB6)
        have HE7 := hid (HE5.out.trans ((Keep.jfr hj6 HJM.out HRM.out).trans (Keep.of HB6)))
        have HBX := box_at w6 (.cells #[.int .i64 0, .string HD] 128)
        have hzb : w.heap.size ≤ w6.heap.size := by have := HE5.out.size; have := hj6.size; omega
        obtain ⟨gb, hgb⟩ : ∃ gb, gb = w6.heap.size := ⟨_, rfl⟩
        rw [← hgb] at HBX hzb ⊢
        obtain ⟨w7, hw7⟩ : ∃ w7, w7 = w6.alloc (.cells #[.int .i64 0, .string HD] 128) := ⟨_, rfl⟩
        rw [← hw7] at HR7 HK7 HE7 HBX ⊢
        clear hw7 hgb hk6 hj6 HB6 c4 hslr HSE
        have HBX7 := hid HBX
        have hz7 := HE7.out.size
        -- the flush
        obtain ⟨av, hS, hR, hAM⟩ := HR7.out
        have HS2 := hid hS
        have HA2 := hid hR
        have HAM := hid hAM
        have c7 := hS.cells.2.2.2.2.2.2.2.1
        have f70 := hS.free 7
        have hs2l := hS.lt
        obtain ⟨ao, ac', e9, _, _⟩ := hR.len
        subst e9
        have hgb7 := lt_of_block HBX
        have hgbs : gb ≠ s := fun e => by
          subst e; unfold RSt at hS; rw [hS] at HBX; cases HBX
        have hgba : some gb ≠ (Value.slice ao T0.length ac').ownBlock := fun e => by
          obtain ⟨cur, hc⟩ := hR.own gb e.symm; rw [hc] at HBX; cases HBX
        clear hS hR hAM HBX
        go_upto_region 19 with (first
          | (at_builtin; refine pushR (w0 := w7) rfl (.tmp 93) (.tmp 95) rfl w7.heap.size _ T0 ⟨1, 0, ByteArray.empty⟩ 0 rfl rfl rfl rfl HA2.out (by omega) ?_; intro v7 w8 hR7 hg8 hn7
             obtain ⟨a7, c7', e7, _, _⟩ := hR7.len
             rw [List.length_append, List.length_singleton] at e7
             subst e7
             have hp := RA.push HS2.out HA2.out HAM.out hsM.out (fun k hk => hnew.out k (by omega)) hR7 hg8 hn7
             have h7s := hp.1
             have d7 := h7s.cells.2.2.2.2.2.2.2.1
             have f7 := h7s.free 7))
        have HR9 := hid hp.2.1
        have HK9 := hid (RA.kfr (v7 := (Value.slice a7 (T0.length + 1) c7')) HK7.out HS2.out HA2.out hg8)
        have HE9 := hid (HE7.out.trans hp.2.2)
        have hbx : (w8.setCell ⟨s, 7, none⟩ (Value.slice a7 (T0.length + 1) c7')).heap[gb]? = some (.cells #[.int .i64 0, .string HD] 128 (0, 0)) := (Below.heap_setCell _ _ _ _ hgbs).trans ((hg8.block gb hgb7 hgba).trans HBX7.out)
        obtain ⟨w9, hw9⟩ : ∃ w9, w9 = w8.setCell ⟨s, 7, none⟩ (Value.slice a7 (T0.length + 1) c7') := ⟨_, rfl⟩
        rw [← hw9] at HR9 HK9 HE9 hbx ⊢
        clear hw9 hp h7s d7 f7 hR7 hg8 hn7 c7 f70 HS2 HA2 HAM hs2l hgb7 hgbs hgba
        -- the header
        have hz9 := HE9.out.size
        obtain ⟨av, hS, hR, hAM⟩ := HR9.out
        obtain ⟨T2, hT2⟩ : ∃ T2, T2 = T0 ++ [(⟨1, 0, ByteArray.empty⟩ : AT)] := ⟨_, rfl⟩
        have hTl2 : T2.length ≤ 3201 := by rw [hT2, List.length_append, List.length_singleton]; omega
        rw [← hT2] at hR
        have HT2 := hid hT2
        have HS2 := hid hS
        have HA2 := hid hR
        have HAM := hid hAM
        have c7 := hS.cells.2.2.2.2.2.2.2.1
        have f70 := hS.free 7
        have hs2l := hS.lt
        have hgl9 := lt_of_block hbx
        obtain ⟨u0, u1⟩ := two_cells hbx
        obtain ⟨ao, ac', e9, _, _⟩ := hR.len
        subst e9
        have hbx : ∀ a b c : Value, (w9.alloc (.cells #[a, b, c] 130)).heap[w9.heap.size]? = some (.cells #[a, b, c] 130 (0, 0)) := fun a b c => box_at _ _
        clear hS hR hAM hT2
        go_cut [] (fun wx => RA M s wx d x y z j ov nv c (T2 ++ [⟨0, 1, HD⟩]) ∧ RK j r' wx P T1 F1 (vs1.length + 1) (vs1 ++ [.slice lo L.length lc]) ∧ Keep M w wx)
        case first =>
          go_region_law (rw [if_pos (by rfl)]; refine wp_pushR (.tmp 103) (.tmp 110) rfl (w9.heap.size) (.slice ao T2.length ac') T2 ⟨0, 1, HD⟩ 0 rfl (by simp [Act.eval]) (by simp [Act.eval]) (three_cells (hbx _ _ _)).1 (three_cells (hbx _ _ _)).2.1 (three_cells (hbx _ _ _)).2.2 (by exact (RRow.below (w := w9) HA2.out (below_alloc _ _) : RRow (w9.alloc _) _ _)) (by omega) ?_; intro v7 w7 hR7 hg7 hn7; have hg8 : w9.grownBy w7 (Value.slice ao T2.length ac').ownBlock := grow_alloc (show (w9.alloc _).grownBy w7 _ from ⟨hg7.os, hg7.tape, hg7.output, hg7.size, hg7.block⟩); obtain ⟨a7, c7', e7, _, _⟩ := hR7.len; rw [List.length_append, List.length_singleton] at e7; subst e7; have hp := RA.push HS2.out HA2.out HAM.out hsM.out (fun k hk => hnew.out k (by omega)) hR7 hg8 (by rcases hn7 with e | ⟨k, e, hk⟩; exact .inl e; exact .inr ⟨k, e, Nat.le_trans (Nat.le_succ _) (by simpa using hk)⟩); have h7s := hp.1; have d7 := h7s.cells.2.2.2.2.2.2.2.1; have f7 := h7s.free 7)
          all_goals
            go_wp2
            go_meet
            exact ⟨hp.2.1, RA.kfr HK9.out HS2.out HA2.out hg8, HE9.out.trans hp.2.2⟩
        case rest =>
          obtain ⟨hra, hrk, hke⟩ := hcut
          rename World => w10
          have HKx := hid hrk
          have HEx := hid hke
          have hzx := hke.size
          clear HS2 HA2 HAM c7 f70 hs2l u0 u1 HK9 HE9 hbx hgl9
          obtain ⟨av, hS, hR, hAM⟩ := hra
          obtain ⟨T3, hT3⟩ : ∃ T3, T3 = T2 ++ [(⟨0, 1, HD⟩ : AT)] := ⟨_, rfl⟩
          have hTl3 : T3.length ≤ 3202 := by rw [hT3, List.length_append, List.length_singleton]; omega
          rw [← hT3] at hR
          have HT3 := hid hT3
          have HS2 := hid hS
          have HA2 := hid hR
          have HAM := hid hAM
          have c7 := hS.cells.2.2.2.2.2.2.2.1
          have f70 := hS.free 7
          have hs2l := hS.lt
          obtain ⟨ao, ac', e9, _, _⟩ := hR.len
          subst e9
          clear hS hR hAM hT3 hrk hke
          go_upto_region 21 with (first
            | (at_builtin; refine pushR (w0 := w10) rfl (.tmp 118) (.tmp 120) rfl w10.heap.size _ T3 ⟨3, 0, ByteArray.empty⟩ 1 rfl rfl rfl rfl HA2.out (by omega) ?_; intro v7 w8 hR7 hg8 hn7
               obtain ⟨a7, c7', e7, _, _⟩ := hR7.len
               rw [List.length_append, List.length_singleton] at e7
               subst e7
               have hp := RA.push HS2.out HA2.out HAM.out hsM.out (fun k hk => hnew.out k (by omega)) hR7 hg8 hn7
               have h7s := hp.1
               have d7 := h7s.cells.2.2.2.2.2.2.2.1
               have f7 := h7s.free 7))
          have HRy := hid hp.2.1
          have HKy := hid (RA.kfr (v7 := (Value.slice a7 (T3.length + 1) c7')) HKx.out HS2.out HA2.out hg8)
          have HEy := hid (HEx.out.trans hp.2.2)
          obtain ⟨w11, hw11⟩ : ∃ w11, w11 = w8.setCell ⟨s, 7, none⟩ (Value.slice a7 (T3.length + 1) c7') := ⟨_, rfl⟩
          rw [← hw11] at HRy HKy HEy ⊢
          clear hw11 hp h7s d7 f7 hR7 hg8 hn7 c7 f70 HS2 HA2 HAM hs2l
          obtain ⟨av, hS, hR, hAM⟩ := HRy.out
          have HS2 := hid hS
          have HA2 := hid hR
          have HAM := hid hAM
          have c6 := hS.cells.2.2.2.2.2.2.1
          have f60 := hS.free 6
          have hs2l := hS.lt
          clear hS hR hAM
          go_wp2
          go_ret
          have e : A1 ++ comAct P T1 F1 (sumI (vs1.map szOf)) vs1.length L = T3 ++ [⟨3, 0, ByteArray.empty⟩] := by
            unfold comAct
            rw [← HW.out, ← HHD.out, HT3.out, HT2.out, HT0.out]
            simp
          rw [e]
          exact ⟨rfl, r', ⟨av, HS2.out.new _, HA2.out.st HS2.out _ _, HAM.out⟩, HKy.out.st HS2.out _ _, HRM.out, HEy.out.trans (Keep.set _ HSM.out)⟩
end Go.Proofs.YtopebghandojbaaGreat
