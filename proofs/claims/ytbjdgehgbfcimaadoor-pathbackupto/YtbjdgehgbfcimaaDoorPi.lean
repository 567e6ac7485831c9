import Derived.Test.YtbjdgehgbfcimaaDoorPh
namespace Go.Proofs.YtbjdgehgbfcimaaDoor
open Go.RowKit

theorem belB_iff {p o : List UInt8} (h : splE p = 0) (h' : splE o = 0) : belB p o = true ↔ (splL o).length < (splL p).length ∧ ∃ z, splL p = splL o ++ z := by
  unfold belB belE
  rw [if_pos h, if_pos h', Bool.and_eq_true, begS_iff, decide_eq_true_eq]
theorem belE_ok {p o : List UInt8} : belE p o = 0 ↔ splE p = 0 ∧ splE o = 0 := by
  unfold belE
  by_cases h : splE p = 0
  · rw [if_pos h]; simp [h]
  · rw [if_neg h]; simp [h]
theorem bel_trans {p o q : List UInt8} (h1 : splE p = 0) (h2 : splE o = 0) (h3 : splE q = 0) (a : belB p o = true) (b : belB o q = true) : belB p q = true := by
  rw [belB_iff h1 h2] at a
  rw [belB_iff h2 h3] at b
  rw [belB_iff h1 h3]
  obtain ⟨a1, z, a2⟩ := a
  obtain ⟨b1, y, b2⟩ := b
  exact ⟨by omega, y ++ z, by rw [a2, b2, List.append_assoc]⟩
theorem bel_anti {p o : List UInt8} (h1 : splE p = 0) (h2 : splE o = 0) (a : belB p o = true) : belB o p = false := by
  cases h : belB o p with
  | false => rfl
  | true =>
    rw [belB_iff h1 h2] at a
    rw [belB_iff h2 h1] at h
    omega
theorem bel_self (p : List UInt8) (h : splE p = 0) : belB p p = false := by
  cases e : belB p p with
  | false => rfl
  | true => rw [belB_iff h h] at e; omega
theorem bel_root {p : List UInt8} (h : splE p = 0) : belB p [47] = !decide (p = [47]) := by
  by_cases e : p = [47]
  · subst e; rw [bel_self _ h]; simp
  · have : belB p [47] = true := by
      rw [belB_iff h splE_root, splL_root]
      exact ⟨List.length_pos_iff.2 (splL_ne h e), _, rfl⟩
    rw [this]; simp [e]
set_option maxRecDepth 100000 in
set_option maxHeartbeats 2000000 in
theorem under_walk (a b c : ByteArray) (w : World) (ha : a.size ≤ 1048576) (hb : b.size ≤ 1048576) (hc : c.size ≤ 1048576) : Calls Tryd.prog 8 #[.string a, .string b, .string c] w fun e w' => e = .returned (.bool true) ∧ Below w.heap.size w w' := by
  have hr : (⟨#[47]⟩ : ByteArray).size ≤ 1048576 := by decide
  have HSP := hid speaks_any
  obtain ⟨BB, hBB⟩ : ∃ BB : ByteArray → ByteArray → Bool, BB = fun s t => belB s.data.toList t.data.toList := ⟨_, rfl⟩
  obtain ⟨BE, hBE⟩ : ∃ BE : ByteArray → ByteArray → Int, BE = fun s t => belE s.data.toList t.data.toList := ⟨_, rfl⟩
  have H21 : Hid (∀ (s t : ByteArray) (w : World), s.size ≤ 1048576 → t.size ≤ 1048576 → Calls Tryd.prog 21 #[.string s, .string t] w fun e w' => e = .returned (.tuple #[.bool (BB s t), .int .i64 (BE s t)]) ∧ Below w.heap.size w w') := by
    subst hBB hBE
    exact fun s t w h h' => below_any s t w h h'
  have BBe : ∀ s t, BB s t = belB s.data.toList t.data.toList := fun s t => by rw [hBB]
  have BEe : ∀ s t, BE s t = belE s.data.toList t.data.toList := fun s t => by rw [hBE]
  clear hBB hBE
  by_cases h0 : BE a b = 0
  · by_cases h1 : BE b c = 0
    · have k0 := h0
      have k1 := h1
      rw [BEe, belE_ok] at k0 k1
      have e2 : BE a c = 0 := by rw [BEe, belE_ok]; exact ⟨k0.1, k1.2⟩
      have e3 : BE b a = 0 := by rw [BEe, belE_ok]; exact ⟨k0.2, k0.1⟩
      have e4 : BE a ⟨#[47]⟩ = 0 := by rw [BEe, belE_ok]; exact ⟨k0.1, splE_root⟩
      have T1 := hid (bel_trans k0.1 k0.2 k1.2)
      have T2 := hid (bel_anti k0.1 k0.2)
      have e5 : BB a ⟨#[47]⟩ = !(a.toList == [47]) := by
        rw [BBe]
        show belB a.data.toList [47] = _
        rw [bel_root k0.1, Lib.toList_data]
        congr 1
        rw [Bool.eq_iff_iff]; simp
      rw [← BBe, ← BBe, ← BBe] at T1
      rw [← BBe, ← BBe] at T2
      clear BBe BEe k0 k1
      cases x : BB a b with
      | true =>
        have hw := T2.out x
        cases y : BB b c with
        | true =>
          have hz := T1.out x y
          clear T1 T2
          cases r : (a.toList == [47]) with
          | true =>
            rw [r] at e5
            (go_enter Tryd.func8, Tryd.ntmps8; go_wp2_with (first | (go_at_call 21; refine (H21.out _ _ _ (by with_reducible (first | exact ha | exact hb | exact hc | exact hr)) (by with_reducible (first | exact ha | exact hb | exact hc | exact hr))).mono ?_; rintro e w2 ⟨rfl, hb2⟩; have HB := hid hb2; first | (replace HBA := hid (below_next HBA.out HB.out); clear hb2 HB) | (have HBA := hid HB.out; clear hb2 HB)) | (go_at_call 16; refine (HSP.out _).mono ?_; rintro e w8 ⟨rfl, hb8⟩; have HB8 := hid (below_next HBA.out hb8); clear hb8)); go_ret; exact ⟨rfl, HB8.out⟩)
          | false =>
            rw [r] at e5
            (go_enter Tryd.func8, Tryd.ntmps8; go_wp2_with (first | (go_at_call 21; refine (H21.out _ _ _ (by with_reducible (first | exact ha | exact hb | exact hc | exact hr)) (by with_reducible (first | exact ha | exact hb | exact hc | exact hr))).mono ?_; rintro e w2 ⟨rfl, hb2⟩; have HB := hid hb2; first | (replace HBA := hid (below_next HBA.out HB.out); clear hb2 HB) | (have HBA := hid HB.out; clear hb2 HB)) | (go_at_call 16; refine (HSP.out _).mono ?_; rintro e w8 ⟨rfl, hb8⟩; have HB8 := hid (below_next HBA.out hb8); clear hb8)); go_ret; exact ⟨rfl, HB8.out⟩)
        | false =>
          clear T1 T2
          cases r : (a.toList == [47]) with
          | true =>
            rw [r] at e5
            (go_enter Tryd.func8, Tryd.ntmps8; go_wp2_with (first | (go_at_call 21; refine (H21.out _ _ _ (by with_reducible (first | exact ha | exact hb | exact hc | exact hr)) (by with_reducible (first | exact ha | exact hb | exact hc | exact hr))).mono ?_; rintro e w2 ⟨rfl, hb2⟩; have HB := hid hb2; first | (replace HBA := hid (below_next HBA.out HB.out); clear hb2 HB) | (have HBA := hid HB.out; clear hb2 HB)) | (go_at_call 16; refine (HSP.out _).mono ?_; rintro e w8 ⟨rfl, hb8⟩; have HB8 := hid (below_next HBA.out hb8); clear hb8)); go_ret; exact ⟨rfl, HB8.out⟩)
          | false =>
            rw [r] at e5
            (go_enter Tryd.func8, Tryd.ntmps8; go_wp2_with (first | (go_at_call 21; refine (H21.out _ _ _ (by with_reducible (first | exact ha | exact hb | exact hc | exact hr)) (by with_reducible (first | exact ha | exact hb | exact hc | exact hr))).mono ?_; rintro e w2 ⟨rfl, hb2⟩; have HB := hid hb2; first | (replace HBA := hid (below_next HBA.out HB.out); clear hb2 HB) | (have HBA := hid HB.out; clear hb2 HB)) | (go_at_call 16; refine (HSP.out _).mono ?_; rintro e w8 ⟨rfl, hb8⟩; have HB8 := hid (below_next HBA.out hb8); clear hb8)); go_ret; exact ⟨rfl, HB8.out⟩)
      | false =>
        clear T1 T2
        cases r : (a.toList == [47]) with
        | true =>
          rw [r] at e5
          (go_enter Tryd.func8, Tryd.ntmps8; go_wp2_with (first | (go_at_call 21; refine (H21.out _ _ _ (by with_reducible (first | exact ha | exact hb | exact hc | exact hr)) (by with_reducible (first | exact ha | exact hb | exact hc | exact hr))).mono ?_; rintro e w2 ⟨rfl, hb2⟩; have HB := hid hb2; first | (replace HBA := hid (below_next HBA.out HB.out); clear hb2 HB) | (have HBA := hid HB.out; clear hb2 HB)) | (go_at_call 16; refine (HSP.out _).mono ?_; rintro e w8 ⟨rfl, hb8⟩; have HB8 := hid (below_next HBA.out hb8); clear hb8)); go_ret; exact ⟨rfl, HB8.out⟩)
        | false =>
          rw [r] at e5
          (go_enter Tryd.func8, Tryd.ntmps8; go_wp2_with (first | (go_at_call 21; refine (H21.out _ _ _ (by with_reducible (first | exact ha | exact hb | exact hc | exact hr)) (by with_reducible (first | exact ha | exact hb | exact hc | exact hr))).mono ?_; rintro e w2 ⟨rfl, hb2⟩; have HB := hid hb2; first | (replace HBA := hid (below_next HBA.out HB.out); clear hb2 HB) | (have HBA := hid HB.out; clear hb2 HB)) | (go_at_call 16; refine (HSP.out _).mono ?_; rintro e w8 ⟨rfl, hb8⟩; have HB8 := hid (below_next HBA.out hb8); clear hb8)); go_ret; exact ⟨rfl, HB8.out⟩)
    · have hne : (BE b c != 0) = true := by simpa using h1
      clear BBe BEe h1
      (go_enter Tryd.func8, Tryd.ntmps8; go_wp2_with (first | (go_at_call 21; refine (H21.out _ _ _ (by with_reducible (first | exact ha | exact hb | exact hc | exact hr)) (by with_reducible (first | exact ha | exact hb | exact hc | exact hr))).mono ?_; rintro e w2 ⟨rfl, hb2⟩; have HB := hid hb2; first | (replace HBA := hid (below_next HBA.out HB.out); clear hb2 HB) | (have HBA := hid HB.out; clear hb2 HB)) | (go_at_call 16; refine (HSP.out _).mono ?_; rintro e w8 ⟨rfl, hb8⟩; have HB8 := hid (below_next HBA.out hb8); clear hb8)); go_ret; exact ⟨rfl, HB8.out⟩)
  · have hne : (BE a b != 0) = true := by simpa using h0
    clear BBe BEe h0
    (go_enter Tryd.func8, Tryd.ntmps8; go_wp2_with (first | (go_at_call 21; refine (H21.out _ _ _ (by with_reducible (first | exact ha | exact hb | exact hc | exact hr)) (by with_reducible (first | exact ha | exact hb | exact hc | exact hr))).mono ?_; rintro e w2 ⟨rfl, hb2⟩; have HB := hid hb2; first | (replace HBA := hid (below_next HBA.out HB.out); clear hb2 HB) | (have HBA := hid HB.out; clear hb2 HB)) | (go_at_call 16; refine (HSP.out _).mono ?_; rintro e w8 ⟨rfl, hb8⟩; have HB8 := hid (below_next HBA.out hb8); clear hb8)); go_ret; exact ⟨rfl, HB8.out⟩)
end Go.Proofs.YtbjdgehgbfcimaaDoor
