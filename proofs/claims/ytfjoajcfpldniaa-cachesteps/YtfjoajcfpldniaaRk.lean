import Derived.Test.YtfjoajcfpldniaaRe
import Derived.Test.YtfjoajcfpldniaaRf
import Derived.Test.YtfjoajcfpldniaaRh
import Derived.Deep.RegionWith
namespace Go.Proofs.Ytfjoajcfpldniaa
open Go.RowKit Go.Maps

theorem box_oc {w w' : World} {b : Nat} {cs : Array Value} (h : w.heap[b]? = some (.cells cs 32 (0, 0))) (k : OC w w') : w'.heap[b]? = some (.cells cs 32 (0, 0)) := (k.block b _ _ h (by decide) (by decide)).trans h
theorem box_or {w w' : World} {b : Nat} {cs : Array Value} (h : w.heap[b]? = some (.cells cs 32 (0, 0))) (k : OR w w') : w'.heap[b]? = some (.cells cs 32 (0, 0)) := (k.block b _ h (fun _ _ => ⟨by simp, by simp⟩)).trans h
section
variable {B g r : Nat} {N J : Nat} {P : List Fm} {lv : Value}
/-- both caches, with the same blocks -/
def Both (B g r : Nat) (N J : Nat) (w w' : World) : Prop := ∃ P' lv', CC B g w' N J P' ∧ RC B r w' N P' lv' ∧ Below B w w'
set_option maxRecDepth 100000 in
theorem asks_load (K k : Int) (hK : K = 0 ∨ K = 1) (d : ByteArray) (hk : inI k) (w : World) (hC : CC B g w N J P) (hR : RC B r w N P lv) (hJ : J + 1 ≤ 90000) : Calls Try.prog 11 #[.pointer (some ⟨g, 0, none⟩), .pointer (some ⟨r, 0, none⟩), .agg #[.int .i64 K, .int .i64 k, .string d]] w fun e w' => e = .returned (.bool true) ∧ Both B g r N (J + 1) w w' := by
  have hln := hC.len
  have hP : P.length ≤ 100 := by omega
  have hBw : B ≤ w.heap.size := Nat.le_trans hC.lo.1 (Nat.le_of_lt hC.lo.2)
  have HA := hid (fun w (h : CC B g w N J P) => cload k hk d w h hJ)
  have HB := hid (fun w lv (h : RC B r w N P lv) => rload k d w h hC.nd hP (fun f hf => (hC.rt f hf).2.2.1))
  obtain ⟨R, hRe⟩ : ∃ R, R = loadR N P k d := ⟨_, rfl⟩
  rw [← hRe] at HA HB
  clear hRe
  obtain ⟨r1, r2, P2⟩ := R
  simp only at HA HB
  have HX := hid (box_at w (.cells #[.int .i64 K, .int .i64 k, .string d] 32))
  have HBx := hid (below_alloc w (.cells #[.int .i64 K, .int .i64 k, .string d] 32))
  have HCx := hid (hC.below HBx.out)
  have HRx := hid (hR.below HBx.out)
  have HBx2 := hid (HBx.out.mono hBw)
  clear hC hR hln hP hBw HBx
  have hkk : (K == 0) = true ∨ ((K == 0) = false ∧ (K == 1) = true) := by
    rcases hK with rfl | rfl
    · exact .inl rfl
    · exact .inr ⟨rfl, rfl⟩
  clear hK
  rcases hkk with e0 | ⟨e0, e1⟩
  all_goals
    go_enter Try.func11, Try.ntmps11
    go_upto_region 1 with fail
    obtain ⟨x0, hx0⟩ : ∃ x0, x0 = w.alloc (.cells #[.int .i64 K, .int .i64 k, .string d] 32) := ⟨_, rfl⟩
    rw [← hx0] at HX HCx HRx HBx2 ⊢
    clear hx0
    obtain ⟨bx, hbx⟩ : ∃ bx, bx = w.heap.size := ⟨_, rfl⟩
    rw [← hbx] at HX ⊢
    clear hbx
    obtain ⟨q0, q1, q2⟩ := three_cells HX.out
    have hlx := lt_of_block HX.out
    go_wp2_with (go_at_call 18; fail)
    refine (HA.out _ HCx.out).mono ?_
    rintro e w2 ⟨rfl, hC2, hO2, hB2⟩
    have HC2 := hid hC2
    have HR2 := hid (HRx.out.oc hO2)
    have HX2 := hid (box_oc HX.out hO2)
    have HB2 := hid (HBx2.out.trans hB2)
    clear hC2 hO2 hB2 q0 q1 q2 hlx HX HCx HRx HBx2
    obtain ⟨q0, q1, q2⟩ := three_cells HX2.out
    have hlx := lt_of_block HX2.out
    go_wp2_with (go_at_call 25; fail)
    refine (HB.out _ _ HR2.out).mono ?_
    rintro e w3 ⟨rfl, lv3, hR3, hO3, hB3⟩
    go_wp2
    go_ret
    exact ⟨by simp, P2, lv3, HC2.out.or hO3, hR3, HB2.out.trans hB3⟩
set_option maxRecDepth 100000 in
theorem asks_look (k : Int) (d : ByteArray) (hk : inI k) (w : World) (hC : CC B g w N J P) (hR : RC B r w N P lv) (hJ : J + 1 ≤ 90000) : Calls Try.prog 11 #[.pointer (some ⟨g, 0, none⟩), .pointer (some ⟨r, 0, none⟩), .agg #[.int .i64 2, .int .i64 k, .string d]] w fun e w' => e = .returned (.bool true) ∧ Both B g r N (J + 1) w w' := by
  have hln := hC.len
  have hP : P.length ≤ 100 := by omega
  have hBw : B ≤ w.heap.size := Nat.le_trans hC.lo.1 (Nat.le_of_lt hC.lo.2)
  have HA := hid (fun w (h : CC B g w N J P) => clook k hk w h hJ)
  have HB := hid (fun w lv (h : RC B r w N P lv) => rlook k w h hC.nd hP)
  obtain ⟨R, hRe⟩ : ∃ R, R = lookR P k := ⟨_, rfl⟩
  rw [← hRe] at HA HB
  clear hRe
  obtain ⟨r1, r2, P2⟩ := R
  simp only at HA HB
  have HX := hid (box_at w (.cells #[.int .i64 2, .int .i64 k, .string d] 32))
  have HBx := hid (below_alloc w (.cells #[.int .i64 2, .int .i64 k, .string d] 32))
  have HCx := hid (hC.below HBx.out)
  have HRx := hid (hR.below HBx.out)
  have HBx2 := hid (HBx.out.mono hBw)
  clear hC hR hln hP hBw HBx
  go_enter Try.func11, Try.ntmps11
  go_upto_region 1 with fail
  obtain ⟨x0, hx0⟩ : ∃ x0, x0 = w.alloc (.cells #[.int .i64 2, .int .i64 k, .string d] 32) := ⟨_, rfl⟩
  rw [← hx0] at HX HCx HRx HBx2 ⊢
  clear hx0
  obtain ⟨bx, hbx⟩ : ∃ bx, bx = w.heap.size := ⟨_, rfl⟩
  rw [← hbx] at HX ⊢
  clear hbx
  obtain ⟨q0, q1, q2⟩ := three_cells HX.out
  have hlx := lt_of_block HX.out
  go_wp2_with (go_at_call 19; fail)
  refine (HA.out _ HCx.out).mono ?_
  rintro e w2 ⟨rfl, hC2, hO2, hB2⟩
  have HC2 := hid hC2
  have HR2 := hid (HRx.out.oc hO2)
  have HX2 := hid (box_oc HX.out hO2)
  have HB2 := hid (HBx2.out.trans hB2)
  clear hC2 hO2 hB2 q0 q1 q2 hlx HX HCx HRx HBx2
  obtain ⟨q0, q1, q2⟩ := three_cells HX2.out
  have hlx := lt_of_block HX2.out
  go_wp2_with (go_at_call 26; fail)
  refine (HB.out _ _ HR2.out).mono ?_
  rintro e w3 ⟨rfl, lv3, hR3, hO3, hB3⟩
  go_wp2
  go_ret
  exact ⟨by simp, P2, lv3, HC2.out.or hO3, hR3, HB2.out.trans hB3⟩
set_option maxRecDepth 100000 in
theorem asks_take (K k : Int) (k0 : K ≠ 0) (k1 : K ≠ 1) (k2 : K ≠ 2) (k3 : K ≠ 3) (k4 : K ≠ 4) (k5 : K ≠ 5) (d : ByteArray) (w : World) (hC : CC B g w N J P) (hR : RC B r w N P lv) (hJ : J + 1 ≤ 90000) : Calls Try.prog 11 #[.pointer (some ⟨g, 0, none⟩), .pointer (some ⟨r, 0, none⟩), .agg #[.int .i64 K, .int .i64 k, .string d]] w fun e w' => e = .returned (.bool true) ∧ Both B g r N (J + 1) w w' := by
  have hln := hC.len
  have hP : P.length ≤ 100 := by omega
  have hBw : B ≤ w.heap.size := Nat.le_trans hC.lo.1 (Nat.le_of_lt hC.lo.2)
  have HA := hid (fun w (h : CC B g w N J P) => ctake w h)
  have HB := hid (fun w lv (h : RC B r w N P lv) => rtake w h hC.nd (fun f hf => (hC.rt f hf).1) hP)
  have HBx := hid (below_alloc w (.cells #[.int .i64 K, .int .i64 k, .string d] 32))
  have HCx := hid (hC.below HBx.out)
  have HRx := hid (hR.below HBx.out)
  have HBx2 := hid (HBx.out.mono hBw)
  have HX := hid (box_at w (.cells #[.int .i64 K, .int .i64 k, .string d] 32))
  clear hC hR hln hP
  have e0 : (K == 0) = false := by simp [k0]
  have e1 : (K == 1) = false := by simp [k1]
  have e2 : (K == 2) = false := by simp [k2]
  have e3 : (K == 3) = false := by simp [k3]
  have e4 : (K == 4) = false := by simp [k4]
  have e5 : (K == 5) = false := by simp [k5]
  clear k0 k1 k2 k3 k4 k5
  go_enter Try.func11, Try.ntmps11
  go_upto_region 1 with fail
  obtain ⟨x0, hx0⟩ : ∃ x0, x0 = w.alloc (.cells #[.int .i64 K, .int .i64 k, .string d] 32) := ⟨_, rfl⟩
  rw [← hx0] at HX HCx HRx HBx2 ⊢
  clear hx0 HBx
  obtain ⟨bx, hbx⟩ : ∃ bx, bx = w.heap.size := ⟨_, rfl⟩
  rw [← hbx] at HX ⊢
  clear hbx
  obtain ⟨q0, q1, q2⟩ := three_cells HX.out
  have hlx := lt_of_block HX.out
  go_wp2_with (go_at_call 23; fail)
  refine (HA.out _ HCx.out).mono ?_
  rintro e w2 ⟨v2, rfl, hV2, hC2, hO2, hB2⟩
  have HC2 := hid hC2
  have HV2 := hid hV2
  have HR2 := hid (HRx.out.oc hO2)
  have HB2 := hid (HBx2.out.trans hB2)
  clear hC2 hO2 hB2 hV2 q0 q1 q2 hlx HX HCx HRx HBx2
  go_wp2_with (go_at_call 30; fail)
  refine (HB.out _ _ HR2.out).mono ?_
  rintro e w3 ⟨v3, rfl, hV3, ⟨lv3, hR3⟩, hO3, hB3⟩
  have HCh := hid (rchanges w3 (HV2.out.or hO3) hV3)
  have HC3 := hid (HC2.out.or hO3)
  have HB3 := hid (HB2.out.trans hB3)
  have HR3 := hid hR3
  clear hV3 hR3 hO3 hB3
  go_wp2_with (go_at_call 15; fail)
  refine (HCh.out).mono ?_
  rintro e w4 ⟨rfl, hb4⟩
  have hl3 : B ≤ w3.heap.size := Nat.le_trans HC3.out.lo.1 (Nat.le_of_lt HC3.out.lo.2)
  go_wp2
  go_ret
  exact ⟨rfl, _, lv3, (HC3.out.below hb4).more (by omega) hJ, HR3.out.below hb4, HB3.out.trans (hb4.mono hl3)⟩
end
end Go.Proofs.Ytfjoajcfpldniaa
