import Derived.Test.YtfjoajcfpldniaaRk
namespace Go.Proofs.Ytfjoajcfpldniaa
open Go.RowKit Go.Maps
section
variable {B g r : Nat} {N J : Nat} {P : List Fm} {lv : Value}
set_option maxRecDepth 100000 in
set_option maxHeartbeats 16000000 in
theorem asks_pin (k : Int) (d : ByteArray) (hk : inI k) (w : World) (hC : CC B g w N J P) (hR : RC B r w N P lv) (hJ : J + 1 ≤ 90000) : Calls Try.prog 11 #[.pointer (some ⟨g, 0, none⟩), .pointer (some ⟨r, 0, none⟩), .agg #[.int .i64 4, .int .i64 k, .string d]] w fun e w' => e = .returned (.bool true) ∧ Both B g r N (J + 1) w w' := by
  have hln := hC.len
  have hP : P.length ≤ 100 := by omega
  have hBw : B ≤ w.heap.size := Nat.le_trans hC.lo.1 (Nat.le_of_lt hC.lo.2)
  have hj1 := hC.j1
  have hrt : ∀ f ∈ P, 0 ≤ f.p ∧ f.p ≤ 90000 := fun f hf => by have := (hC.rt f hf).2.2; omega
  have HA := hid (fun w (h : CC B g w N J P) => cpin k hk w h hJ)
  have HB := hid (fun w lv (h : RC B r w N P lv) => rpin k w h hC.nd hrt)
  obtain ⟨R, hRe⟩ : ∃ R, R = pinR P k := ⟨_, rfl⟩
  rw [← hRe] at HA HB
  clear hRe
  obtain ⟨r1, P2⟩ := R
  simp only at HA HB
  have HX := hid (box_at w (.cells #[.int .i64 4, .int .i64 k, .string d] 32))
  have HBx := hid (below_alloc w (.cells #[.int .i64 4, .int .i64 k, .string d] 32))
  have HCx := hid (hC.below HBx.out)
  have HRx := hid (hR.below HBx.out)
  have HBx2 := hid (HBx.out.mono hBw)
  clear hC hR hln hP hBw HBx hrt
  go_enter Try.func11, Try.ntmps11
  go_upto_region 14 with fail
  obtain ⟨x0, hx0⟩ : ∃ x0, x0 = w.alloc (.cells #[.int .i64 4, .int .i64 k, .string d] 32) := ⟨_, rfl⟩
  rw [← hx0] at HX HCx HRx HBx2 ⊢
  clear hx0
  obtain ⟨bx, hbx⟩ : ∃ bx, bx = w.heap.size := ⟨_, rfl⟩
  rw [← hbx] at HX ⊢
  clear hbx
  have hCd : CC B g x0.drew N J P := HCx.out.below (drew_below _ _)
  have hRd : RC B r x0.drew N P lv := HRx.out.below (drew_below _ _)
  have hXd : x0.drew.heap[bx]? = some (.cells #[.int .i64 4, .int .i64 k, .string d] 32 (0, 0)) := HX.out
  have hBd : Below B w x0.drew := HBx2.out.trans (drew_below _ _)
  obtain ⟨q0, q1, q2⟩ := three_cells hXd
  have hlx := lt_of_block hXd
  clear HX HCx HRx HBx2
  go_region_with (first
    | (go_at_call 21; refine (HA.out _ (by assumption)).mono ?_; rintro e w2 ⟨rfl, hC2, hO2, hB2⟩
       have hR2 := RC.oc (g := r) (by assumption) hO2
       have hX2 := box_oc (b := bx) (by assumption) hO2
       have hb2 := Below.trans (B := B) (a := w) (by assumption) hB2
       obtain ⟨z0, z1, z2⟩ := three_cells hX2
       have hl2 := lt_of_block hX2)
    | (go_at_call 28; refine (HB.out _ _ (by assumption)).mono ?_; rintro e w3 ⟨rfl, lv3, hR3, hO3, hB3⟩
       have hC3 := CC.or (g := g) (by assumption) hO3
       have hX3 := box_or (b := bx) (by assumption) hO3
       have hb3 := Below.trans (B := B) (a := w) (by assumption) hB3
       obtain ⟨y0, y1, y2⟩ := three_cells hX3
       have hl3 := lt_of_block hX3))
  all_goals
    go_wp2
    go_ret
    exact ⟨by first | rfl | simp, _, _, by assumption, by assumption, by assumption⟩
end
end Go.Proofs.Ytfjoajcfpldniaa
