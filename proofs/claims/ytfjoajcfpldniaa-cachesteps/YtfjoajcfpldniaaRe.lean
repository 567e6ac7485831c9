import Derived.Test.YtfjoajcfpldniaaRd
namespace Go.Proofs.Ytfjoajcfpldniaa
open Go.RowKit Go.Maps

theorem IRow.nil (base : Nat) (w : World) : IRow base w (.slice none 0 0) [] := ⟨rfl, .inl ⟨rfl, rfl⟩⟩
theorem take_map_bP (L : List Fm) (q : Nat) (hq : q < L.length) : (L.take (q + 1)).map (·.b) = (L.take q).map (·.b) ++ [L[q].b] := by
  rw [List.take_succ_eq_append_getElem hq, List.map_append, List.map_singleton]
section
variable {B g : Nat} {N : Nat} {P : List Fm} {lv : Value}
set_option maxRecDepth 100000 in
theorem rheld (w : World) (h : RC B g w N P lv) (hP : P.length ≤ 100) : Calls Try.prog 14 #[.pointer (some ⟨g, 0, none⟩)] w fun e w' => ∃ v, e = .returned v ∧ ILie w' v (P.map (·.b)) ∧ Below w.heap.size w w' := by
  obtain ⟨c0, c1⟩ := h.cells
  have hgl := h.lt
  have HR := hid h.r
  obtain ⟨ao, cap, rfl, hlc, hcm⟩ := h.r.len
  unfold maxLen at hcm
  clear h
  go_enter Try.func14, Try.ntmps14
  go_wp2
  go_loopw [3, 11] (fun ov iv wr => ∃ q : Nat, iv = .int .i64 q ∧ q ≤ P.length ∧ IRow w.heap.size wr ov ((P.take q).map (·.b)) ∧ Below w.heap.size w wr) (fun _ iv _ => P.length - (intOf iv).toNat)
  case atStart => exact ⟨0, rfl, Nat.zero_le _, IRow.nil _ _, Below.refl _ _⟩
  case round =>
    obtain ⟨q, rfl, hq, hF, hB⟩ := hrel
    have HF := hid hF
    have HB := hid hB
    clear hF hB c0 c1 hgl
    by_cases hlt : q < P.length
    · obtain ⟨gb, rfl, hgl, _, m0, m1, m2, m3, _⟩ := (HR.out.below HB.out).cell q hlt
      have HW := hid (take_map_bP P q hlt)
      have htl : ((P.take q).map (·.b)).length ≤ 100 := by
        rw [List.length_map, List.length_take]
        omega
      obtain ⟨f, hf⟩ : ∃ f, f = P[q] := ⟨_, rfl⟩
      rw [← hf] at m0 m1 m2 m3 HW
      clear hf
      have HBx := hid (below_alloc wr (.cells #[.int .i64 f.b, .int .i64 f.p, .string f.d, .bool f.y] 75))
      have HBa := hid (HB.out.next HBx.out)
      have HFa := hid (HF.out.below HBx.out)
      have HX := hid (box_at wr (.cells #[.int .i64 f.b, .int .i64 f.p, .string f.d, .bool f.y] 75))
      obtain ⟨ot, oc, rfl, ho1, ho2⟩ := HF.out.len
      unfold maxLen at ho2
      obtain ⟨T, hT⟩ : ∃ T, T = (P.take q).map (·.b) := ⟨_, rfl⟩
      rw [← hT] at HFa HW htl ho1 ⊢
      clear hT HF
      have hbs := HBa.out.size
      go_upto_region 5 with fail
      obtain ⟨x0, hx0⟩ : ∃ x0, x0 = wr.alloc (.cells #[.int .i64 f.b, .int .i64 f.p, .string f.d, .bool f.y] 75) := ⟨_, rfl⟩
      rw [← hx0] at HX HBa HFa hbs ⊢
      clear hx0 m0 m1 m2 m3 HBx
      obtain ⟨bx, hbx⟩ : ∃ bx, bx = wr.heap.size := ⟨_, rfl⟩
      rw [← hbx] at HX ⊢
      clear hbx
      obtain ⟨z0, z1, z2, z3⟩ := four_cells HX.out
      have hlx := lt_of_block HX.out
      go_wp2_with (first
        | (at_builtin; refine pushI (w0 := x0) rfl (.tmp 15) (.tmp 18) rfl w.heap.size x0.heap.size _ T f.b rfl rfl rfl HFa.out (by omega) hbs ?_
           intro v6 w6 hI6 hb6 hk6))
      go_roundw
      case rel => exact ⟨q + 1, by go_num, by omega, by rw [HW.out]; exact hI6, HBa.out.trans hb6⟩
      case measure => simp [intOf]; omega
    · have hqe : q = P.length := by omega
      subst hqe
      have HL := hid HF.out.lie
      rw [List.take_length] at HL
      go_wp2
      go_ret
      exact ⟨_, rfl, HL.out, HB.out⟩
end
set_option maxRecDepth 100000 in
theorem rints {v1 v2 : Value} {l : List Int} (w : World) (h1 : ILie w v1 l) (h2 : ILie w v2 l) : Calls Try.prog 12 #[v1, v2] w fun e w' => e = .returned (.bool true) ∧ Below w.heap.size w w' := by
  have H1 := hid h1
  have H2 := hid h2
  obtain ⟨a1, c1, rfl, k1, k2, _⟩ := h1
  obtain ⟨a2, c2, rfl, k3, k4, _⟩ := h2
  unfold maxLen at k2 k4
  go_enter Try.func12, Try.ntmps12
  go_wp2
  go_loopw [13] (fun iv wr => ∃ q : Nat, iv = .int .i64 q ∧ q ≤ l.length ∧ Below w.heap.size w wr) (fun iv _ => l.length - (intOf iv).toNat)
  case atStart => exact ⟨0, rfl, Nat.zero_le _, Below.refl _ _⟩
  case round =>
    obtain ⟨q, rfl, hq, hB⟩ := hrel
    have HB := hid hB
    clear hB
    by_cases hlt : q < l.length
    · obtain ⟨g1, o1, rfl, l1, m1⟩ := (H1.out.below HB.out).cell q hlt
      obtain ⟨g2, o2, rfl, l2, m2⟩ := (H2.out.below HB.out).cell q hlt
      obtain ⟨x, hx⟩ : ∃ x, x = l[q] := ⟨_, rfl⟩
      rw [← hx] at m1 m2
      clear hx
      go_wp2
      go_quiet ((fail))
      go_wp2
      go_roundw
      case rel => exact ⟨q + 1, by go_num, by omega, HB.out.drewN _⟩
      case measure => simp [intOf]; omega
    · go_wp2
      go_ret
      exact ⟨rfl, HB.out⟩
set_option maxRecDepth 100000 in
theorem rchanges {v1 v2 : Value} {l : List Chg} (w : World) (h1 : CLie w v1 l) (h2 : CLie w v2 l) : Calls Try.prog 15 #[v1, v2] w fun e w' => e = .returned (.bool true) ∧ Below w.heap.size w w' := by
  have H1 := hid h1
  have H2 := hid h2
  obtain ⟨a1, c1, rfl, k1, k2, _⟩ := h1
  obtain ⟨a2, c2, rfl, k3, k4, _⟩ := h2
  unfold maxLen at k2 k4
  go_enter Try.func15, Try.ntmps15
  go_wp2
  go_loopw [13] (fun iv wr => ∃ q : Nat, iv = .int .i64 q ∧ q ≤ l.length ∧ Below w.heap.size w wr) (fun iv _ => l.length - (intOf iv).toNat)
  case atStart => exact ⟨0, rfl, Nat.zero_le _, Below.refl _ _⟩
  case round =>
    obtain ⟨q, rfl, hq, hB⟩ := hrel
    have HB := hid hB
    clear hB
    by_cases hlt : q < l.length
    · obtain ⟨g1, o1, rfl, l1, m1, n1⟩ := (H1.out.below HB.out).cell q hlt
      obtain ⟨g2, o2, rfl, l2, m2, n2⟩ := (H2.out.below HB.out).cell q hlt
      obtain ⟨x, hx⟩ : ∃ x, x = l[q] := ⟨_, rfl⟩
      rw [← hx] at m1 m2 n1 n2
      clear hx
      go_wp2
      go_quiet ((fail))
      go_wp2
      go_roundw
      case rel => exact ⟨q + 1, by go_num, by omega, HB.out.drewN _⟩
      case measure => simp [intOf]; omega
    · go_wp2
      go_ret
      exact ⟨rfl, HB.out⟩
end Go.Proofs.Ytfjoajcfpldniaa
