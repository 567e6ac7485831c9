import Derived.Test.YtmcahiebcflfoaaKb
namespace Go.Proofs.Ytmcahiebcflfoaa
open Go.RowKit Go.Maps
theorem RK.set {g b : Nat} {r : Option Nat} {w : World} {P : Int} {T F S : Nat} {l : List Value} (h : RK g r w P T F S l) (hb : b ≠ g) (hr : some b ≠ r) (o : Nat) (v : Value) : RK g r (w.setCell ⟨b, o, none⟩ v) P T F S l :=
  h.same (Below.heap_setCell _ _ _ _ (Ne.symm hb)) fun x hx => Below.heap_setCell _ _ _ _ (by rintro rfl; exact hr hx.symm)
set_option maxRecDepth 100000 in
theorem refSeal_j (g : Nat) (r : Option Nat) (P : Int) (T F S : Nat) (l : List Value) (hT : T < 65536) (hF : F + l.length ≤ 9223372036854775807) (w : World) (h : RK g r w P T F S l) :
    Calls Try.prog 18 #[.pointer (some ⟨g, 0, none⟩)] w fun e w' => e = .returned (.agg #[.int .i64 0, .string (hdB T F (F + l.length))]) ∧ RK g r w' P T F l.length l ∧ JFr g r w w' := by
  have hltr := h.lt
  have hgl := hltr.1
  obtain ⟨sv, hr, h1, h2, h3⟩ := h
  obtain ⟨ao, cap, rfl, hlc, hcm⟩ := h2.len
  have HB0 := hid (below_alloc w (.cells #[.int .i64 0, .string ⟨#[]⟩] 45))
  have HJ := hid (h1.below HB0.out)
  have HKs : Hid (RK g r (w.setCell ⟨g, 3, none⟩ (.int .i64 l.length)) P T F l.length l) := hid ⟨_, hr, h1.set3 _, h2.same fun x hx => Below.heap_setCell _ _ _ _ (by exact (hltr.2 x (hr.symm.trans hx)).2), h3⟩
  have HFs := hid ((JFr.refl g r w).set (.inl rfl) 3 (.int .i64 l.length))
  have hzs : (w.setCell ⟨g, 3, none⟩ (.int .i64 l.length)).heap.size = w.heap.size := by simp
  obtain ⟨ws, hws⟩ : ∃ ws, ws = w.setCell ⟨g, 3, none⟩ (.int .i64 l.length) := ⟨_, rfl⟩
  rw [← hws] at HKs HFs hzs
  have HBs := hid (below_alloc ws (.cells #[.int .i64 0, .string ⟨#[]⟩] 45))
  have HV2 := hid (box_at ws (.cells #[.int .i64 0, .string ⟨#[]⟩] 45))
  obtain ⟨w2, hw2⟩ : ∃ w2, w2 = ws.alloc (.cells #[.int .i64 0, .string ⟨#[]⟩] 45) := ⟨_, rfl⟩
  have hz2 : w2.heap.size = w.heap.size + 1 := by rw [hw2]; simp [hzs]
  rw [← hw2] at HBs HV2
  rw [hzs] at HV2
  have HK2 := hid (HKs.out.below HBs.out)
  have HFr2 := hid (JFr.trans HFs.out (.inl rfl) (JFr.of HBs.out))
  have HE : Hid (w2 = (w.setCell ⟨g, 3, none⟩ (.int .i64 l.length)).alloc (.cells #[.int .i64 0, .string ⟨#[]⟩] 45)) := by rw [← hws]; exact hid hw2
  have HWr := hid (refHeader_j g r P T F l.length l hT hF w2 HK2.out)
  obtain ⟨u, hu⟩ : ∃ u, u = hdB T F (F + l.length) := ⟨_, rfl⟩
  rw [← hu] at HWr ⊢
  clear hws hw2 hu hzs h2 h3 h1
  obtain ⟨c0, c1, c2, c3, c4⟩ := HJ.out.cells
  have hf := frees HJ.out
  go_enter Try.func18, Try.ntmps18
  go_wp2_with (first
    | (go_at_call 21; rw [← HE.out]; refine (HWr.out).mono ?_; rintro e w3 ⟨rfl, hb3⟩; have HV3 := hid ((hb3.block _ (by omega)).trans HV2.out); have HB3 := hid hb3; obtain ⟨q0, q1⟩ := two_cells HV3.out; have hl2 := lt_of_block HV3.out; have hf2 := frees HV3.out; clear hb3))
  have r0 : ((w3.setCell ⟨w.heap.size, 0, none⟩ (.int .i64 0)).setCell ⟨w.heap.size, 1, none⟩ (.string u)).cell? ⟨w.heap.size, 0, none⟩ = some (.int .i64 0) := by simp [World.cell?, World.setCell, Array.getElem?_modify, HV3.out]
  have r1 : ((w3.setCell ⟨w.heap.size, 0, none⟩ (.int .i64 0)).setCell ⟨w.heap.size, 1, none⟩ (.string u)).cell? ⟨w.heap.size, 1, none⟩ = some (.string u) := by simp [World.cell?, World.setCell, Array.getElem?_modify, HV3.out]
  have k3 := JFr.trans HFr2.out (.inl rfl) (JFr.of (g := g) (r := r) HB3.out)
  refine bodyPost_ret (v := .agg #[.int .i64 0, .string u]) (by simp [results, Try.results18, go_sem, r0, r1]) rfl ⟨rfl, ?_, (k3.set (.inr (.inr (Nat.le_refl _))) _ _).set (.inr (.inr (Nat.le_refl _))) _ _⟩
  have hJ := HK2.out.below HB3.out
  have n1 : w.heap.size ≠ g := by omega
  have n2 : some w.heap.size ≠ r := by
    intro e
    have := (hltr.2 _ e.symm).1
    omega
  exact (hJ.set n1 n2 _ _).set n1 n2 _ _
theorem refDone_no (g : Nat) (r : Option Nat) (P : Int) (T F S : Nat) (l : List Value) (k : Int) (hk : ¬ (0 ≤ k ∧ k ≤ S)) (w : World) (h : RK g r w P T F S l) :
    Calls Try.prog 16 #[.pointer (some ⟨g, 0, none⟩), .int .i64 k] w fun e w' => e = .returned (.tuple #[.agg #[.int .i64 0, .string ⟨#[]⟩], .int .i64 1]) ∧ Below w.heap.size w w' := by
  obtain ⟨sv, hr, h1, h2, h3⟩ := h
  have HB0 := hid (below_alloc w (.cells #[.int .i64 0, .string ⟨#[]⟩] 45))
  have hV := box_at w (.cells #[.int .i64 0, .string ⟨#[]⟩] 45)
  have HV := hid hV
  have HJ := hid (h1.below HB0.out)
  obtain ⟨c0, c1, c2, c3, c4⟩ := HJ.out.cells
  clear h1 h2 h3 hV
  by_cases h0 : k < 0
  · clear hk
    go_enter Try.func16, Try.ntmps16
    go_wp2
    refine bodyPost_ret (v := .tuple #[.agg #[.int .i64 0, .string ⟨#[]⟩], .int .i64 1]) (by simp [results, Try.results16, go_sem]) rfl ⟨rfl, below_alloc _ _⟩
  · have h1 : (S : Int) < k := by omega
    clear hk
    go_enter Try.func16, Try.ntmps16
    go_wp2
    refine bodyPost_ret (v := .tuple #[.agg #[.int .i64 0, .string ⟨#[]⟩], .int .i64 1]) (by simp [results, Try.results16, go_sem]) rfl ⟨rfl, below_alloc _ _⟩
set_option maxRecDepth 100000 in
set_option maxHeartbeats 4000000 in
theorem refDone_j (g : Nat) (r : Option Nat) (P : Int) (T F S : Nat) (vs : List Value) (k T' : Nat) (hP : 0 < P) (hP2 : P ≤ 300) (hT : T < P) (hF : F + S ≤ 1099511628000) (hk : k ≤ S) (hS : S ≤ vs.length) (hl : vs.length ≤ 300) (hT' : (T' : Int) = ((T : Int) + sumI ((vs.map szOf).take k)) % P) (w : World) (h : RK g r w P T F S vs) :
    Calls Try.prog 16 #[.pointer (some ⟨g, 0, none⟩), .int .i64 (k : Int)] w fun e w' => e = .returned (.tuple #[.agg #[.int .i64 0, .string (hdB T' (F + k) (F + S))], .int .i64 0]) ∧ RK g r w' P T' (F + k) (S - k) (vs.drop k) ∧ JFr g r w w' := by
  have hltr := h.lt
  have hgl := hltr.1
  have ht2 := (Int.emod_lt_of_pos ((T : Int) + sumI ((vs.map szOf).take k)) hP)
  rw [← hT'] at ht2
  obtain ⟨Lv, hr, h1, h2, h3⟩ := h
  have hnn : ∀ x ∈ vs.map szOf, 0 ≤ x := by
    intro x hx
    obtain ⟨v, hv, rfl⟩ := List.mem_map.1 hx
    obtain ⟨a, n, c, rfl, _⟩ := h3 v hv
    show (0 : Int) ≤ (n : Int) + 1
    omega
  have HNN := hid hnn
  obtain ⟨ao, cap, rfl, hlc, hcm⟩ := h2.len
  obtain ⟨ao', m, m', hcut, hown, hrow⟩ := VRow.cut (k := k) h2 hlc hcm (by omega)
  have HOwn := hid hown
  have HRow := hid hrow
  have HB0 := hid (below_alloc w (.cells #[.int .i64 0, .string ⟨#[]⟩] 45))
  have HV := hid (box_at w (.cells #[.int .i64 0, .string ⟨#[]⟩] 45))
  have HJ := hid (h1.below HB0.out)
  have HR : Hid (VRow (w.alloc (.cells #[.int .i64 0, .string ⟨#[]⟩] 45)) (.slice ao vs.length cap) vs) := hid (h2.same fun x hx => HB0.out.block x (hltr.2 x (hr.symm.trans hx)).1)
  obtain ⟨w1, hw1⟩ : ∃ w1, w1 = w.alloc (.cells #[.int .i64 0, .string ⟨#[]⟩] 45) := ⟨_, rfl⟩
  have hz1 : w1.heap.size = w.heap.size + 1 := by rw [hw1]; simp
  rw [← hw1] at HB0 HV HJ HR
  have H3 := hid h3
  have HWr := hid (fun w h => refHeader_j g r P T' (F + k) (S - k) (vs.drop k) (by omega) (by omega) w h)
  rw [show F + k + (S - k) = F + S by omega] at HWr
  obtain ⟨u, hu⟩ : ∃ u, u = hdB T' (F + k) (F + S) := ⟨_, rfl⟩
  rw [← hu] at HWr ⊢
  have HT' := hid hT'
  clear hu hT' hnn hown hrow h1 h2 h3
  have e1 : ((F + k : Nat) : Int) = (F : Int) + (k : Int) := by omega
  have e2 : ((S - k : Nat) : Int) = (S : Int) - (k : Int) := by omega
  obtain ⟨c0, c1, c2, c3, c4⟩ := HJ.out.cells
  rw [hw1] at c0 c1 c2 c3 c4
  go_enter Try.func16, Try.ntmps16
  go_wp2
  rw [← hw1]
  rw [← hw1] at c0 c1 c2 c3 c4
  clear hw1
  have HCUT := hid hcut
  clear hcut c0 c1 c2 c3 c4
  go_loopw [6] (fun i wr => ∃ (q t : Nat), i = .int .i64 q ∧ q ≤ k ∧ (t : Int) = ((T : Int) + sumI ((vs.map szOf).take q)) % P ∧ RI g wr P t F S (.slice ao vs.length cap) ∧ JFr g none w1 wr) (fun i _ => k - (intOf i).toNat)
  case atStart => exact ⟨0, T, rfl, Nat.zero_le _, by simp [sumI]; rw [Int.emod_eq_of_lt (by omega) hT], HJ.out, JFr.refl _ _ _⟩
  case round =>
    obtain ⟨q, t, rfl, hq, ht, hI, hFq⟩ := hrel
    have HI := hid hI
    have HFq := hid hFq
    have htp := Int.emod_lt_of_pos ((T : Int) + sumI ((vs.map szOf).take q)) hP
    rw [← ht] at htp
    have HTt := hid ht
    clear hI hFq ht
    have HRq : Hid (VRow wr (.slice ao vs.length cap) vs) := hid (HR.out.same fun x hx => HFq.out.block x (by have := (hltr.2 x (hr.symm.trans hx)).1; omega) (hltr.2 x (hr.symm.trans hx)).2 (by simp))
    obtain ⟨c0, c1, c2, c3, c4⟩ := HI.out.cells
    have hfz := frees HI.out
    have hgr := HI.out.lt
    by_cases hqk : q < k
    · obtain ⟨gb, off, e, hgb, d0⟩ := HRq.out.cell q (by omega)
      subst e
      have hb2 := sumI_take HNN.out (q + 1)
      obtain ⟨a, n, c, e, hn⟩ := H3.out (vs[q]'(by omega)) (List.getElem_mem _)
      rw [e] at d0
      have HS : Hid (((T : Int) + sumI ((vs.map szOf).take (q + 1))) % P = ((t : Int) + n + 1) % P) := by
        show _ = _
        rw [List.take_succ_eq_append_getElem (by rw [List.length_map]; omega), sumI_snoc, List.getElem_map, e]
        show ((T : Int) + (sumI ((vs.map szOf).take q) + ((n : Int) + 1))) % P = _
        rw [HTt.out, show ((T : Int) + sumI ((vs.map szOf).take q)) % P + n + 1 = ((T : Int) + sumI ((vs.map szOf).take q)) % P + ((n : Int) + 1) by omega, Int.emod_add_emod]
        congr 1
        omega
      clear e
      have hP' : (P == 0) = false := by simp; omega
      have hwr1 : IntKind.i64.wrap ((t : Int) + (n : Int)) = (t : Int) + (n : Int) := by rw [IntKind.wrap_i64]; omega
      have hwr2 : IntKind.i64.wrap ((t : Int) + (n : Int) + 1) = (t : Int) + (n : Int) + 1 := by rw [IntKind.wrap_i64]; omega
      obtain ⟨t', ht'⟩ : ∃ t' : Nat, (t' : Int) = ((t : Int) + (n : Int) + 1) % P := ⟨(((t : Int) + (n : Int) + 1) % P).toNat, Int.toNat_of_nonneg (Int.emod_nonneg _ (by omega))⟩
      have HT2 := hid ht'
      clear ht'
      go_wp2
      go_region
      all_goals
        go_wp2
        go_roundw
        case rel =>
          have k1 := HFq.out.set (.inl rfl) 1 (.int .i64 (((t : Int) + (n : Int) + 1) % P))
          refine ⟨q + 1, t', by go_num, by omega, by rw [HT2.out, HS.out], ?_, ⟨k1.os, k1.tape, k1.output, k1.size, k1.block⟩⟩
          rw [HT2.out]
          exact HI.out.set1 _
        case measure => simp [intOf]; omega
    · have hqe : q = k := by omega
      subst hqe
      have ett : t = T' := by have := HTt.out; have := HT'.out; omega
      subst ett
      have hcut := HCUT.out
      have HI2 := hid (((HI.out.set2 ((F : Int) + (q : Int))).set3 ((S : Int) - (q : Int))).set4 (.slice ao' m m'))
      have HF2 := hid (((HFq.out.set (.inl rfl) 2 (.int .i64 ((F : Int) + (q : Int)))).set (.inl rfl) 3 (.int .i64 ((S : Int) - (q : Int)))).set (.inl rfl) 4 (.slice ao' m m'))
      obtain ⟨w5, hw5⟩ : ∃ w5, w5 = ((wr.setCell ⟨g, 2, none⟩ (.int .i64 ((F : Int) + (q : Int)))).setCell ⟨g, 3, none⟩ (.int .i64 ((S : Int) - (q : Int)))).setCell ⟨g, 4, none⟩ (.slice ao' m m') := ⟨_, rfl⟩
      rw [← hw5] at HI2 HF2
      have HV5 := hid ((HF2.out.block w.heap.size (by omega) (by omega) (by simp)).trans HV.out)
      have HR5 : Hid (VRow w5 (.slice ao vs.length cap) vs) := hid (HR.out.same fun x hx => HF2.out.block x (by have := (hltr.2 x (hr.symm.trans hx)).1; omega) (hltr.2 x (hr.symm.trans hx)).2 (by simp))
      have HK5 : Hid (RK g r w5 P t (F + q) (S - q) (vs.drop q)) := by
        refine hid ⟨.slice ao' m m', HOwn.out.trans hr, ?_, HRow.out _ HR5.out, fun v hv => H3.out v (List.mem_of_mem_drop hv)⟩
        rw [e1, e2]
        exact HI2.out
      have HE5 := hid hw5
      clear hw5
      have hl5 := lt_of_block HV5.out
      go_wp2_with (first
        | (go_at_call 21; rw [← HE5.out]; refine (HWr.out _ HK5.out).mono ?_; rintro e w6 ⟨rfl, hb6⟩; have HV6 := hid ((hb6.block _ hl5).trans HV5.out); have HB6 := hid hb6; obtain ⟨q0, q1⟩ := two_cells HV6.out; have hl6 := lt_of_block HV6.out; have hf6 := frees HV6.out; clear hb6))
      have r0 : ((w6.setCell ⟨w.heap.size, 0, none⟩ (.int .i64 0)).setCell ⟨w.heap.size, 1, none⟩ (.string u)).cell? ⟨w.heap.size, 0, none⟩ = some (.int .i64 0) := by simp [World.cell?, World.setCell, Array.getElem?_modify, HV6.out]
      have r1 : ((w6.setCell ⟨w.heap.size, 0, none⟩ (.int .i64 0)).setCell ⟨w.heap.size, 1, none⟩ (.string u)).cell? ⟨w.heap.size, 1, none⟩ = some (.string u) := by simp [World.cell?, World.setCell, Array.getElem?_modify, HV6.out]
      have k0 : JFr g none w w1 := JFr.of HB0.out
      have k6 : JFr g none w w6 := (k0.trans (.inl rfl) HF2.out).trans (.inl rfl) (JFr.of HB6.out)
      have k7 := (k6.set (.inr (.inr (Nat.le_refl _))) 0 (.int .i64 0)).set (.inr (.inr (Nat.le_refl _))) 1 (.string u)
      have hJ := HK5.out.below HB6.out
      have n1 : w.heap.size ≠ g := by omega
      have n2 : some w.heap.size ≠ r := by
        intro e
        have := (hltr.2 _ e.symm).1
        omega
      refine bodyPost_ret (v := .tuple #[.agg #[.int .i64 0, .string u], .int .i64 0]) (by simp [results, Try.results16, go_sem, r0, r1]) rfl ⟨rfl, (hJ.set n1 n2 _ _).set n1 n2 _ _, ⟨k7.os, k7.tape, k7.output, k7.size, fun i hi h1 _ => k7.block i hi h1 (by simp)⟩⟩
end Go.Proofs.Ytmcahiebcflfoaa
