import Derived.Test.YtfjoajcfpldniaaRg
namespace Go.Proofs.Ytfjoajcfpldniaa
open Go.RowKit Go.Maps

theorem CLie.or {w w' : World} {v : Value} {l : List Chg} (h : CLie w v l) (k : OR w w') : CLie w' v l := by
  obtain ⟨ao, cap, e, h1, h2, h3⟩ := h
  refine ⟨ao, cap, e, h1, h2, fun i hi => ?_⟩
  obtain ⟨gb, off, cur, q1, q2, q3⟩ := h3 i hi
  exact ⟨gb, off, cur, q1, (k.block gb _ q2 (fun cs fz => ⟨by simp, by simp⟩)).trans q2, q3⟩
theorem ILie.or {w w' : World} {v : Value} {l : List Int} (h : ILie w v l) (k : OR w w') : ILie w' v l := by
  obtain ⟨ao, cap, e, h1, h2, h3⟩ := h
  refine ⟨ao, cap, e, h1, h2, fun i hi => ?_⟩
  obtain ⟨gb, off, cur, q1, q2, q3⟩ := h3 i hi
  exact ⟨gb, off, cur, q1, (k.block gb _ q2 (fun cs fz => ⟨by simp, by simp⟩)).trans q2, q3⟩
theorem CLie.short {w : World} {ao : Option Addr} {cap : Nat} {l : List Chg} (h : CLie w (.slice ao l.length cap) l) (n : Nat) (hn : n ≤ l.length) : CLie w (.slice ao n cap) (l.take n) := by
  obtain ⟨ao', cap', e, h1, h2, h3⟩ := h
  injection e with e1 e2 e3
  subst e1 e3
  have hl : (l.take n).length = n := by rw [List.length_take]; omega
  refine ⟨ao, cap, by rw [hl], by omega, h2, fun i hi => ?_⟩
  obtain ⟨gb, off, cur, q1, q2, q3⟩ := h3 i (by omega)
  rw [List.getElem_take]
  exact ⟨gb, off, cur, q1, q2, q3⟩
theorem clearP_b (P S : List Fm) : (clearP P S).map (·.b) = P.map (·.b) := by
  unfold clearP
  rw [List.map_map]
  apply List.map_congr_left
  intro x _
  show (if _ then _ else _ : Fm).b = x.b
  split <;> rfl
theorem clearP_nil (P : List Fm) : clearP P [] = P := by unfold clearP; simp
theorem clearP_len (P S : List Fm) : (clearP P S).length = P.length := by unfold clearP; simp
theorem clearP_get (P T : List Fm) (j : Nat) (hj : j < P.length) : (clearP P T)[j]'(by rw [clearP_len]; exact hj) = if T.any (fun s => s.b == P[j].b) then { P[j] with y := false } else P[j] := List.getElem_map ..
theorem clearP_step {P T : List Fm} {s : Fm} (hn : (P.map (·.b)).Nodup) {i : Nat} (hi : i < (clearP P T).length) (hb : (clearP P T)[i].b = s.b) : (clearP P T).set i { (clearP P T)[i] with y := false } = clearP P (T ++ [s]) := by
  have hi' : i < P.length := by rw [clearP_len] at hi; exact hi
  have gb : ∀ j (hj : j < P.length), ((clearP P T)[j]'(by rw [clearP_len]; exact hj)).b = P[j].b := by
    intro j hj
    rw [clearP_get P T j hj]
    split <;> rfl
  refine List.ext_getElem (by simp [clearP_len]) (fun j h1 h2 => ?_)
  have hj : j < P.length := by rw [List.length_set, clearP_len] at h1; exact h1
  rw [List.getElem_set, clearP_get P (T ++ [s]) j hj, List.any_append]
  by_cases e : i = j
  · subst e
    rw [if_pos rfl]
    have e2 : s.b = P[i].b := by rw [← hb]; exact gb i hi'
    rw [if_pos (by simp [e2])]
    have := clearP_get P T i hi'
    rw [this]
    split <;> rfl
  · rw [if_neg e]
    have e2 : s.b ≠ P[j].b := by
      rw [← hb, gb i hi']
      intro e3
      have h4 := List.pairwise_iff_getElem.1 hn
      rcases Nat.lt_or_gt_of_ne e with hlt | hlt
      · exact h4 i j (by simpa using hi') (by simpa using hj) hlt (by simpa using e3)
      · exact h4 j i (by simpa using hj) (by simpa using hi') hlt (by simpa using e3.symm)
    have e4 : ([s].any fun s => s.b == P[j].b) = false := by simp [e2]
    rw [e4, Bool.or_false]
    exact clearP_get P T j hj
section
variable {B g : Nat} {N : Nat} {P : List Fm} {lv : Value}
set_option maxRecDepth 100000 in
theorem rtake (w : World) (h : RC B g w N P lv) (hn : (P.map (·.b)).Nodup) (hr : ∀ f ∈ P, 0 ≤ f.b ∧ f.b < 1024) (_hP : P.length ≤ 100) : Calls Try.prog 30 #[.pointer (some ⟨g, 0, none⟩)] w fun e w' => ∃ v, e = .returned v ∧ CLie w' v (((dirtyP P).take 48).map chP) ∧ (∃ lv', RC B g w' N (clearP P ((dirtyP P).take 48)) lv') ∧ OR w w' ∧ Below B w w' := by
  have HD := hid (rdirty w h hn hr)
  have hBw : B ≤ w.heap.size := Nat.le_trans h.b (Nat.le_of_lt h.lt)
  have HH := hid h
  have HSb : Hid (∀ s ∈ (dirtyP P).take 48, ∃ f ∈ P, f.b = s.b) := hid (fun s hs => ⟨s, (dirtyP_mem.1 (List.mem_of_mem_take hs)).1, rfl⟩)
  have HN := hid hn
  have HT : Hid (((dirtyP P).map chP).take 48 = ((dirtyP P).take 48).map chP) := hid (by rw [List.map_take])
  have HTa : Hid ((dirtyP P).length ≤ 48 → (dirtyP P).take 48 = dirtyP P) := hid (fun h => List.take_of_length_le h)
  have HTl : Hid (((dirtyP P).take 48).length = min 48 (dirtyP P).length) := hid (by rw [List.length_take])
  obtain ⟨S, hS⟩ : ∃ S, S = (dirtyP P).take 48 := ⟨_, rfl⟩
  rw [← hS] at HSb HT HTa HTl ⊢
  clear hS
  obtain ⟨D, hD⟩ : ∃ D, D = dirtyP P := ⟨_, rfl⟩
  rw [← hD] at HD HT HTa HTl
  clear hD h hn hr
  go_enter Try.func30, Try.ntmps30
  go_wp2_with (go_at_call 17; fail)
  refine (HD.out).mono ?_
  rintro e w1 ⟨v1, rfl, hV1, hb1⟩
  have HB1 := hid hb1
  have HV1 := hid hV1.lie
  obtain ⟨ot, oc, rfl, ho1, ho2⟩ := hV1.len
  unfold maxLen at ho2
  rw [List.length_map] at HV1 ho1 ⊢
  have HI : Hid (∀ m : Nat, m = S.length → CLie w1 (.slice ot m oc) (S.map chP)) := by
    intro m hm
    subst hm
    have := HV1.out
    have h2 : CLie w1 (.slice ot (D.map chP).length oc) (D.map chP) := by rw [List.length_map]; exact this
    have h3 := h2.short S.length (by rw [List.length_map, HTl.out]; omega)
    have e : (D.map chP).take S.length = S.map chP := by
      rw [← HT.out, HTl.out]
      by_cases hc : D.length ≤ 48
      · rw [Nat.min_eq_right hc, List.take_of_length_le (by simp), List.take_of_length_le (by simpa using hc)]
      · rw [Nat.min_eq_left (by omega)]
    rw [e] at h3
    exact h3
  clear HD hV1 hb1 HV1 HT HTa
  by_cases hc : 48 < D.length
  · have hSM : S.length = 48 := by rw [HTl.out]; omega
    clear HTl
    have HVm := hid (HI.out 48 hSM.symm)
    have HO1 := hid (OR.of_below HB1.out)
    have HR1 := hid (HH.out.below HB1.out)
    have HBB := hid (HB1.out.mono hBw)
    clear HI HH HB1
    have hdc : decide ((48 : Int) < (D.length : Int)) = true := decide_eq_true (by omega)
    go_wp2
    clear hc hdc
    go_loopw [16] (fun iv wr => ∃ (q : Nat) (lv' : Value), iv = .int .i64 q ∧ q ≤ 48 ∧ RC B g wr N (clearP P (S.take q)) lv' ∧ CLie wr (.slice ot 48 oc) (S.map chP) ∧ OR w wr ∧ Below B w wr) (fun iv _ => 48 - (intOf iv).toNat)
    case atStart => exact ⟨0, _, rfl, by omega, by rw [List.take_zero, clearP_nil]; exact HR1.out, HVm.out, HO1.out, HBB.out⟩
    case round =>
      obtain ⟨q, lv', rfl, hq, hRq, hVq, hOq, hBq⟩ := hrel
      have HRq := hid hRq
      have HVq := hid hVq
      have HOq := hid hOq
      have HBq := hid hBq
      clear hRq hVq hOq hBq HR1 HVm HO1 HBB
      by_cases hlt : q < 48
      · have hqs : q < S.length := by omega
        obtain ⟨cg, co, rfl, hcg, z0, z1⟩ := HVq.out.cell q (by simpa using hqs)
        have e9 : ((S.map chP)[q]'(by simpa using hqs)) = chP S[q] := by simp
        rw [e9] at z0 z1
        clear e9
        unfold chP at z0 z1
        simp only at z0 z1
        obtain ⟨f0, hf0, hfb⟩ := HSb.out S[q] (List.getElem_mem hqs)
        have HTk := hid (List.take_succ_eq_append_getElem hqs)
        obtain ⟨s, hs⟩ : ∃ s, s = S[q] := ⟨_, rfl⟩
        rw [← hs] at z0 z1 hfb HTk
        clear hs
        have HX := hid (box_at wr (.cells #[.int .i64 s.b, .string s.d] 52))
        have HBx := hid (below_alloc wr (.cells #[.int .i64 s.b, .string s.d] 52))
        have HRx := hid (HRq.out.below HBx.out)
        have HVx := hid (HVq.out.below HBx.out)
        have hBl := Nat.le_trans HRq.out.b (Nat.le_of_lt HRq.out.lt)
        have HBx2 := hid (HBx.out.mono hBl)
        have HOx := hid (OR.of_below HBx.out)
        go_upto_region 7 with fail
        obtain ⟨x0, hx0⟩ : ∃ x0, x0 = wr.alloc (.cells #[.int .i64 s.b, .string s.d] 52) := ⟨_, rfl⟩
        rw [← hx0] at HX HRx HVx HBx2 HOx ⊢
        clear hx0 z0 z1 HBx hcg
        obtain ⟨bx, hbx⟩ : ∃ bx, bx = wr.heap.size := ⟨_, rfl⟩
        rw [← hbx] at HX ⊢
        clear hbx
        obtain ⟨z0, z1⟩ := two_cellsK HX.out
        have hlx := lt_of_block HX.out
        have HFi := hid (rfind s.b x0 HRx.out)
        have HNo : Hid (findP (clearP P (S.take q)) s.b ≠ none) := hid (by
          unfold findP
          intro e
          rw [List.find?_eq_none] at e
          have hm : f0.b ∈ (clearP P (S.take q)).map (·.b) := by rw [clearP_b]; exact List.mem_map_of_mem hf0
          obtain ⟨y, hy, hyb⟩ := List.mem_map.1 hm
          have := e y hy
          rw [hyb, hfb] at this
          simp at this)
        obtain ⟨C, hC⟩ : ∃ C, C = clearP P (S.take q) := ⟨_, rfl⟩
        rw [← hC] at HRx HFi HNo
        obtain ⟨C2, hC2⟩ : ∃ C2, C2 = clearP P (S.take (q + 1)) := ⟨_, rfl⟩
        have HC2 := hid hC2
        have HStep : Hid (∀ i (hi : i < C.length), C[i].b = s.b → C.set i { C[i] with y := false } = C2) := hid (by
          subst hC hC2
          rw [HTk.out]
          exact fun i hi hb => clearP_step HN.out hi hb)
        clear hC hC2 HRq HVq HTk
        rcases idx_cases C s.b with ⟨e1, e2⟩ | ⟨i, hi, e1, e2, e3⟩
        · exact absurd e2 HNo.out
        · rw [e1] at HFi
          have HSt := hid (HStep.out i hi e2)
          clear e1 e2 e3 HNo HStep hf0 hfb
          go_wp2_with (go_at_call 35; fail)
          refine (HFi.out).mono ?_
          rintro e w2 ⟨rfl, hb2⟩
          have HR := hid (HRx.out.below hb2)
          have HV2 := hid (HVx.out.below hb2)
          have hBl2 := Nat.le_trans HRx.out.b (Nat.le_of_lt HRx.out.lt)
          have HB2 := hid (HBq.out.trans (HBx2.out.trans (hb2.mono hBl2)))
          have HO2 := hid (HOq.out.trans (HOx.out.trans (OR.of_below hb2)))
          obtain ⟨c0, c1⟩ := HR.out.cells
          obtain ⟨ao, cap, rfl, hlc, hcm⟩ := HR.out.r.len
          unfold maxLen at hcm
          obtain ⟨gb, rfl, hgl2, _, m0, m1, m2, m3, hfz⟩ := HR.out.r.cell i hi
          have hgl := HR.out.lt
          have HX2 := hid (HR.out.setF i hi 3 (by decide) { C[i] with y := false } (.bool false) rfl)
          have HO3 := hid (HR.out.r.or (i * 4 + 3) (.bool false))
          have HL3 := hid (HR.out.r.low (i * 4 + 3) (.bool false))
          rw [HSt.out] at HX2
          clear hb2 HFi HSt z0 z1 m0 m1 m2
          go_wp2
          go_roundw
          case rel => exact ⟨q + 1, _, by go_num, by omega, by rw [← HC2.out]; exact HX2.out, HV2.out.or HO3.out, HO2.out.trans HO3.out, HB2.out.trans HL3.out⟩
          case measure => simp [intOf]; omega
      · have hqe : q = 48 := by omega
        have HRe := hid HRq.out
        rw [hqe, ← hSM, List.take_length] at HRe
        go_wp2
        go_ret
        exact ⟨_, rfl, HVq.out, ⟨_, HRe.out⟩, HOq.out, HBq.out⟩
  · have hSM : S.length = D.length := by rw [HTl.out]; omega
    clear HTl
    have HVm := hid (HI.out D.length hSM.symm)
    have HO1 := hid (OR.of_below HB1.out)
    have HR1 := hid (HH.out.below HB1.out)
    have HBB := hid (HB1.out.mono hBw)
    clear HI HH HB1
    go_wp2
    go_loopw [16] (fun iv wr => ∃ (q : Nat) (lv' : Value), iv = .int .i64 q ∧ q ≤ D.length ∧ RC B g wr N (clearP P (S.take q)) lv' ∧ CLie wr (.slice ot D.length oc) (S.map chP) ∧ OR w wr ∧ Below B w wr) (fun iv _ => D.length - (intOf iv).toNat)
    case atStart => exact ⟨0, _, rfl, by omega, by rw [List.take_zero, clearP_nil]; exact HR1.out, HVm.out, HO1.out, HBB.out⟩
    case round =>
      obtain ⟨q, lv', rfl, hq, hRq, hVq, hOq, hBq⟩ := hrel
      have HRq := hid hRq
      have HVq := hid hVq
      have HOq := hid hOq
      have HBq := hid hBq
      clear hRq hVq hOq hBq HR1 HVm HO1 HBB
      by_cases hlt : q < D.length
      · have hqs : q < S.length := by omega
        obtain ⟨cg, co, rfl, hcg, z0, z1⟩ := HVq.out.cell q (by simpa using hqs)
        have e9 : ((S.map chP)[q]'(by simpa using hqs)) = chP S[q] := by simp
        rw [e9] at z0 z1
        clear e9
        unfold chP at z0 z1
        simp only at z0 z1
        obtain ⟨f0, hf0, hfb⟩ := HSb.out S[q] (List.getElem_mem hqs)
        have HTk := hid (List.take_succ_eq_append_getElem hqs)
        obtain ⟨s, hs⟩ : ∃ s, s = S[q] := ⟨_, rfl⟩
        rw [← hs] at z0 z1 hfb HTk
        clear hs
        have HX := hid (box_at wr (.cells #[.int .i64 s.b, .string s.d] 52))
        have HBx := hid (below_alloc wr (.cells #[.int .i64 s.b, .string s.d] 52))
        have HRx := hid (HRq.out.below HBx.out)
        have HVx := hid (HVq.out.below HBx.out)
        have hBl := Nat.le_trans HRq.out.b (Nat.le_of_lt HRq.out.lt)
        have HBx2 := hid (HBx.out.mono hBl)
        have HOx := hid (OR.of_below HBx.out)
        go_upto_region 7 with fail
        obtain ⟨x0, hx0⟩ : ∃ x0, x0 = wr.alloc (.cells #[.int .i64 s.b, .string s.d] 52) := ⟨_, rfl⟩
        rw [← hx0] at HX HRx HVx HBx2 HOx ⊢
        clear hx0 z0 z1 HBx hcg
        obtain ⟨bx, hbx⟩ : ∃ bx, bx = wr.heap.size := ⟨_, rfl⟩
        rw [← hbx] at HX ⊢
        clear hbx
        obtain ⟨z0, z1⟩ := two_cellsK HX.out
        have hlx := lt_of_block HX.out
        have HFi := hid (rfind s.b x0 HRx.out)
        have HNo : Hid (findP (clearP P (S.take q)) s.b ≠ none) := hid (by
          unfold findP
          intro e
          rw [List.find?_eq_none] at e
          have hm : f0.b ∈ (clearP P (S.take q)).map (·.b) := by rw [clearP_b]; exact List.mem_map_of_mem hf0
          obtain ⟨y, hy, hyb⟩ := List.mem_map.1 hm
          have := e y hy
          rw [hyb, hfb] at this
          simp at this)
        obtain ⟨C, hC⟩ : ∃ C, C = clearP P (S.take q) := ⟨_, rfl⟩
        rw [← hC] at HRx HFi HNo
        obtain ⟨C2, hC2⟩ : ∃ C2, C2 = clearP P (S.take (q + 1)) := ⟨_, rfl⟩
        have HC2 := hid hC2
        have HStep : Hid (∀ i (hi : i < C.length), C[i].b = s.b → C.set i { C[i] with y := false } = C2) := hid (by
          subst hC hC2
          rw [HTk.out]
          exact fun i hi hb => clearP_step HN.out hi hb)
        clear hC hC2 HRq HVq HTk
        rcases idx_cases C s.b with ⟨e1, e2⟩ | ⟨i, hi, e1, e2, e3⟩
        · exact absurd e2 HNo.out
        · rw [e1] at HFi
          have HSt := hid (HStep.out i hi e2)
          clear e1 e2 e3 HNo HStep hf0 hfb
          go_wp2_with (go_at_call 35; fail)
          refine (HFi.out).mono ?_
          rintro e w2 ⟨rfl, hb2⟩
          have HR := hid (HRx.out.below hb2)
          have HV2 := hid (HVx.out.below hb2)
          have hBl2 := Nat.le_trans HRx.out.b (Nat.le_of_lt HRx.out.lt)
          have HB2 := hid (HBq.out.trans (HBx2.out.trans (hb2.mono hBl2)))
          have HO2 := hid (HOq.out.trans (HOx.out.trans (OR.of_below hb2)))
          obtain ⟨c0, c1⟩ := HR.out.cells
          obtain ⟨ao, cap, rfl, hlc, hcm⟩ := HR.out.r.len
          unfold maxLen at hcm
          obtain ⟨gb, rfl, hgl2, _, m0, m1, m2, m3, hfz⟩ := HR.out.r.cell i hi
          have hgl := HR.out.lt
          have HX2 := hid (HR.out.setF i hi 3 (by decide) { C[i] with y := false } (.bool false) rfl)
          have HO3 := hid (HR.out.r.or (i * 4 + 3) (.bool false))
          have HL3 := hid (HR.out.r.low (i * 4 + 3) (.bool false))
          rw [HSt.out] at HX2
          clear hb2 HFi HSt z0 z1 m0 m1 m2
          go_wp2
          go_roundw
          case rel => exact ⟨q + 1, _, by go_num, by omega, by rw [← HC2.out]; exact HX2.out, HV2.out.or HO3.out, HO2.out.trans HO3.out, HB2.out.trans HL3.out⟩
          case measure => simp [intOf]; omega
      · have hqe : q = D.length := by omega
        have HRe := hid HRq.out
        rw [hqe, ← hSM, List.take_length] at HRe
        go_wp2
        go_ret
        exact ⟨_, rfl, HVq.out, ⟨_, HRe.out⟩, HOq.out, HBq.out⟩
end
end Go.Proofs.Ytfjoajcfpldniaa
