import Derived.Test.YtfjoajcfpldniaaKc
import Derived.Test.YtfjoajcfpldniaaOs
namespace Go.Proofs.Ytfjoajcfpldniaa
open Go.RowKit Go.Maps

set_option maxRecDepth 100000 in
set_option maxHeartbeats 16000000 in
theorem keeps_walk (n : Int) (v : Value) (l : List Stp) (W : World) (hl : TLie W v l) : Calls Try.prog 4 #[.int .i64 n, v] W fun e w' => e = .returned (.bool true) ∧ Below W.heap.size W w' := by
  have HSp := hid (fun w => speaks_any w)
  obtain ⟨ao, cap, rfl, hlc, hcm, hcell⟩ := hl
  have HC0 := hid hcell
  clear hcell
  unfold maxLen at hcm
  by_cases hn : 1 ≤ n ∧ n ≤ 64
  · obtain ⟨N, rfl⟩ : ∃ N : Nat, n = (N : Int) := ⟨n.toNat, by omega⟩
    have hN : 1 ≤ N ∧ N ≤ 64 := by omega
    have HNew := hid (cnew N hN.1 hN.2 W.heap.size W (Nat.le_refl _))
    clear hn
    by_cases hl3 : 500 < l.length
    · go_enter Try.func4, Try.ntmps4
      go_wp2_with (go_at_call 8; fail)
      refine (HNew.out).mono ?_
      rintro e w1 ⟨g, rfl, hC, hB⟩
      go_wp2_with (first
        | (go_at_call 10; refine (HSp.out _).mono ?_; rintro e w2 ⟨rfl, hb2⟩))
      go_ret
      exact ⟨by simp, hB.next hb2⟩
    · go_enter Try.func4, Try.ntmps4
      go_wp2_with (go_at_call 8; fail)
      refine (HNew.out).mono ?_
      rintro e w1 ⟨g, rfl, hC, hB⟩
      have HQ : Hid (KQ W g w1.heap.size (w1.heap.size + 1) ((w1.alloc (.cells Try.zeroCells43 43)).alloc (.cells Try.zeroCells44 44)) N 0 [] (fK []) (yK [])) := by
        have k1 := below_alloc w1 (.cells Try.zeroCells43 43)
        have k2 := below_alloc (w1.alloc (.cells Try.zeroCells43 43)) (.cells Try.zeroCells44 44)
        have e := DF.new (w1.alloc (.cells Try.zeroCells43 43))
        have hz : (w1.alloc (.cells Try.zeroCells43 43)).heap.size = w1.heap.size + 1 := by simp
        rw [hz] at e
        have hsz := hB.size
        have e0 := KF.new w1
        exact hid ⟨(hC.below k1).below k2, e0.same (k2.block _ e0.lt), e, by omega, by omega, by omega, (hB.next k1).next k2⟩
      clear hC hB HNew
      go_upto_region 6 with fail
      obtain ⟨a2, ha2⟩ : ∃ a2, a2 = w1.heap.size + 1 := ⟨_, rfl⟩
      obtain ⟨a1, ha1⟩ : ∃ a1, a1 = w1.heap.size := ⟨_, rfl⟩
      obtain ⟨w3, hw3⟩ : ∃ w3, w3 = (w1.alloc (.cells Try.zeroCells43 43)).alloc (.cells Try.zeroCells44 44) := ⟨_, rfl⟩
      rw [← ha2, ← ha1, ← hw3] at HQ
      rw [← hw3]
      try rw [← ha2]
      rw [← ha1]
      clear hw3 ha1 ha2
      go_wp2
      go_loopw [44] (fun i wr => ∃ (q : Nat) (P : List Fm), i = .int .i64 q ∧ q ≤ l.length ∧ KQ W g a1 a2 wr N q P (fK P) (yK P)) (fun i _ => l.length - (intOf i).toNat)
      case atStart => exact ⟨0, [], rfl, Nat.zero_le _, HQ.out⟩
      case round =>
        obtain ⟨q, P, rfl, hq, hT⟩ := hrel
        have HT := hid hT
        clear hT HQ
        by_cases hlt : q < l.length
        · obtain ⟨bb, off, rfl, hbW, s0, s1, s2, s3⟩ := HC0.out q hlt
          obtain ⟨y, hy⟩ : ∃ y, y = l[q] := ⟨_, rfl⟩
          rw [← hy] at s0 s1 s2 s3
          clear hy
          obtain ⟨K, k, d⟩ := y
          simp only at s0 s1 s2 s3
          have HK := hid s3
          have t0 := (HT.out.be.cell (p := ⟨bb, off + q * 3, none⟩) hbW).trans s0
          have t1 := (HT.out.be.cell (p := ⟨bb, off + q * 3 + 1, none⟩) hbW).trans s1
          have t2 := (HT.out.be.cell (p := ⟨bb, off + q * 3 + 2, none⟩) hbW).trans s2
          have hbr : bb < wr.heap.size := Nat.lt_of_lt_of_le hbW HT.out.be.size
          clear s0 s1 s2 s3
          have HX := hid (box_at wr (.cells #[.int .i64 K, .int .i64 k, .string d] 32))
          have HTx := hid (HT.out.below (below_alloc wr (.cells #[.int .i64 K, .int .i64 k, .string d] 32)))
          go_upto_region 9 with fail
          obtain ⟨x0, hx0⟩ : ∃ x0, x0 = wr.alloc (.cells #[.int .i64 K, .int .i64 k, .string d] 32) := ⟨_, rfl⟩
          rw [← hx0] at HX HTx ⊢
          clear hx0 t0 t1 t2 hbr HT
          obtain ⟨bx, hbx⟩ : ∃ bx, bx = wr.heap.size := ⟨_, rfl⟩
          rw [← hbx] at HX ⊢
          clear hbx
          obtain ⟨q0, q1, q2⟩ := three_cells HX.out
          have hlx := lt_of_block HX.out
          have hJ : q + 1 ≤ 90000 := by omega
          have HRt := hid (fun f hf => (HTx.out.cc.rt f hf).1)
          rcases kindk K with hk | rfl | rfl | rfl | rfl | ⟨k0, k1, k2, k3, k4, k5⟩
          · as_aux_lemma =>
              have HLo := hid (cload k HK.out d x0 HTx.out.cc hJ)
              have HLC := hid (fun h => load_cases (N := N) (P := P) (k := k) (d := d) h)
              have HLF := hid (fun h => load_fail (N := N) (P := P) (k := k) (d := d) h)
              obtain ⟨R, hR⟩ : ∃ R, R = loadR N P k d := ⟨_, rfl⟩
              rw [← hR] at HLo HLC HLF
              clear hR
              obtain ⟨r1, r2, P2⟩ := R
              simp only at HLo HLC HLF
              have hkk : (K == 0) = true ∨ ((K == 0) = false ∧ (K == 1) = true) := by
                rcases hk with rfl | rfl
                · exact .inl rfl
                · exact .inr ⟨rfl, rfl⟩
              clear hk
              by_cases hz : r2 = 0
              · subst hz
                obtain ⟨⟨hk0, hk1⟩, hfn, hcs⟩ := HLC.out rfl
                obtain ⟨kk, rfl⟩ : ∃ kk : Nat, k = kk := ⟨k.toNat, by omega⟩
                have hkl : kk < 1024 := by omega
                rcases hcs with ⟨rfl, rfl⟩ | ⟨f, hfm, hfp, hfy, rfl, rfl⟩
                · obtain ⟨ek, ey⟩ := fK_new (d := d) hfn
                  have HEk := hid ek
                  have HEy := hid ey
                  clear ek ey hfn
                  obtain ⟨P3, hP3⟩ : ∃ P3, P3 = P ++ [⟨(kk : Int), 0, false, d⟩] := ⟨_, rfl⟩
                  rw [← hP3] at HLo HEk HEy
                  clear hP3
                  rcases hkk with e0 | ⟨e0, e1⟩
                  all_goals
                    go_wp2_with (go_at_call 18; fail)
                    refine (HLo.out).mono ?_
                    rintro e w2 ⟨rfl, hC2, hO2, hB2⟩
                    have HT2 := hid (HTx.out.step hC2 hO2 hB2)
                    have HX2 := hid ((hO2.block _ _ _ HX.out (by decide) (by decide)).trans HX.out)
                    have HT3 := hid (HT2.out.set kk 0 d true)
                    clear hC2 hO2 hB2 q0 q1 q2 hlx
                    obtain ⟨q0, q1, q2⟩ := three_cells HX2.out
                    have hlx := lt_of_block HX2.out
                    obtain ⟨k0, k1, k2⟩ := HT2.out.s1.cell kk hkl
                    have hfz := HT2.out.s1.free
                    have hal := HT2.out.s1.lt
                    rw [← HEk.out, ← HEy.out] at HT3
                    have HLen := hid (HT3.out.cc.len)
                    have HHe := hid (cheld _ HT3.out.cc)
                    go_wp2_with (go_at_call 13; fail)
                    refine (HHe.out).mono ?_
                    rintro e w9 ⟨hv, rfl, hI9, hb9⟩
                    have HQ9 := hid (HT3.out.below hb9)
                    obtain ⟨ho9, hc9, rfl, hh1, hh2, _⟩ := hI9
                    rw [List.length_map] at hh1 ⊢
                    unfold maxLen at hh2
                    have hln := HLen.out.1
                    clear hb9 HHe HLen
                    go_wp2
                    go_roundw
                    case rel => exact ⟨q + 1, _, by go_num, by omega, HQ9.out⟩
                    case measure => simp [intOf]; omega
                · have hfr := HRt.out f hfm
                  obtain ⟨ob, hob⟩ : ∃ ob : Nat, f.b = ob := ⟨f.b.toNat, by omega⟩
                  have hff := find_in HTx.out.cc.nd hfm
                  rw [hob] at hff HLo
                  have hol : ob < 1024 := by omega
                  obtain ⟨ek, ey⟩ := fK_swap (d := d) hfn hff hfy
                  have HEk := hid ek
                  have HEy := hid ey
                  have HKo : Hid ((fK P ob).1 = 0) := by show _ = _; unfold fK; rw [hff]; exact hfp
                  have HYo : Hid (yK P ob = false) := by show _ = _; unfold yK; rw [hff]; exact hfy
                  clear ek ey hfn hff hfp hfy hfm hob hfr
                  obtain ⟨P3, hP3⟩ : ∃ P3, P3 = dropP P ob ++ [⟨(kk : Int), 0, false, d⟩] := ⟨_, rfl⟩
                  rw [← hP3] at HLo HEk HEy
                  clear hP3
                  rcases hkk with e0 | ⟨e0, e1⟩
                  all_goals
                    go_wp2_with (go_at_call 18; fail)
                    refine (HLo.out).mono ?_
                    rintro e w2 ⟨rfl, hC2, hO2, hB2⟩
                    have HT2 := hid (HTx.out.step hC2 hO2 hB2)
                    have HX2 := hid ((hO2.block _ _ _ HX.out (by decide) (by decide)).trans HX.out)
                    have HT3 := hid (HT2.out.set ob 0 ⟨#[]⟩ false)
                    have HT4 := hid (HT3.out.set kk 0 d true)
                    have hne1 : bx ≠ a1 := by
                      rintro rfl
                      obtain ⟨cur, h1, _⟩ := HT2.out.s1
                      have := HX2.out
                      rw [h1] at this
                      simp at this
                    clear hC2 hO2 hB2 q0 q1 q2 hlx
                    obtain ⟨q0, q1, q2⟩ := three_cells HX2.out
                    have hlx := lt_of_block HX2.out
                    obtain ⟨k0, k1, k2⟩ := HT2.out.s1.cell ob hol
                    have yo := HT2.out.s2.cell ob hol
                    rw [HKo.out] at k0
                    rw [HYo.out] at yo
                    have hfz := HT2.out.s1.free
                    have hal := HT2.out.s1.lt
                    have hal2 := HT2.out.s2.lt
                    rw [← HEk.out, ← HEy.out] at HT4
                    go_upto_region 25 with fail
                    obtain ⟨m0, m1, m2⟩ := HT3.out.s1.cell kk hkl
                    have hfz3 := HT3.out.s1.free
                    have hal3 := HT3.out.s1.lt
                    have HX3 : Hid ((((w2.setCell ⟨a1, ob * 3, none⟩ (.int .i64 0)).setCell ⟨a1, ob * 3 + 1, none⟩ (.string ⟨#[]⟩)).setCell ⟨a1, ob * 3 + 2, none⟩ (.bool false)).heap[bx]? = _) := hid ((Below.heap_setCell _ _ _ _ hne1).trans ((Below.heap_setCell _ _ _ _ hne1).trans ((Below.heap_setCell _ _ _ _ hne1).trans HX2.out)))
                    obtain ⟨w3, hw3⟩ : ∃ w3, w3 = ((w2.setCell ⟨a1, ob * 3, none⟩ (.int .i64 0)).setCell ⟨a1, ob * 3 + 1, none⟩ (.string ⟨#[]⟩)).setCell ⟨a1, ob * 3 + 2, none⟩ (.bool false) := ⟨_, rfl⟩
                    rw [← hw3] at HT3 HT4 m0 m1 m2 hfz3 hal3 HX3 ⊢
                    clear hw3 q0 q1 q2 hlx k0 k1 k2 yo hfz hal hal2
                    obtain ⟨q0, q1, q2⟩ := three_cells HX3.out
                    have hlx := lt_of_block HX3.out
                    have HLen := hid (HT4.out.cc.len)
                    have HHe := hid (cheld _ HT4.out.cc)
                    go_wp2_with (go_at_call 13; fail)
                    refine (HHe.out).mono ?_
                    rintro e w9 ⟨hv, rfl, hI9, hb9⟩
                    have HQ9 := hid (HT4.out.below hb9)
                    obtain ⟨ho9, hc9, rfl, hh1, hh2, _⟩ := hI9
                    rw [List.length_map] at hh1 ⊢
                    unfold maxLen at hh2
                    have hln := HLen.out.1
                    clear hb9 HHe HLen
                    go_wp2
                    go_roundw
                    case rel => exact ⟨q + 1, _, by go_num, by omega, HQ9.out⟩
                    case measure => simp [intOf]; omega
              · have hzb : (r2 != 0) = true := by simp [hz]
                have hP2 := HLF.out hz
                subst hP2
                rcases hkk with e0 | ⟨e0, e1⟩
                all_goals
                  go_wp2_with (first
                    | (go_at_call 18; refine (HLo.out).mono ?_; rintro e w2 ⟨rfl, hC2, hO2, hB2⟩))
                  go_roundw
                  case rel => exact ⟨q + 1, _, by go_num, by omega, HTx.out.step hC2 hO2 hB2⟩
                  case measure => simp [intOf]; omega
          · as_aux_lemma =>
              have HLo := hid (clook k HK.out x0 HTx.out.cc hJ)
              obtain ⟨ek, ey⟩ := fK_look P k
              have HEk := hid ek
              have HEy := hid ey
              clear ek ey
              by_cases hkr : 0 ≤ k ∧ k < 1024
              · obtain ⟨kk, rfl⟩ : ∃ kk : Nat, k = kk := ⟨k.toNat, by omega⟩
                have hkl : kk < 1024 := by omega
                clear hkr
                obtain ⟨ed, et⟩ := look_at P kk
                obtain ⟨R, hR⟩ : ∃ R, R = lookR P kk := ⟨_, rfl⟩
                rw [← hR] at HLo HEk HEy ed et
                clear hR
                obtain ⟨r1, r2, P2⟩ := R
                simp only at HLo HEk HEy ed et
                have HEd := hid ed
                have HEt := hid et
                clear ed et
                go_wp2_with (go_at_call 19; fail)
                refine (HLo.out).mono ?_
                rintro e w2 ⟨rfl, hC2, hO2, hB2⟩
                have HT2 := hid (HTx.out.step hC2 hO2 hB2)
                have HX2 := hid ((hO2.block _ _ _ HX.out (by decide) (by decide)).trans HX.out)
                clear hC2 hO2 hB2 q0 q1 q2 hlx
                rw [← HEk.out, ← HEy.out] at HT2
                have HX3 := hid ((Below.heap_alloc w2 (.cells #[.int .i64 0, .string ⟨#[]⟩, .bool false] 42) bx (lt_of_block HX2.out)).trans HX2.out)
                have HW3 := hid (box_at w2 (.cells #[.int .i64 0, .string ⟨#[]⟩, .bool false] 42))
                have HT3 := hid (HT2.out.below (below_alloc w2 (.cells #[.int .i64 0, .string ⟨#[]⟩, .bool false] 42)))
                have hwz : W.heap.size ≤ w2.heap.size := HT2.out.be.size
                go_upto_region 29 with fail
                obtain ⟨w3, hw3⟩ : ∃ w3, w3 = w2.alloc (.cells #[.int .i64 0, .string ⟨#[]⟩, .bool false] 42) := ⟨_, rfl⟩
                rw [← hw3] at HX3 HW3 HT3 ⊢
                clear hw3 HT2 HX2
                obtain ⟨bw, hbw⟩ : ∃ bw, bw = w2.heap.size := ⟨_, rfl⟩
                rw [← hbw] at HW3 hwz ⊢
                clear hbw
                obtain ⟨q0, q1, q2⟩ := three_cells HX3.out
                have hlx := lt_of_block HX3.out
                obtain ⟨b0, b1, b2⟩ := three_cells HW3.out
                have hbl := lt_of_block HW3.out
                have hbf := frees HW3.out
                obtain ⟨k0, k1, k2⟩ := HT3.out.s1.cell kk hkl
                have hal := HT3.out.s1.lt
                rw [HEk.out] at k0 k1 k2
                rw [← HEd.out] at k1
                rw [← HEt.out] at k2
                obtain ⟨kp, hkp⟩ : ∃ kp, kp = (fK P kk).1 := ⟨_, rfl⟩
                rw [← hkp] at k0
                clear hkp
                have hT4 := HT3.out.other (o := 0) HW3.out hwz (.int .i64 kp)
                have g4 := cells_set (j := 0) HW3.out (.int .i64 kp)
                have hT5 := hT4.other (o := 1) g4 hwz (.string r1)
                have g5 := cells_set (j := 1) g4 (.string r1)
                have hT6 := hT5.other (o := 2) g5 hwz (.bool r2)
                have HT6 := hid hT6
                clear hT4 g4 hT5 g5 hT6
                cases r2
                all_goals
                  have HLen := hid (HT6.out.cc.len)
                  have HHe := hid (cheld _ HT6.out.cc)
                  go_wp2_with (go_at_call 13; fail)
                  refine (HHe.out).mono ?_
                  rintro e w9 ⟨hv, rfl, hI9, hb9⟩
                  have HQ9 := hid (HT6.out.below hb9)
                  obtain ⟨ho9, hc9, rfl, hh1, hh2, _⟩ := hI9
                  rw [List.length_map] at hh1 ⊢
                  unfold maxLen at hh2
                  have hln := HLen.out.1
                  clear hb9 HHe HLen
                  go_wp2
                  go_roundw
                  case rel => exact ⟨q + 1, _, by go_num, by omega, HQ9.out⟩
                  case measure => simp [intOf]; omega
              · have hfn := find_range HRt.out hkr
                have hlk : lookR P k = (⟨#[]⟩, false, P) := by unfold lookR; rw [hfn]
                rw [hlk] at HLo
                clear hlk hfn HEk HEy
                have hcs : k < 0 ∨ (0 ≤ k ∧ ¬ k < 1024) := by omega
                rcases hcs with hk0 | ⟨hk0, hk1⟩
                all_goals
                  go_wp2_with (go_at_call 19; fail)
                  refine (HLo.out).mono ?_
                  rintro e w2 ⟨rfl, hC2, hO2, hB2⟩
                  have HT2 := hid (HTx.out.step hC2 hO2 hB2)
                  have HX2 := hid ((hO2.block _ _ _ HX.out (by decide) (by decide)).trans HX.out)
                  clear hC2 hO2 hB2 q0 q1 q2 hlx
                  have HX3 := hid ((Below.heap_alloc w2 (.cells #[.int .i64 0, .string ⟨#[]⟩, .bool false] 42) bx (lt_of_block HX2.out)).trans HX2.out)
                  have HW3 := hid (box_at w2 (.cells #[.int .i64 0, .string ⟨#[]⟩, .bool false] 42))
                  have HT3 := hid (HT2.out.below (below_alloc w2 (.cells #[.int .i64 0, .string ⟨#[]⟩, .bool false] 42)))
                  go_upto_region 29 with fail
                  obtain ⟨w3, hw3⟩ : ∃ w3, w3 = w2.alloc (.cells #[.int .i64 0, .string ⟨#[]⟩, .bool false] 42) := ⟨_, rfl⟩
                  rw [← hw3] at HX3 HW3 HT3 ⊢
                  clear hw3 HT2 HX2
                  obtain ⟨bw, hbw⟩ : ∃ bw, bw = w2.heap.size := ⟨_, rfl⟩
                  rw [← hbw] at HW3 ⊢
                  clear hbw
                  obtain ⟨q0, q1, q2⟩ := three_cells HX3.out
                  have hlx := lt_of_block HX3.out
                  obtain ⟨b0, b1, b2⟩ := three_cells HW3.out
                  have hbl := lt_of_block HW3.out
                  have HLen := hid (HT3.out.cc.len)
                  have HHe := hid (cheld _ HT3.out.cc)
                  go_wp2_with (go_at_call 13; fail)
                  refine (HHe.out).mono ?_
                  rintro e w9 ⟨hv, rfl, hI9, hb9⟩
                  have HQ9 := hid (HT3.out.below hb9)
                  obtain ⟨ho9, hc9, rfl, hh1, hh2, _⟩ := hI9
                  rw [List.length_map] at hh1 ⊢
                  unfold maxLen at hh2
                  have hln := HLen.out.1
                  clear hb9 HHe HLen
                  go_wp2
                  go_roundw
                  case rel => exact ⟨q + 1, _, by go_num, by omega, HQ9.out⟩
                  case measure => simp [intOf]; omega
          · as_aux_lemma =>
              have HLo := hid (cstore k HK.out d x0 HTx.out.cc hJ)
              have HIS := hid (fun hr => fK_store (P := P) (k := k) (d := d) hr)
              have HSS := hid (fun hr => store_same (P := P) (k := k) (d := d) hr)
              obtain ⟨R, hR⟩ : ∃ R, R = storeR P k d := ⟨_, rfl⟩
              rw [← hR] at HLo HIS HSS
              clear hR
              obtain ⟨r2, P2⟩ := R
              simp only at HLo HIS HSS
              by_cases hz : r2 = 0
              · subst hz
                obtain ⟨kk, rfl, hkl, ek, ey⟩ := HIS.out rfl
                have HEk := hid ek
                have HEy := hid ey
                clear ek ey
                go_wp2_with (go_at_call 20; fail)
                refine (HLo.out).mono ?_
                rintro e w2 ⟨rfl, hC2, hO2, hB2⟩
                have HT2 := hid (HTx.out.step hC2 hO2 hB2)
                have HX2 := hid ((hO2.block _ _ _ HX.out (by decide) (by decide)).trans HX.out)
                have HT3 := hid (HT2.out.kset (HT2.out.s1.set1 kk d))
                have HT4 := hid (HT3.out.dset kk true)
                have hne1 : bx ≠ a1 := by
                  rintro rfl
                  obtain ⟨cur, h1, _⟩ := HT2.out.s1
                  have := HX2.out
                  rw [h1] at this
                  simp at this
                clear hC2 hO2 hB2 q0 q1 q2 hlx
                obtain ⟨q0, q1, q2⟩ := three_cells HX2.out
                have hlx := lt_of_block HX2.out
                obtain ⟨k0, k1, k2⟩ := HT2.out.s1.cell kk hkl
                have hfz := HT2.out.s1.free (kk * 3 + 1)
                have hal := HT2.out.s1.lt
                rw [← HEk.out, ← HEy.out] at HT4
                go_upto_region 36 with fail
                have yo := HT3.out.s2.cell kk hkl
                have hfz3 := HT3.out.s2.free kk
                have hal3 := HT3.out.s2.lt
                have HX3 : Hid ((w2.setCell ⟨a1, kk * 3 + 1, none⟩ (.string d)).heap[bx]? = _) := hid ((Below.heap_setCell _ _ _ _ hne1).trans HX2.out)
                obtain ⟨w3, hw3⟩ : ∃ w3, w3 = w2.setCell ⟨a1, kk * 3 + 1, none⟩ (.string d) := ⟨_, rfl⟩
                rw [← hw3] at HT3 HT4 yo hfz3 hal3 HX3 ⊢
                clear hw3 q0 q1 q2 hlx k0 k1 k2 hfz hal
                obtain ⟨q0, q1, q2⟩ := three_cells HX3.out
                have hlx := lt_of_block HX3.out
                have HLen := hid (HT4.out.cc.len)
                have HHe := hid (cheld _ HT4.out.cc)
                go_wp2_with (go_at_call 13; fail)
                refine (HHe.out).mono ?_
                rintro e w9 ⟨hv, rfl, hI9, hb9⟩
                have HQ9 := hid (HT4.out.below hb9)
                obtain ⟨ho9, hc9, rfl, hh1, hh2, _⟩ := hI9
                rw [List.length_map] at hh1 ⊢
                unfold maxLen at hh2
                have hln := HLen.out.1
                clear hb9 HHe HLen
                go_wp2
                go_roundw
                case rel => exact ⟨q + 1, _, by go_num, by omega, HQ9.out⟩
                case measure => simp [intOf]; omega
              · have hzb : (r2 == 0) = false := by simp [hz]
                have hP2 := HSS.out hz
                subst hP2
                go_wp2_with (go_at_call 20; fail)
                refine (HLo.out).mono ?_
                rintro e w2 ⟨rfl, hC2, hO2, hB2⟩
                have HT2 := hid (HTx.out.step hC2 hO2 hB2)
                clear hC2 hO2 hB2
                have HLen := hid (HT2.out.cc.len)
                have HHe := hid (cheld _ HT2.out.cc)
                go_wp2_with (go_at_call 13; fail)
                refine (HHe.out).mono ?_
                rintro e w9 ⟨hv, rfl, hI9, hb9⟩
                have HQ9 := hid (HT2.out.below hb9)
                obtain ⟨ho9, hc9, rfl, hh1, hh2, _⟩ := hI9
                rw [List.length_map] at hh1 ⊢
                unfold maxLen at hh2
                have hln := HLen.out.1
                clear hb9 HHe HLen
                go_wp2
                go_roundw
                case rel => exact ⟨q + 1, _, by go_num, by omega, HQ9.out⟩
                case measure => simp [intOf]; omega
          · as_aux_lemma =>
              have HLo := hid (cpin k HK.out x0 HTx.out.cc hJ)
              unfold pinR at HLo
              cases hf : findP P k with
              | none =>
                rw [hf] at HLo
                simp only at HLo
                clear hf
                go_wp2_with (go_at_call 21; fail)
                refine (HLo.out).mono ?_
                rintro e w2 ⟨rfl, hC2, hO2, hB2⟩
                have HT2 := hid (HTx.out.step hC2 hO2 hB2)
                clear hC2 hO2 hB2
                have HLen := hid (HT2.out.cc.len)
                have HHe := hid (cheld _ HT2.out.cc)
                go_wp2_with (go_at_call 13; fail)
                refine (HHe.out).mono ?_
                rintro e w9 ⟨hv, rfl, hI9, hb9⟩
                have HQ9 := hid (HT2.out.below hb9)
                obtain ⟨ho9, hc9, rfl, hh1, hh2, _⟩ := hI9
                rw [List.length_map] at hh1 ⊢
                unfold maxLen at hh2
                have hln := HLen.out.1
                clear hb9 HHe HLen
                go_wp2
                go_roundw
                case rel => exact ⟨q + 1, _, by go_num, by omega, HQ9.out⟩
                case measure => simp [intOf]; omega
              | some f =>
                rw [hf] at HLo
                simp only at HLo
                obtain ⟨kk, rfl, hkl, ep, ek, ey⟩ := fK_set HRt.out hf (f.p + 1)
                have hfp := (HTx.out.cc.rt f (find_mem hf).1).2.2
                have hfp1 : f.p ≤ 90000 := by omega
                have hfp0 := hfp.1
                have HEk := hid ek
                have HEy := hid ey
                have HEp := hid ep
                clear ek ey ep hf hfp
                obtain ⟨P3, hP3⟩ : ∃ P3, P3 = setP P { f with p := f.p + 1 } := ⟨_, rfl⟩
                rw [← hP3] at HLo HEk HEy
                clear hP3
                obtain ⟨fp, hfp⟩ : ∃ fp, fp = f.p := ⟨_, rfl⟩
                rw [← hfp] at HEk HEp hfp1 hfp0
                clear hfp
                go_wp2_with (go_at_call 21; fail)
                refine (HLo.out).mono ?_
                rintro e w2 ⟨rfl, hC2, hO2, hB2⟩
                have HT2 := hid (HTx.out.step hC2 hO2 hB2)
                have HX2 := hid ((hO2.block _ _ _ HX.out (by decide) (by decide)).trans HX.out)
                have HT3 := hid (HT2.out.kset (HT2.out.s1.set0 kk (fp + 1)))
                clear hC2 hO2 hB2 q0 q1 q2 hlx
                obtain ⟨q0, q1, q2⟩ := three_cells HX2.out
                have hlx := lt_of_block HX2.out
                obtain ⟨k0, k1, k2⟩ := HT2.out.s1.cell kk hkl
                rw [HEp.out] at k0
                have hfz := HT2.out.s1.free (kk * 3)
                have hal := HT2.out.s1.lt
                rw [← HEk.out, ← HEy.out] at HT3
                go_upto_region 39 with fail
                go_region
                all_goals
                  replace HT3 := hid (HT3.out.drew 1)
                  have HLen := hid (HT3.out.cc.len)
                  have HHe := hid (cheld _ HT3.out.cc)
                  go_wp2_with (go_at_call 13; fail)
                  refine (HHe.out).mono ?_
                  rintro e w9 ⟨hv, rfl, hI9, hb9⟩
                  have HQ9 := hid (HT3.out.below hb9)
                  obtain ⟨ho9, hc9, rfl, hh1, hh2, _⟩ := hI9
                  rw [List.length_map] at hh1 ⊢
                  unfold maxLen at hh2
                  have hln := HLen.out.1
                  clear hb9 HHe HLen
                  go_wp2
                  go_roundw
                  case rel => exact ⟨q + 1, _, by go_num, by omega, HQ9.out⟩
                  case measure => simp [intOf]; omega
          · as_aux_lemma =>
              have HLo := hid (cunpin k HK.out x0 HTx.out.cc hJ)
              unfold unpinR at HLo
              cases hf : findP P k with
              | none =>
                rw [hf] at HLo
                simp only at HLo
                clear hf
                go_wp2_with (go_at_call 22; fail)
                refine (HLo.out).mono ?_
                rintro e w2 ⟨rfl, hC2, hO2, hB2⟩
                have HT2 := hid (HTx.out.step hC2 hO2 hB2)
                clear hC2 hO2 hB2
                have HLen := hid (HT2.out.cc.len)
                have HHe := hid (cheld _ HT2.out.cc)
                go_wp2_with (go_at_call 13; fail)
                refine (HHe.out).mono ?_
                rintro e w9 ⟨hv, rfl, hI9, hb9⟩
                have HQ9 := hid (HT2.out.below hb9)
                obtain ⟨ho9, hc9, rfl, hh1, hh2, _⟩ := hI9
                rw [List.length_map] at hh1 ⊢
                unfold maxLen at hh2
                have hln := HLen.out.1
                clear hb9 HHe HLen
                go_wp2
                go_roundw
                case rel => exact ⟨q + 1, _, by go_num, by omega, HQ9.out⟩
                case measure => simp [intOf]; omega
              | some f =>
                rw [hf] at HLo
                simp only at HLo
                by_cases hp0 : f.p = 0
                · rw [if_pos hp0] at HLo
                  simp only at HLo
                  clear hf hp0
                  go_wp2_with (go_at_call 22; fail)
                  refine (HLo.out).mono ?_
                  rintro e w2 ⟨rfl, hC2, hO2, hB2⟩
                  have HT2 := hid (HTx.out.step hC2 hO2 hB2)
                  clear hC2 hO2 hB2
                  have HLen := hid (HT2.out.cc.len)
                  have HHe := hid (cheld _ HT2.out.cc)
                  go_wp2_with (go_at_call 13; fail)
                  refine (HHe.out).mono ?_
                  rintro e w9 ⟨hv, rfl, hI9, hb9⟩
                  have HQ9 := hid (HT2.out.below hb9)
                  obtain ⟨ho9, hc9, rfl, hh1, hh2, _⟩ := hI9
                  rw [List.length_map] at hh1 ⊢
                  unfold maxLen at hh2
                  have hln := HLen.out.1
                  clear hb9 HHe HLen
                  go_wp2
                  go_roundw
                  case rel => exact ⟨q + 1, _, by go_num, by omega, HQ9.out⟩
                  case measure => simp [intOf]; omega
                · rw [if_neg hp0] at HLo
                  simp only at HLo
                  obtain ⟨kk, rfl, hkl, ep, ek, ey⟩ := fK_set HRt.out hf (f.p - 1)
                  have hfp := (HTx.out.cc.rt f (find_mem hf).1).2.2
                  have hfp1 : f.p ≤ 90000 := by omega
                  have hfp0 := hfp.1
                  have HEk := hid ek
                  have HEy := hid ey
                  have HEp := hid ep
                  clear ek ey ep hf hfp
                  obtain ⟨P3, hP3⟩ : ∃ P3, P3 = setP P { f with p := f.p - 1 } := ⟨_, rfl⟩
                  rw [← hP3] at HLo HEk HEy
                  clear hP3
                  obtain ⟨fp, hfp⟩ : ∃ fp, fp = f.p := ⟨_, rfl⟩
                  rw [← hfp] at HEk HEp hfp1 hfp0
                  clear hfp
                  go_wp2_with (go_at_call 22; fail)
                  refine (HLo.out).mono ?_
                  rintro e w2 ⟨rfl, hC2, hO2, hB2⟩
                  have HT2 := hid (HTx.out.step hC2 hO2 hB2)
                  have HX2 := hid ((hO2.block _ _ _ HX.out (by decide) (by decide)).trans HX.out)
                  have HT3 := hid (HT2.out.kset (HT2.out.s1.set0 kk (fp - 1)))
                  clear hC2 hO2 hB2 q0 q1 q2 hlx
                  obtain ⟨q0, q1, q2⟩ := three_cells HX2.out
                  have hlx := lt_of_block HX2.out
                  obtain ⟨k0, k1, k2⟩ := HT2.out.s1.cell kk hkl
                  rw [HEp.out] at k0
                  have hfz := HT2.out.s1.free (kk * 3)
                  have hal := HT2.out.s1.lt
                  rw [← HEk.out, ← HEy.out] at HT3
                  go_upto_region 42 with fail
                  go_region
                  all_goals
                    replace HT3 := hid (HT3.out.drew 1)
                    have HLen := hid (HT3.out.cc.len)
                    have HHe := hid (cheld _ HT3.out.cc)
                    go_wp2_with (go_at_call 13; fail)
                    refine (HHe.out).mono ?_
                    rintro e w9 ⟨hv, rfl, hI9, hb9⟩
                    have HQ9 := hid (HT3.out.below hb9)
                    obtain ⟨ho9, hc9, rfl, hh1, hh2, _⟩ := hI9
                    rw [List.length_map] at hh1 ⊢
                    unfold maxLen at hh2
                    have hln := HLen.out.1
                    clear hb9 HHe HLen
                    go_wp2
                    go_roundw
                    case rel => exact ⟨q + 1, _, by go_num, by omega, HQ9.out⟩
                    case measure => simp [intOf]; omega
          · as_aux_lemma =>
              have e0 : (K == 0) = false := by simp [k0]
              have e1 : (K == 1) = false := by simp [k1]
              have e2 : (K == 2) = false := by simp [k2]
              have e3 : (K == 3) = false := by simp [k3]
              have e4 : (K == 4) = false := by simp [k4]
              have e5 : (K == 5) = false := by simp [k5]
              have HTk := hid (ctake x0 HTx.out.cc)
              have HS1 : Hid (∀ f ∈ (dirtyP P).take 48, f ∈ P ∧ f.y = true) := hid (fun f hf => dirtyP_mem.1 (List.mem_of_mem_take hf))
              have HS2 : Hid ((((dirtyP P).take 48).map (·.b)).Nodup) := hid (((List.take_sublist 48 (dirtyP P)).map _).nodup (dirtyP_nd HTx.out.cc.nd))
              have HNd := hid HTx.out.cc.nd
              obtain ⟨S, hS⟩ : ∃ S, S = (dirtyP P).take 48 := ⟨_, rfl⟩
              rw [← hS] at HTk HS1 HS2
              clear hS
              obtain ⟨ek, ey⟩ := fK_clear HRt.out (fun f hf => (HS1.out f hf).1)
              have HEk := hid ek
              have HEy := hid ey
              clear ek ey
              obtain ⟨P2, hP2⟩ : ∃ P2, P2 = clearP P S := ⟨_, rfl⟩
              rw [← hP2] at HTk HEk HEy
              clear hP2
              go_wp2_with (go_at_call 23; fail)
              refine (HTk.out).mono ?_
              rintro e w2 ⟨v2, rfl, hv2, hC2, hO2, hB2⟩
              have HT2 := hid (HTx.out.step hC2 hO2 hB2)
              have HV2 := hid hv2
              obtain ⟨lo, lc, rfl, hl1, hl2, _⟩ := hv2
              rw [List.length_map] at HV2 hl1 ⊢
              unfold maxLen at hl2
              clear hC2 hO2 hB2 q0 q1 q2 hlx HTk HX
              go_wp2
              go_loopw [53] (fun i wz => ∃ t : Nat, i = .int .i64 t ∧ t ≤ S.length ∧ KQ W g a1 a2 wz N q P2 (fK P) (yS (yK P) (S.take t)) ∧ CLie wz (.slice lo S.length lc) (S.map chP)) (fun i _ => S.length - (intOf i).toNat)
              case atStart => exact ⟨0, rfl, Nat.zero_le _, HT2.out, HV2.out⟩
              case round =>
                obtain ⟨t, rfl, ht, hT3, hV3⟩ := hrel
                have HT3 := hid hT3
                have HV3 := hid hV3
                clear hT3 hV3 HT2 HV2
                by_cases htl : t < S.length
                · obtain ⟨cg, co, rfl, hcg, c0, c1⟩ := HV3.out.cell t (by simpa using htl)
                  have hsm := HS1.out S[t] (List.getElem_mem htl)
                  have hfr := HRt.out S[t] hsm.1
                  have hfi := find_in HNd.out hsm.1
                  have hts := List.take_succ_eq_append_getElem htl
                  have hno : ∀ s ∈ S.take t, s.b ≠ S[t].b := by
                    intro s hs e
                    obtain ⟨j, hj, rfl⟩ := List.getElem_of_mem hs
                    rw [List.getElem_take] at e
                    rw [List.length_take] at hj
                    have h2 := List.pairwise_iff_getElem.1 (List.pairwise_map.1 HS2.out) j t (by omega) htl (by omega)
                    exact h2 e
                  have e9 : ((S.map chP)[t]'(by simpa using htl)) = chP S[t] := by simp
                  rw [e9] at c0 c1
                  obtain ⟨f, hf⟩ : ∃ f, f = S[t] := ⟨_, rfl⟩
                  rw [← hf] at c0 c1 hfr hts hsm hfi hno
                  clear hf e9
                  obtain ⟨kk, hkk⟩ : ∃ kk : Nat, f.b = kk := ⟨f.b.toNat, by omega⟩
                  have hk2 : kk < 1024 := by omega
                  have hsn := yS_snoc (yK P) (S.take t) f
                  rw [← hts, hkk, Int.toNat_natCast] at hsn
                  have hya : yS (yK P) (S.take t) kk = true := by
                    rw [yS_at, if_neg]
                    · unfold yK
                      rw [← hkk, hfi]
                      exact hsm.2
                    · rw [List.any_eq_true]
                      rintro ⟨s, hs, e⟩
                      have h1 := HRt.out s (HS1.out s (List.mem_of_mem_take hs)).1
                      simp at e
                      exact hno s hs (by omega)
                  have hda : (fK P kk).2.1 = f.d := by
                    unfold fK
                    rw [← hkk, hfi]
                  unfold chP at c0 c1
                  simp only at c0 c1
                  rw [hkk] at c0
                  obtain ⟨fd, hfd⟩ : ∃ fd, fd = f.d := ⟨_, rfl⟩
                  rw [← hfd] at c1 hda
                  have HSN := hid hsn
                  have HYA := hid hya
                  have HDA := hid hda
                  clear hfd hsn hts hfr hkk hya hda hno hsm hfi
                  have HX4 := hid (box_at wr (.cells #[.int .i64 (kk : Int), .string fd] 52))
                  have HT4 := hid (HT3.out.below (below_alloc wr (.cells #[.int .i64 (kk : Int), .string fd] 52)))
                  have HV4 := hid (HV3.out.below (below_alloc wr (.cells #[.int .i64 (kk : Int), .string fd] 52)))
                  go_upto_region 13 with fail
                  obtain ⟨x4, hx4⟩ : ∃ x4, x4 = wr.alloc (.cells #[.int .i64 (kk : Int), .string fd] 52) := ⟨_, rfl⟩
                  rw [← hx4] at HX4 HT4 HV4 ⊢
                  clear hx4 c0 c1 hcg HT3 HV3
                  obtain ⟨b4, hb4⟩ : ∃ b4, b4 = wr.heap.size := ⟨_, rfl⟩
                  rw [← hb4] at HX4 ⊢
                  clear hb4
                  obtain ⟨z0, z1⟩ := two_cellsK HX4.out
                  have hl4 := lt_of_block HX4.out
                  have yo := HT4.out.s2.cell kk hk2
                  rw [HYA.out] at yo
                  obtain ⟨m0, m1, m2⟩ := HT4.out.s1.cell kk hk2
                  rw [HDA.out] at m1
                  have hal := HT4.out.s2.lt
                  have hal1 := HT4.out.s1.lt
                  clear m0 m2
                  have hd0 : ((kk : Int) < 0) = False := eq_false (by omega)
                  have hd1 : ((1023 : Int) < (kk : Int)) = False := eq_false (by omega)
                  have hd2 : decide ((kk : Int) < 0) = false := decide_eq_false (by omega)
                  have hd3 : decide ((1023 : Int) < (kk : Int)) = false := decide_eq_false (by omega)
                  go_quiet ((fail))
                  have HT5 := hid ((HT4.out.drew nq).dset kk false)
                  have HV5 : Hid (CLie ((x4.drewN nq).setCell ⟨a2, kk, none⟩ (.bool false)) _ (S.map chP)) := hid ((HV4.out.below (w' := x4.drewN nq) ⟨rfl, rfl, rfl, Nat.le_refl _, fun _ _ => rfl⟩).df (HT4.out.drew nq).s2 kk (.bool false))
                  rw [← HSN.out] at HT5
                  have hfz := (HT4.out.drew nq).s2.free kk
                  go_wp2
                  go_roundw
                  case rel => exact ⟨t + 1, by go_num, by omega, HT5.out, HV5.out⟩
                  case measure => simp [intOf]; omega
                · have hte : t = S.length := by omega
                  subst hte
                  rw [List.take_length, ← HEk.out, ← HEy.out] at HT3
                  have HLen := hid (HT3.out.cc.len)
                  have HHe := hid (cheld _ HT3.out.cc)
                  go_wp2_with (go_at_call 13; fail)
                  refine (HHe.out).mono ?_
                  rintro e w9 ⟨hv, rfl, hI9, hb9⟩
                  have HQ9 := hid (HT3.out.below hb9)
                  obtain ⟨ho9, hc9, rfl, hh1, hh2, _⟩ := hI9
                  rw [List.length_map] at hh1 ⊢
                  unfold maxLen at hh2
                  have hln := HLen.out.1
                  clear hb9 HHe HLen
                  go_wp2
                  go_roundw
                  case rel => exact ⟨q + 1, _, by go_num, by omega, HQ9.out.more (by omega) (by omega)⟩
                  case measure => simp [intOf]; omega
        · go_wp2_with (first
            | (go_at_call 10; refine (HSp.out _).mono ?_; rintro e w2 ⟨rfl, hb2⟩))
          go_ret
          exact ⟨rfl, HT.out.be.next hb2⟩
  · have HNew := hid (new_bad n hn W)
    clear hn
    go_enter Try.func4, Try.ntmps4
    go_wp2_with (first
      | (go_at_call 8; refine (HNew.out).mono ?_; rintro e w1 ⟨rfl, hw⟩; have hw := hw.symm; subst hw)
      | (go_at_call 10; refine (HSp.out _).mono ?_; rintro e w2 ⟨rfl, hb2⟩))
    go_ret
    exact ⟨by simp, hb2⟩
end Go.Proofs.Ytfjoajcfpldniaa
