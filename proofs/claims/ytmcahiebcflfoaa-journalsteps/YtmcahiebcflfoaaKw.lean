import Derived.Test.YtmcahiebcflfoaaKe
import Derived.Test.YtmcahiebcflfoaaOs
namespace Go.Proofs.Ytmcahiebcflfoaa
open Go.RowKit Go.Maps
theorem kindz (K : Int) : (K = 0 ∨ K = 1) ∨ K = 2 ∨ K = 3 ∨ (K ≠ 0 ∧ K ≠ 1 ∧ K ≠ 2 ∧ K ≠ 3) := by omega
/-- both journals behind some steps -/
def PJ (B g g' : Nat) (P : Int) (m : Nat) (w : World) : Prop :=
  ∃ r r' T F S sz vs, PS B g g' r r' w P T F S sz T F S vs ∧ vs.map szOf = sz ∧ JOk P T F S sz m
theorem map_len {vs : List Value} {sz : List Int} (h : vs.map szOf = sz) : vs.length = sz.length := by rw [← h, List.length_map]
set_option maxRecDepth 100000 in
set_option maxHeartbeats 8000000 in
theorem steps_walk (n : Int) (v : Value) (l : List Stp) (W : World) (hl : TLie W v l) : Calls Try.prog 3 #[.int .i64 n, v] W fun e w' => e = .returned (.bool true) ∧ Below W.heap.size W w' := by
  obtain ⟨ao, cap, rfl, hlc, hcm, hcell⟩ := hl
  have HC := hid hcell
  clear hcell
  have HSp := hid (fun w => speaks_any w)
  unfold maxLen at hcm
  by_cases hn : 8 ≤ n ∧ n ≤ 256
  · have HNew := hid (new_j n W hn)
    have HNew' := hid (fun w => refNew_j n w hn)
    have HOk0 := hid (JOk.new hn)
    obtain ⟨P, hP⟩ : ∃ P, P = n - 1 := ⟨_, rfl⟩
    rw [← hP] at HNew HNew' HOk0
    clear hP
    by_cases hl3 : 300 < l.length
    · clear hn
      go_enter Try.func3, Try.ntmps3
      go_wp2_with (first
        | (go_at_call 9; refine (HNew.out).mono ?_; rintro e w1 ⟨rfl, hj1, hb1⟩; clear hj1)
        | (go_at_call 10; refine (HNew'.out _).mono ?_; rintro e w2 ⟨rfl, hj2, hb2⟩; clear hj2)
        | (go_at_call 11; refine (HSp.out _).mono ?_; rintro e w3 ⟨rfl, hb3⟩))
      go_ret
      exact ⟨rfl, (hb1.next hb2).next hb3⟩
    · obtain ⟨g, hg⟩ : ∃ g, g = W.heap.size := ⟨_, rfl⟩
      have HG := hid hg
      rw [← hg] at HNew
      clear hg
      go_enter Try.func3, Try.ntmps3
      go_wp2_with (first
        | (go_at_call 9; refine (HNew.out).mono ?_; rintro e w1 ⟨rfl, hj1, hb1⟩; have HJ1 := hid hj1; have HB1 := hid hb1; clear hj1 hb1)
        | (go_at_call 10; fail))
      obtain ⟨g', hg'⟩ : ∃ g', g' = w1.heap.size := ⟨_, rfl⟩
      have HNw := hid (HNew'.out w1)
      rw [← hg'] at HNw
      refine (HNw.out).mono ?_
      rintro e w2 ⟨rfl, hj2, hb2⟩
      have hg1 := HJ1.out.lt.1
      have HB2 : Hid (Below W.heap.size W w2) := by
        have k1 := HB1.out
        rw [HG.out] at k1
        refine hid (k1.next ?_)
        rw [← hg']
        exact hb2
      have HPJ : Hid (PJ W.heap.size g g' P 0 w2) := by
        refine hid ⟨none, none, 0, 1, 0, [], [], ⟨HJ1.out.below (by rw [← hg']; exact hb2), hj2, by omega, (by intro e; cases e), (by intro e; cases e), (by intro x hx; cases hx), Nat.le_of_eq HG.out.symm, ?_, (by intro x hx; cases hx), (by intro x hx; cases hx)⟩, rfl, HOk0.out⟩
        have := HG.out
        omega
      clear hj2 hb2 hg' HNw
      go_wp2
      go_loopw [53] (fun i wr => ∃ j : Nat, i = .int .i64 j ∧ j ≤ l.length ∧ PJ W.heap.size g g' P j wr ∧ Below W.heap.size W wr) (fun i _ => l.length - (intOf i).toNat)
      case atStart => exact ⟨0, rfl, Nat.zero_le _, HPJ.out, HB2.out⟩
      case round =>
        obtain ⟨j, rfl, hj, hJ, hB⟩ := hrel
        have HB := hid hB
        obtain ⟨r, r', T, F, S, sz, vs, hR, hE, hO⟩ := hJ
        have HR := hid hR
        have HO := hid hO
        have HE := hid hE
        have hvl := map_len hE
        clear hR hO hB hE HB1 HB2 HPJ HJ1 HNew HNew'
        by_cases hlt : j < l.length
        · obtain ⟨bb, off, rfl, hbW, s0, s1, s2, s3⟩ := HC.out j hlt
          obtain ⟨y, hy⟩ : ∃ y, y = l[j] := ⟨_, rfl⟩
          rw [← hy] at s0 s1 s2 s3
          clear hy
          obtain ⟨K, N, lv, L⟩ := y
          simp only at s0 s1 s2 s3
          have HL := hid s3
          obtain ⟨la, lcap, rfl, _, _, _⟩ := s3
          have t0 := (HB.out.cell (p := ⟨bb, off + j * 3, none⟩) hbW).trans s0
          have t1 := (HB.out.cell (p := ⟨bb, off + j * 3 + 1, none⟩) hbW).trans s1
          have t2 := (HB.out.cell (p := ⟨bb, off + j * 3 + 2, none⟩) hbW).trans s2
          have hbr : bb < wr.heap.size := Nat.lt_of_lt_of_le hbW HB.out.size
          clear s0 s1 s2
          have HBx := hid (below_alloc wr (.cells #[.int .i64 K, .int .i64 N, .slice la L.length lcap] 33))
          have HX := hid (box_at wr (.cells #[.int .i64 K, .int .i64 N, .slice la L.length lcap] 33))
          go_upto_block 2 with fail
          have HRx := hid (HR.out.keep HBx.out)
          have HWx := hid (HB.out.next HBx.out)
          have hzx : (wr.alloc (.cells #[.int .i64 K, .int .i64 N, .slice la L.length lcap] 33)).heap.size = wr.heap.size + 1 := by simp
          obtain ⟨x0, hx0⟩ : ∃ x0, x0 = wr.alloc (.cells #[.int .i64 K, .int .i64 N, .slice la L.length lcap] 33) := ⟨_, rfl⟩
          rw [← hx0] at HRx HWx HX hzx ⊢
          clear hx0 t0 t1 t2 hbr HBx
          have hO := HO.out
          have o1 := hO.p0
          have o2 := hO.p1
          have o3 := hO.t
          have o4 := hO.f
          have o5 := hO.fm
          have o6 := hO.s
          have o7 := hO.len
          have o8 := hO.sum
          have HNN := hid hO.nn
          clear hO
          have HGX : Hid (JApart g r x0 wr.heap.size ∧ JApart g' r' x0 wr.heap.size) := by
            have a1 := HR.out.js.lt
            have a2 := HR.out.rk.lt
            refine hid ⟨⟨by omega, by omega, fun e => ?_⟩, ⟨by omega, by omega, fun e => ?_⟩⟩
            · have := (a1.2 _ e.symm).1
              omega
            · have := (a2.2 _ e.symm).1
              omega
          go_cut [] (fun wx => PJ W.heap.size g g' P (j + 1) wx ∧ Below W.heap.size W wx)
          case first =>
            obtain ⟨q0, q1, q2⟩ := three_cells HX.out
            have hlx0 := lt_of_block HX.out
            rcases kindz K with hk | rfl | rfl | ⟨k0, k1, k2, k3⟩
            · by_cases hr : right L = true
              · by_cases hs : sumI sz + L.length + 1 ≤ P
                · have HA := hid (jappend g r P T F S sz _ L o1 (by omega) o3 o4 (by omega) (by omega) HNN.out hs hr x0 HRx.out.js (HL.out.below HWx.out))
                  have HA' := hid (fun w h hL => refAppend_ok g' r' P T F S vs (.slice la L.length lcap) L o1 (by omega) o3 o4 (by omega) (by omega) (by rw [HE.out]; exact hs) hr w h hL)
                  rw [HE.out, hvl] at HA'
                  obtain ⟨WL, hWL⟩ : ∃ WL, WL = wrL P (T + sumI sz) (encL (F + sz.length) L) := ⟨_, rfl⟩
                  rw [← hWL] at HA HA'
                  clear hWL
                  rcases hk with rfl | rfl
                  all_goals
                    go_wp2_with (go_at_call 12; fail)
                    refine (HA.out).mono ?_
                    rintro e w2 ⟨wb, r1, rfl, hwb, hwr, hcl, hj2, hn2, hf2⟩
                    obtain ⟨hR2, hB2⟩ := HRx.out.jstep hj2 hn2 hf2
                    have HR2 := hid hR2
                    have HB2 := hid (HWx.out.trans hB2)
                    have HX2 := hid ((HGX.out.1.next hn2 hf2).2.trans HX.out)
                    have HCL := hid hcl
                    have hwb2 : wb < w2.heap.size := by
                      obtain ⟨_, _, e0, _, _, hcc⟩ := hcl
                      injection e0 with e1 e2 e3
                      obtain ⟨gb, of9, e4, hgb, _⟩ := hcc 0 (by omega)
                      rw [← e1] at e4
                      injection e4 with e5
                      injection e5 with e6 e7
                      omega
                    have HAp : Hid (JApart g' r' w2 wb) := by
                      have a2 := HRx.out.rk.lt
                      refine hid ⟨hwb2, by omega, fun e => ?_⟩
                      have := (a2.2 _ e.symm).1
                      omega
                    clear hR2 hB2 hcl hj2 hn2 hf2 q0 q1 q2 hwb2 hwb hwr
                    obtain ⟨q0, q1, q2⟩ := three_cells HX2.out
                    have hlx := lt_of_block HX2.out
                    go_wp2_with (go_at_call 13; fail)
                    refine (HA'.out _ HR2.out.rk (HL.out.below HB2.out)).mono ?_
                    rintro e w3 ⟨wv, r2, rfl, hcl3, hk3, hn3, hf3⟩
                    obtain ⟨hR3, hB3⟩ := HR2.out.kstep hk3 hn3 hf3
                    have HR3 := hid hR3
                    have HB3 := hid (HB2.out.trans hB3)
                    have HCL3 := hid (HCL.out.same hf3.size (by intro x hx; cases hx; exact (HAp.out.next hn3 hf3).2))
                    have HCL4 := hid hcl3
                    clear hR3 hB3 hk3 hn3 hf3 q0 q1 q2 hcl3
                    go_wp2_with (first | (go_at_call 14; refine (writes_same _ _ WL _ HCL3.out HCL4.out).mono ?_; rintro e w4 ⟨rfl, hb4⟩; have HR4 := hid (HR3.out.keep hb4); have HB4 := hid (HB3.out.next hb4); clear hb4))
                    go_meet
                    refine ⟨⟨r1, r2, T, F, S, _, _, HR4.out, ?_, HO.out.push hs⟩, HB4.out⟩
                    rw [List.map_append, HE.out]
                    rfl
                · have HA := hid (jappend_full g r P T F S sz _ L o1 (by omega) o4 (by omega) (by omega) HNN.out o8 (by omega) hr x0 HRx.out.js (HL.out.below HWx.out))
                  have HA' := hid (fun w h hL => refAppend_full g' r' P T F S vs (.slice la L.length lcap) L o1 (by omega) (by omega) (by omega) (by rw [HE.out]; exact o8) (by rw [HE.out]; omega) hr w h hL)
                  rcases hk with rfl | rfl
                  all_goals
                    go_wp2_with (first
                      | (go_at_call 12; refine (HA.out).mono ?_; rintro e w2 ⟨rfl, hb2⟩; have HR2 := hid (HRx.out.keep hb2); have HB2 := hid (HWx.out.next hb2); have HX2 := hid ((hb2.block _ hlx0).trans HX.out); clear hb2 q0 q1 q2; obtain ⟨q0, q1, q2⟩ := three_cells HX2.out; have hlx := lt_of_block HX2.out)
                      | (go_at_call 13; refine (HA'.out _ HR2.out.rk (HL.out.below HB2.out)).mono ?_; rintro e w3 ⟨rfl, hb3⟩; have HR3 := hid (HR2.out.keep hb3); have HB3 := hid (HB2.out.next hb3); clear hb3)
                      | (go_at_call 14; refine (writes_nil _).mono ?_; rintro e w4 ⟨rfl, hb4⟩; have HR4 := hid (HR3.out.keep hb4); have HB4 := hid (HB3.out.next hb4); clear hb4))
                    go_meet
                    exact ⟨⟨r, r', T, F, S, sz, vs, HR4.out, HE.out, HO.out.more (by omega)⟩, HB4.out⟩
              · have HA := hid (jappend_txn g _ L (by simpa using hr) x0 (HL.out.below HWx.out))
                have HA' := hid (fun w hL => refAppend_txn g' (.slice la L.length lcap) L (by simpa using hr) w hL)
                rcases hk with rfl | rfl
                all_goals
                  go_wp2_with (first
                    | (go_at_call 12; refine (HA.out).mono ?_; rintro e w2 ⟨rfl, hb2⟩; have HR2 := hid (HRx.out.keep hb2); have HB2 := hid (HWx.out.next hb2); have HX2 := hid ((hb2.block _ hlx0).trans HX.out); clear hb2 q0 q1 q2; obtain ⟨q0, q1, q2⟩ := three_cells HX2.out; have hlx := lt_of_block HX2.out)
                    | (go_at_call 13; refine (HA'.out _ (HL.out.below HB2.out)).mono ?_; rintro e w3 ⟨rfl, hb3⟩; have HR3 := hid (HR2.out.keep hb3); have HB3 := hid (HB2.out.next hb3); clear hb3)
                    | (go_at_call 14; refine (writes_nil _).mono ?_; rintro e w4 ⟨rfl, hb4⟩; have HR4 := hid (HR3.out.keep hb4); have HB4 := hid (HB3.out.next hb4); clear hb4))
                  go_meet
                  exact ⟨⟨r, r', T, F, S, sz, vs, HR4.out, HE.out, HO.out.more (by omega)⟩, HB4.out⟩
            · by_cases hN : 0 ≤ N ∧ N ≤ S
              · obtain ⟨k, rfl⟩ : ∃ k : Nat, N = k := ⟨N.toNat, by omega⟩
                have hT' : ((((T : Int) + sumI (sz.take k)) % P).toNat : Int) = ((T : Int) + sumI (sz.take k)) % P := Int.toNat_of_nonneg (Int.emod_nonneg _ (by omega))
                obtain ⟨T', e'⟩ : ∃ T', T' = (((T : Int) + sumI (sz.take k)) % P).toNat := ⟨_, rfl⟩
                rw [← e'] at hT'
                clear e'
                have hkS : k ≤ S := by omega
                have HA := hid (jdone g r P T F S sz k T' o1 (by omega) o3 (by omega) hkS o6 (by omega) HNN.out o8 hT' x0 HRx.out.js)
                have HA' := hid (fun w h => refDone_j g' r' P T F S vs k T' o1 (by omega) o3 (by omega) hkS (by omega) (by omega) (by rw [HE.out]; exact hT') w h)
                have HO' := hid (HO.out.done hkS hT')
                clear hT' hN
                obtain ⟨U, hU⟩ : ∃ U, U = hdB T' (F + k) (F + S) := ⟨_, rfl⟩
                rw [← hU] at HA HA'
                clear hU
                go_wp2_with (go_at_call 15; fail)
                refine (HA.out).mono ?_
                rintro e w2 ⟨rfl, hj2, hf2⟩
                obtain ⟨hR2, hB2⟩ := HRx.out.jstep hj2 (.inl rfl) hf2
                have HX2 := hid ((HGX.out.1.next (.inl rfl) hf2).2.trans HX.out)
                have HR3 := hid (hR2.keep (below_alloc w2 (.cells #[.int .i64 0, .string U] 42)))
                have HB3 := hid ((HWx.out.trans hB2).next (below_alloc w2 (.cells #[.int .i64 0, .string U] 42)))
                have HX3 := hid ((Below.heap_alloc w2 (.cells #[.int .i64 0, .string U] 42) _ (lt_of_block HX2.out)).trans HX2.out)
                have HY3 := hid (box_at w2 (.cells #[.int .i64 0, .string U] 42))
                have HAp : Hid (JApart g' r' (w2.alloc (.cells #[.int .i64 0, .string U] 42)) w2.heap.size) := by
                  have a2 := hR2.rk.lt
                  refine hid ⟨by simp, by omega, fun e => ?_⟩
                  have := (a2.2 _ e.symm).1
                  omega
                clear hR2 hB2 hj2 hf2 q0 q1 q2
                obtain ⟨q0, q1, q2⟩ := three_cells HX3.out
                have hlx := lt_of_block HX2.out
                go_wp2_with (go_at_call 16; fail)
                refine (HA'.out _ HR3.out.rk).mono ?_
                rintro e w4 ⟨rfl, hj4, hf4⟩
                obtain ⟨hR4, hB4⟩ := HR3.out.kstep hj4 (.inl rfl) hf4
                have HY4 := hid ((HAp.out.next (.inl rfl) hf4).2.trans HY3.out)
                have HR5 := hid (hR4.keep (below_alloc w4 (.cells #[.int .i64 0, .string U] 45)))
                have HB5 := hid ((HB3.out.trans hB4).next (below_alloc w4 (.cells #[.int .i64 0, .string U] 45)))
                have HY5 := hid ((Below.heap_alloc w4 (.cells #[.int .i64 0, .string U] 45) _ (lt_of_block HY4.out)).trans HY4.out)
                clear hR4 hB4 hj4 hf4 q0 q1 q2
                obtain ⟨y0, y1⟩ := two_cells HY5.out
                have hly := lt_of_block HY4.out
                go_wp2
                go_meet
                refine ⟨⟨r, r', T', F + k, S - k, sz.drop k, vs.drop k, HR5.out, by rw [List.map_drop, HE.out], HO'.out.more (by omega)⟩, HB5.out⟩
              · have HA := hid (jdone_no g r P T F S sz N o1 hN x0 HRx.out.js)
                have HA' := hid (fun w h => refDone_no g' r' P T F S vs N hN w h)
                clear hN
                go_wp2_with (go_at_call 15; fail)
                refine (HA.out).mono ?_
                rintro e w2 ⟨rfl, hb2⟩
                have HX2 := hid ((hb2.block _ hlx0).trans HX.out)
                have HR3 := hid ((HRx.out.keep hb2).keep (below_alloc w2 (.cells #[.int .i64 0, .string ⟨#[]⟩] 42)))
                have HB3 := hid ((HWx.out.next hb2).next (below_alloc w2 (.cells #[.int .i64 0, .string ⟨#[]⟩] 42)))
                have HX3 := hid ((Below.heap_alloc w2 (.cells #[.int .i64 0, .string ⟨#[]⟩] 42) _ (lt_of_block HX2.out)).trans HX2.out)
                have HY3 := hid (box_at w2 (.cells #[.int .i64 0, .string ⟨#[]⟩] 42))
                clear hb2 q0 q1 q2
                obtain ⟨q0, q1, q2⟩ := three_cells HX3.out
                have hlx := lt_of_block HX2.out
                go_wp2_with (go_at_call 16; fail)
                refine (HA'.out _ HR3.out.rk).mono ?_
                rintro e w4 ⟨rfl, hb4⟩
                have HY4 := hid ((hb4.block _ (lt_of_block HY3.out)).trans HY3.out)
                have HR5 := hid ((HR3.out.keep hb4).keep (below_alloc w4 (.cells #[.int .i64 0, .string ⟨#[]⟩] 45)))
                have HB5 := hid ((HB3.out.next hb4).next (below_alloc w4 (.cells #[.int .i64 0, .string ⟨#[]⟩] 45)))
                have HY5 := hid ((Below.heap_alloc w4 (.cells #[.int .i64 0, .string ⟨#[]⟩] 45) _ (lt_of_block HY4.out)).trans HY4.out)
                clear hb4 q0 q1 q2
                obtain ⟨y0, y1⟩ := two_cells HY5.out
                have hly := lt_of_block HY4.out
                go_wp2
                go_meet
                exact ⟨⟨r, r', T, F, S, sz, vs, HR5.out, HE.out, HO.out.more (by omega)⟩, HB5.out⟩
            · have HA := hid (jseal g r P T F S sz o1 (by omega) (by omega) x0 HRx.out.js)
              have HA' := hid (fun w h => refSeal_j g' r' P T F S vs (by omega) (by omega) w h)
              rw [hvl] at HA'
              obtain ⟨U, hU⟩ : ∃ U, U = hdB T F (F + sz.length) := ⟨_, rfl⟩
              rw [← hU] at HA HA'
              clear hU
              go_wp2_with (go_at_call 17; fail)
              refine (HA.out).mono ?_
              rintro e w2 ⟨rfl, hj2, hf2⟩
              obtain ⟨hR2, hB2⟩ := HRx.out.jstep hj2 (.inl rfl) hf2
              have HR3 := hid (hR2.keep (below_alloc w2 (.cells #[.int .i64 0, .string U] 42)))
              have HB3 := hid ((HWx.out.trans hB2).next (below_alloc w2 (.cells #[.int .i64 0, .string U] 42)))
              have HY3 := hid (box_at w2 (.cells #[.int .i64 0, .string U] 42))
              have HAp : Hid (JApart g' r' (w2.alloc (.cells #[.int .i64 0, .string U] 42)) w2.heap.size) := by
                have a2 := hR2.rk.lt
                refine hid ⟨by simp, by omega, fun e => ?_⟩
                have := (a2.2 _ e.symm).1
                omega
              clear hR2 hB2 hj2 hf2 q0 q1 q2
              go_wp2_with (go_at_call 18; fail)
              refine (HA'.out _ HR3.out.rk).mono ?_
              rintro e w4 ⟨rfl, hj4, hf4⟩
              obtain ⟨hR4, hB4⟩ := HR3.out.kstep hj4 (.inl rfl) hf4
              have HY4 := hid ((HAp.out.next (.inl rfl) hf4).2.trans HY3.out)
              have HR5 := hid (hR4.keep (below_alloc w4 (.cells #[.int .i64 0, .string U] 45)))
              have HB5 := hid ((HB3.out.trans hB4).next (below_alloc w4 (.cells #[.int .i64 0, .string U] 45)))
              have HY5 := hid ((Below.heap_alloc w4 (.cells #[.int .i64 0, .string U] 45) _ (lt_of_block HY4.out)).trans HY4.out)
              clear hR4 hB4 hj4 hf4
              obtain ⟨y0, y1⟩ := two_cells HY5.out
              have hly := lt_of_block HY4.out
              go_wp2
              go_meet
              exact ⟨⟨r, r', T, F, sz.length, sz, vs, HR5.out, HE.out, HO.out.seal.more (by omega)⟩, HB5.out⟩
            · go_wp2
              go_meet
              exact ⟨⟨r, r', T, F, S, sz, vs, HRx.out, HE.out, HO.out.more (by omega)⟩, HWx.out⟩
          case rest =>
            obtain ⟨⟨r3, r3', T3, F3, S3, sz3, vs3, hR3, hE3, hO3⟩, hB3⟩ := hcut
            rename World => w3
            have HR3 := hid hR3
            have HO3 := hid hO3
            have HB3 := hid hB3
            have HE3 := hid hE3
            have hvl3 := map_len hE3
            clear hR3 hB3 o1 o2 o3 o4 o5 o6 o7 o8 HNN HGX HRx HWx HX hzx HR HO HB HE hvl
            have p1 := hO3.p0
            have p2 := hO3.p1
            have p3 := hO3.t
            have p4 := hO3.f
            have p5 := hO3.fm
            have p6 := hO3.s
            have p7 := hO3.len
            have p8 := hO3.sum
            have p9 := hO3.nn
            have HCt := hid (jcount g r3 P T3 F3 S3 sz3 p1)
            have HFe := hid (jfree g r3 P T3 F3 S3 sz3 p1 (by omega) p9 p8)
            have HNx := hid (jnext g r3 P T3 F3 S3 sz3 p1 (by omega) (by omega))
            have HHd := hid (jheader g r3 P T3 F3 S3 sz3 p1 (by omega) (by omega))
            have HFe' := hid (refFree_j g' r3' P T3 F3 S3 vs3 (by omega) (by omega) (by rw [hE3]; exact p8))
            have HNx' := hid (refNext_j g' r3' P T3 F3 S3 vs3 (by omega) (by omega))
            have HHd' := hid (refHeader_j g' r3' P T3 F3 S3 vs3 (by omega) (by omega))
            rw [hE3] at HFe'
            rw [hvl3] at HNx'
            obtain ⟨U, hU⟩ : ∃ U, U = hdB T3 F3 (F3 + S3) := ⟨_, rfl⟩
            rw [← hU] at HHd HHd'
            obtain ⟨A, hA⟩ : ∃ A, A = sumI sz3 := ⟨_, rfl⟩
            rw [← hA] at HFe HFe'
            clear hO3 p9 hU hA hE3
            go_wp2_with (first
              | (go_at_call 19; refine (HCt.out _ HR3.out.js).mono ?_; rintro e w4 ⟨rfl, q4, hw⟩; have hw := hw.symm; subst hw; have HR4 : Hid (PS W.heap.size g g' r3 r3' (w3.drewN q4) P T3 F3 S3 sz3 T3 F3 S3 vs3) := hid (HR3.out.keep ⟨rfl, rfl, rfl, Nat.le_refl _, fun _ _ => rfl⟩); have HB4 : Hid (Below W.heap.size W (w3.drewN q4)) := hid (HB3.out.next ⟨rfl, rfl, rfl, Nat.le_refl _, fun _ _ => rfl⟩))
              | (go_at_call 20; refine (HHd.out _ HR4.out.js).mono ?_; rintro e w5 ⟨rfl, hb5⟩; have HR5 := hid (HR4.out.keep hb5); have HB5 := hid (HB4.out.next hb5); clear hb5)
              | (go_at_call 21; refine (HHd'.out _ HR5.out.rk).mono ?_; rintro e w6 ⟨rfl, hb6⟩; have HR6 := hid (HR5.out.keep hb6); have HB6 := hid (HB5.out.next hb6); clear hb6)
              | (go_at_call 22; refine (HFe.out _ HR6.out.js).mono ?_; rintro e w7 ⟨rfl, q7, hw⟩; have hw := hw.symm; subst hw; have HR7 : Hid (PS W.heap.size g g' r3 r3' (w6.drewN q7) P T3 F3 S3 sz3 T3 F3 S3 vs3) := hid (HR6.out.keep ⟨rfl, rfl, rfl, Nat.le_refl _, fun _ _ => rfl⟩); have HB7 : Hid (Below W.heap.size W (w6.drewN q7)) := hid (HB6.out.next ⟨rfl, rfl, rfl, Nat.le_refl _, fun _ _ => rfl⟩))
              | (go_at_call 23; refine (HFe'.out _ HR7.out.rk).mono ?_; rintro e w8 ⟨rfl, hw⟩; have hw := hw.symm; subst hw; obtain ⟨Lv, _, hI, hV, _⟩ := HR7.out.rk; obtain ⟨lo, lc, rfl, _, _⟩ := hV.len; rw [hvl3] at hI; obtain ⟨c0, c1, c2, c3, c4⟩ := hI.cells; have hlg := hI.lt)
              | (go_at_call 24; refine (HNx.out _ HR7.out.js).mono ?_; rintro e w9 ⟨rfl, q9, hw⟩; have hw := hw.symm; subst hw)
              | (go_at_call 25; refine (HNx'.out _ (by exact HR6.out.rk.drew _)).mono ?_; rintro e w10 ⟨rfl, q10, hw⟩; have hw := hw.symm; subst hw))
            go_roundw
            case rel => exact ⟨j + 1, by go_num, by omega, ⟨r3, r3', T3, F3, S3, sz3, vs3, HR6.out.keep ⟨rfl, rfl, rfl, Nat.le_refl _, fun _ _ => rfl⟩, HE3.out, HO3.out⟩, HB6.out.next ⟨rfl, rfl, rfl, Nat.le_refl _, fun _ _ => rfl⟩⟩
            case measure => simp [intOf]; omega
        · go_wp2_with (first
            | (go_at_call 11; refine (HSp.out _).mono ?_; rintro e w2 ⟨rfl, hb2⟩))
          go_ret
          exact ⟨rfl, HB.out.next hb2⟩
  · have HNew := hid (new_jno n W hn)
    have HNew' := hid (fun w => refNew_jno n w hn)
    clear hn
    go_enter Try.func3, Try.ntmps3
    go_wp2_with (first
      | (go_at_call 9; refine (HNew.out).mono ?_; rintro e w1 ⟨rfl, hw⟩; have hw := hw.symm; subst hw)
      | (go_at_call 10; refine (HNew'.out _).mono ?_; rintro e w1 ⟨rfl, hw⟩; have hw := hw.symm; subst hw)
      | (go_at_call 11; refine (HSp.out _).mono ?_; rintro e w2 ⟨rfl, hb2⟩))
    go_ret
    exact ⟨rfl, hb2⟩
end Go.Proofs.Ytmcahiebcflfoaa
