import Derived.Test.YtmcahiebcflfoaaJr
namespace Go.Proofs.Ytmcahiebcflfoaa
open Go.RowKit Go.Maps
theorem kinds (K : Int) : (K = 0 ∨ K = 1) ∨ K = 2 ∨ K = 3 ∨ (K ≠ 0 ∧ K ≠ 1 ∧ K ≠ 2 ∧ K ≠ 3) := by omega
/-- the journal of JournalRoom behind some steps, and what it counted -/
def RJ (B g : Nat) (P : Int) (m : Nat) (sv nx : Value) (w : World) : Prop :=
  ∃ r T F S sz, RS B g r w P T F S sz sv sz ∧ JOk P T F S sz m ∧ nx = .int .i64 ((F : Int) + (sz.length : Int))
set_option maxRecDepth 100000 in
set_option maxHeartbeats 4000000 in
theorem room_walk (n : Int) (v : Value) (l : List Stp) (W : World) (hl : TLie W v l) : Calls Try.prog 8 #[.int .i64 n, v] W fun e w' => e = .returned (.bool true) ∧ Below W.heap.size W w' := by
  have HT := hid hl
  obtain ⟨ao, cap, rfl, hlc, hcm, hcell⟩ := hl
  have HC := hid hcell
  clear hcell
  have HSp := hid (fun w => speaks_any w)
  by_cases hn : 8 ≤ n ∧ n ≤ 256
  · have HNew := hid (new_j n W hn)
    have HOk0 := hid (JOk.new hn)
    unfold maxLen at hcm
    by_cases hl3 : 300 < l.length
    · clear hn
      go_enter Try.func8, Try.ntmps8
      go_wp2_with (first
        | (go_at_call 9; refine (HNew.out).mono ?_; rintro e w1 ⟨rfl, hj1, hb1⟩)
        | (go_at_call 11; refine (HSp.out _).mono ?_; rintro e w2 ⟨rfl, hb2⟩))
      go_ret
      exact ⟨rfl, hb1.next hb2⟩
    · obtain ⟨g, hg⟩ : ∃ g, g = W.heap.size := ⟨_, rfl⟩
      have HG := hid hg
      rw [← hg] at HNew
      clear hg
      obtain ⟨P, hP⟩ : ∃ P, P = n - 1 := ⟨_, rfl⟩
      rw [← hP] at HNew HOk0
      have HPn := hid hP
      clear hP
      go_enter Try.func8, Try.ntmps8
      go_wp2_with (first
        | (go_at_call 9; fail))
      refine (HNew.out).mono ?_
      rintro e w1 ⟨rfl, hj1, hb1⟩
      have HB1 : Hid (Below W.heap.size W w1) := hid (by rw [← HG.out]; exact hb1)
      have HJ1 : Hid (RJ W.heap.size g P 0 (.slice none 0 0) (.int .i64 1) w1) := hid ⟨none, 0, 1, 0, [], ⟨hj1, ORow.nil _, (by intro x hx; cases hx), Nat.le_of_eq HG.out.symm, (by intro x hx; cases hx), (by intro x hx; cases hx)⟩, HOk0.out, rfl⟩
      clear hj1 hb1
      go_wp2
      go_loopw [7, 8, 46] (fun sv nx i wr => ∃ j : Nat, i = .int .i64 j ∧ j ≤ l.length ∧ RJ W.heap.size g P j sv nx wr ∧ Below W.heap.size W wr) (fun _ _ i _ => l.length - (intOf i).toNat)
      case atStart => exact ⟨0, rfl, Nat.zero_le _, HJ1.out, HB1.out⟩
      case round =>
        obtain ⟨j, rfl, hj, hJ, hB⟩ := hrel
        have HB := hid hB
        obtain ⟨r, T, F, S, sz, hR, hO, rfl⟩ := hJ
        have HR := hid hR
        have HO := hid hO
        clear hR hO hB HJ1 HB1 HNew
        by_cases hlt : j < l.length
        · obtain ⟨bb, off, rfl, hbW, s0, s1, s2, s3⟩ := HC.out j hlt
          obtain ⟨y, hy⟩ : ∃ y, y = l[j] := ⟨_, rfl⟩
          rw [← hy] at s0 s1 s2 s3
          clear hy
          obtain ⟨K, N, lv, L⟩ := y
          simp only at s0 s1 s2 s3
          have HL := hid (s3.below HB.out)
          obtain ⟨la, lcap, rfl, _, _, _⟩ := s3
          have t0 := (HB.out.cell (p := ⟨bb, off + j * 3, none⟩) hbW).trans s0
          have t1 := (HB.out.cell (p := ⟨bb, off + j * 3 + 1, none⟩) hbW).trans s1
          have t2 := (HB.out.cell (p := ⟨bb, off + j * 3 + 2, none⟩) hbW).trans s2
          have hbr : bb < wr.heap.size := Nat.lt_of_lt_of_le hbW HB.out.size
          clear s0 s1 s2
          have HBx := hid (below_alloc wr (.cells #[.int .i64 K, .int .i64 N, .slice la L.length lcap] 33))
          have HX := hid (box_at wr (.cells #[.int .i64 K, .int .i64 N, .slice la L.length lcap] 33))
          go_upto_block 2 with fail
          have HRx := hid (HR.out.keep HBx.out)
          have HLx := hid (HL.out.below HBx.out)
          have HWx := hid (HB.out.next HBx.out)
          have hzx : (wr.alloc (.cells #[.int .i64 K, .int .i64 N, .slice la L.length lcap] 33)).heap.size = wr.heap.size + 1 := by simp
          obtain ⟨x0, hx0⟩ : ∃ x0, x0 = wr.alloc (.cells #[.int .i64 K, .int .i64 N, .slice la L.length lcap] 33) := ⟨_, rfl⟩
          rw [← hx0] at HRx HLx HWx HX hzx ⊢
          clear hx0 t0 t1 t2 hbr HBx HL
          have hO := HO.out
          have o1 := hO.p0
          have o2 := hO.p1
          have o3 := hO.t
          have o4 := hO.f
          have o5 := hO.fm
          have o6 := hO.s
          have o7 := hO.len
          have o8 := hO.sum
          have HNN := hid hO.nn
          clear hO
          have hgx := HRx.out.js.lt
          have HGX : Hid (wr.heap.size ≠ g ∧ some wr.heap.size ≠ r) := by
            have := HR.out.js.lt
            refine hid ⟨by omega, fun e => ?_⟩
            have := (this.2 _ e.symm).1
            omega
          go_cut [7, 8] (fun sv nx wx => RJ W.heap.size g P (j + 1) sv nx wx ∧ Below W.heap.size W wx)
          case first =>
            obtain ⟨q0, q1, q2⟩ := three_cells HX.out
            rcases kinds K with hk | rfl | rfl | ⟨k0, k1, k2, k3⟩
            · by_cases hr : right L = true
              · by_cases hs : sumI sz + L.length + 1 ≤ P
                · have HA := hid (jappend g r P T F S sz _ L o1 (by omega) o3 o4 (by omega) (by omega) HNN.out hs hr x0 HRx.out.js HLx.out)
                  rcases hk with rfl | rfl
                  all_goals
                    go_wp2_with (go_at_call 12; fail)
                    refine (HA.out).mono ?_
                    rintro e w2 ⟨wb, r', rfl, hwb, hwr, hcl, hj2, hn2, hf2⟩
                    obtain ⟨hR2, hB2⟩ := HRx.out.jstep hj2 hn2 hf2
                    have HR2 := hid hR2
                    have HB2 := hid (HWx.out.trans hB2)
                    clear hR2 hB2 hcl hj2 hn2 hf2 q0 q1 q2
                    go_wp2_with (first
                      | (at_builtin; refine pushO (w0 := w2) rfl (.tmp 64) (.tmp 67) rfl w2.heap.size _ sz ((L.length : Int) + 1) rfl rfl rfl HR2.out.row (by omega) ?_; intro v7 w7 hr7 hg7 hn7; obtain ⟨hR7, hB7⟩ := HR2.out.vstep hr7 hg7 hn7; have HR7 := hid hR7; have HB7 := hid (HB2.out.trans hB7); clear hr7 hg7 hn7 hR7 hB7))
                    go_meet
                    refine ⟨⟨r', T, F, S, _, HR7.out, HO.out.push hs, ?_⟩, HB7.out⟩
                    congr 1
                    simp
                    omega
                · have HA := hid (jappend_full g r P T F S sz _ L o1 (by omega) o4 (by omega) (by omega) HNN.out o8 (by omega) hr x0 HRx.out.js HLx.out)
                  rcases hk with rfl | rfl
                  all_goals
                    go_wp2_with (first
                      | (go_at_call 12; refine (HA.out).mono ?_; rintro e w2 ⟨rfl, hb2⟩; have HR2 := hid (HRx.out.keep hb2); have HB2 := hid (HWx.out.next hb2); clear hb2))
                    go_meet
                    exact ⟨⟨r, T, F, S, sz, HR2.out, HO.out.more (by omega), rfl⟩, HB2.out⟩
              · have HA := hid (jappend_txn g _ L (by simpa using hr) x0 HLx.out)
                rcases hk with rfl | rfl
                all_goals
                  go_wp2_with (first
                    | (go_at_call 12; refine (HA.out).mono ?_; rintro e w2 ⟨rfl, hb2⟩; have HR2 := hid (HRx.out.keep hb2); have HB2 := hid (HWx.out.next hb2); clear hb2))
                  go_meet
                  exact ⟨⟨r, T, F, S, sz, HR2.out, HO.out.more (by omega), rfl⟩, HB2.out⟩
            · by_cases hN : 0 ≤ N ∧ N ≤ S
              · obtain ⟨k, rfl⟩ : ∃ k : Nat, N = k := ⟨N.toNat, by omega⟩
                have hT' : ((((T : Int) + sumI (sz.take k)) % P).toNat : Int) = ((T : Int) + sumI (sz.take k)) % P := Int.toNat_of_nonneg (Int.emod_nonneg _ (by omega))
                obtain ⟨T', e'⟩ : ∃ T', T' = (((T : Int) + sumI (sz.take k)) % P).toNat := ⟨_, rfl⟩
                rw [← e'] at hT'
                clear e'
                have hkS : k ≤ S := by omega
                have HA := hid (jdone g r P T F S sz k T' o1 (by omega) o3 (by omega) hkS o6 (by omega) HNN.out o8 hT' x0 HRx.out.js)
                have HO' := hid (HO.out.done hkS hT')
                clear hT' hN
                obtain ⟨sa, scap, rfl, hs1, hs2⟩ := HRx.out.row.len
                obtain ⟨ca, cm, cm', hcut, hcown, hcrow⟩ := ORow.cut (k := k) HRx.out.row hs1 hs2 (by omega)
                have HCO := hid hcown
                have HCR := hid hcrow
                clear hcown hcrow
                go_wp2_with (go_at_call 15; fail)
                refine (HA.out).mono ?_
                rintro e w2 ⟨rfl, hj2, hf2⟩
                have HX2 := hid ((hf2.block wr.heap.size (by omega) HGX.out.1 HGX.out.2).trans HX.out)
                obtain ⟨hR2, hB2⟩ := HRx.out.jstep hj2 (.inl rfl) hf2
                obtain ⟨U, hU⟩ : ∃ U, U = hdB T' (F + k) (F + S) := ⟨_, rfl⟩
                rw [← hU]
                have HR3 := hid (hR2.keep (below_alloc w2 (.cells #[.int .i64 0, .string U] 42)))
                have HB3 := hid ((HWx.out.trans hB2).next (below_alloc w2 (.cells #[.int .i64 0, .string U] 42)))
                have HX3 := hid ((Below.heap_alloc w2 (.cells #[.int .i64 0, .string U] 42) _ (lt_of_block HX2.out)).trans HX2.out)
                clear hR2 hB2 hj2 hf2 q0 q1 q2 hU
                obtain ⟨q0, q1, q2⟩ := three_cells HX3.out
                have hlx := lt_of_block HX2.out
                go_wp2
                go_meet
                refine ⟨⟨r, T', F + k, S - k, sz.drop k, HR3.out.reslice (HCR.out _ HR3.out.row) HCO.out, HO'.out.more (by omega), ?_⟩, HB3.out⟩
                congr 1
                rw [List.length_drop]
                omega
              · have HA := hid (jdone_no g r P T F S sz N o1 hN x0 HRx.out.js)
                clear hN
                go_wp2_with (first
                  | (go_at_call 15; refine (HA.out).mono ?_; rintro e w2 ⟨rfl, hb2⟩; have HR2 := hid ((HRx.out.keep hb2).keep (below_alloc w2 (.cells #[.int .i64 0, .string ⟨#[]⟩] 42))); have HB2 := hid ((HWx.out.next hb2).next (below_alloc w2 (.cells #[.int .i64 0, .string ⟨#[]⟩] 42))); clear hb2))
                go_meet
                exact ⟨⟨r, T, F, S, sz, HR2.out, HO.out.more (by omega), rfl⟩, HB2.out⟩
            · have HA := hid (jseal g r P T F S sz o1 (by omega) (by omega) x0 HRx.out.js)
              go_wp2_with (go_at_call 17; fail)
              refine (HA.out).mono ?_
              rintro e w2 ⟨rfl, hj2, hf2⟩
              obtain ⟨hR2, hB2⟩ := HRx.out.jstep hj2 (.inl rfl) hf2
              have HR2 := hid hR2
              have HB2 := hid (HWx.out.trans hB2)
              clear hR2 hB2 hj2 hf2 q0 q1 q2
              go_wp2
              go_meet
              exact ⟨⟨r, T, F, sz.length, sz, HR2.out, HO.out.seal.more (by omega), rfl⟩, HB2.out⟩
            · go_wp2
              go_meet
              exact ⟨⟨r, T, F, S, sz, HRx.out, HO.out.more (by omega), rfl⟩, HWx.out⟩
          case rest =>
            obtain ⟨⟨r3, T3, F3, S3, sz3, hR3, hO3, rfl⟩, hB3⟩ := hcut
            rename World => w3
            have HR3 := hid hR3
            have HO3 := hid hO3
            have HB3 := hid hB3
            clear hR3 hB3 o1 o2 o3 o4 o5 o6 o7 o8 HNN hgx HGX HRx HLx HWx HX hzx HR HO HB
            have p1 := hO3.p0
            have p2 := hO3.p1
            have p4 := hO3.f
            have p5 := hO3.fm
            have p6 := hO3.s
            have p7 := hO3.len
            have p8 := hO3.sum
            have p9 := hO3.nn
            have HNN := hid p9
            have HCt := hid (jcount g r3 P T3 F3 S3 sz3 p1)
            have HFe := hid (jfree g r3 P T3 F3 S3 sz3 p1 (by omega) p9 p8)
            have HNx := hid (jnext g r3 P T3 F3 S3 sz3 p1 (by omega) (by omega))
            clear hO3 p9
            have HL3 := hid HR3.out.row.lie
            obtain ⟨sa, scap, rfl, hs1, hs2⟩ := HR3.out.row.len
            unfold maxLen at hs2
            have h0 := sumI_nn HNN.out
            obtain ⟨A, hA⟩ : ∃ A, A = sumI sz3 := ⟨_, rfl⟩
            rw [← hA] at p8 h0 HFe
            have HA := hid hA
            clear hA
            have hPn := HPn.out
            go_wp2
            go_loopw [15, 97] (fun s i wz => ∃ (q : Nat) (t : Int), i = .int .i64 q ∧ q ≤ sz3.length ∧ s = .int .i64 t ∧ t = sumI (sz3.take q) ∧ wz = w3) (fun _ i _ => sz3.length - (intOf i).toNat)
            case atStart => exact ⟨0, 0, rfl, Nat.zero_le _, rfl, rfl, rfl⟩
            case round =>
              obtain ⟨q, t, rfl, hq, rfl, ht, hw⟩ := hrel
              subst hw
              have HTt := hid ht
              have hb := sumI_take HNN.out q
              rw [← ht, ← HA.out] at hb
              clear ht
              by_cases hqk : q < sz3.length
              · obtain ⟨sa', scap', e, _, _, hcs⟩ := HL3.out
                injection e with e1 e2 e3
                subst e1 e3
                obtain ⟨gb, off', e, hgl, c0⟩ := hcs q hqk
                subst e
                have hb2 := sumI_take HNN.out (q + 1)
                have HS : Hid (sumI (sz3.take (q + 1)) = t + sz3[q]) := by show _ = _; rw [List.take_succ_eq_append_getElem hqk, sumI_snoc, HTt.out]
                rw [HS.out, ← HA.out] at hb2
                obtain ⟨x, hx⟩ : ∃ x, x = sz3[q] := ⟨_, rfl⟩
                rw [← hx] at c0 hb2 HS
                clear hx hcs
                go_wp2
                go_roundw
                case rel => exact ⟨q + 1, t + x, by go_num, by omega, rfl, HS.out.symm, trivial⟩
                case measure => simp [intOf]; omega
              · have hqe : q = sz3.length := by omega
                subst hqe
                rw [List.take_length] at HTt
                have e : t = A := by rw [HTt.out, HA.out]
                subst e
                go_wp2_with (first
                  | (go_at_call 19; refine (HCt.out _ HR3.out.js).mono ?_; rintro e w4 ⟨rfl, q4, hw⟩; have hw := hw.symm; subst hw)
                  | (go_at_call 22; refine (HFe.out _ (by exact HR3.out.js.drew _)).mono ?_; rintro e w5 ⟨rfl, q5, hw⟩; have hw := hw.symm; subst hw)
                  | (go_at_call 24; refine (HNx.out _ (by exact HR3.out.js.drew _)).mono ?_; rintro e w6 ⟨rfl, q6, hw⟩; have hw := hw.symm; subst hw))
                go_roundw
                case rel => exact ⟨j + 1, by go_num, by omega, ⟨r3, T3, F3, S3, sz3, HR3.out.keep ⟨rfl, rfl, rfl, Nat.le_refl _, fun _ _ => rfl⟩, HO3.out, rfl⟩, HB3.out.next ⟨rfl, rfl, rfl, Nat.le_refl _, fun _ _ => rfl⟩⟩
                case measure => simp [intOf]; omega
        · go_wp2_with (first
            | (go_at_call 11; refine (HSp.out _).mono ?_; rintro e w2 ⟨rfl, hb2⟩))
          go_ret
          exact ⟨rfl, HB.out.next hb2⟩
  · have HNew := hid (new_jno n W hn)
    clear hn
    unfold maxLen at hcm
    go_enter Try.func8, Try.ntmps8
    go_wp2_with (first
      | (go_at_call 9; refine (HNew.out).mono ?_; rintro e w1 ⟨rfl, hw⟩; have hw := hw.symm; subst hw)
      | (go_at_call 11; refine (HSp.out _).mono ?_; rintro e w2 ⟨rfl, hb2⟩))
    go_ret
    exact ⟨rfl, hb2⟩
end Go.Proofs.Ytmcahiebcflfoaa
