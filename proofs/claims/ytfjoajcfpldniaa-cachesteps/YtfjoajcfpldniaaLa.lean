import Derived.Test.YtfjoajcfpldniaaCr
import Derived.Test.YtfjoajcfpldniaaOs
namespace Go.Proofs.Ytfjoajcfpldniaa
open Go.RowKit Go.Maps

theorem three_cells {w : World} {g : Nat} {a b c : Value} {t : TypeId} (hh : w.heap[g]? = some (.cells #[a, b, c] t (0, 0))) : w.cell? ⟨g, 0, none⟩ = some a ∧ w.cell? ⟨g, 1, none⟩ = some b ∧ w.cell? ⟨g, 2, none⟩ = some c := by
  refine ⟨?_, ?_, ?_⟩ <;> simp [World.cell?, hh]
theorem find_last {Q : List Fm} {f : Fm} (hn : ((Q ++ [f]).map (·.b)).Nodup) : findP (Q ++ [f]) f.b = some f := by
  unfold findP
  rw [List.find?_append]
  have : Q.find? (fun x => x.b == f.b) = none := by
    rw [List.find?_eq_none]
    intro x hx e
    rw [List.map_append, List.nodup_append] at hn
    exact hn.2.2 x.b (List.mem_map_of_mem hx) f.b (by simp) (by simpa using e)
  rw [this]
  simp
theorem look_last {Q : List Fm} {f : Fm} (hn : ((Q ++ [f]).map (·.b)).Nodup) : ∃ P2, lookR (Q ++ [f]) f.b = (f.d, true, P2) := by
  unfold lookR
  rw [find_last hn]
  exact ⟨_, rfl⟩
theorem load_last {N : Nat} {P : List Fm} {k : Int} {d : ByteArray} (h : (loadR N P k d).2.1 = 0) : ∃ Q, (loadR N P k d).2.2 = Q ++ [⟨k, 0, false, d⟩] := by
  unfold loadR at *
  split at h
  · simp at h
  · rename_i hb
    rw [if_neg hb]
    split at h
    · simp at h
    · split at h
      · rename_i hl
        rw [if_pos hl]
        exact ⟨_, rfl⟩
      · rename_i hl
        rw [if_neg hl]
        split at h
        · simp at h
        · exact ⟨_, rfl⟩
theorem look_some {P : List Fm} {k : Int} (h : (lookR P k).2.1 = true) : ∃ Q f, (lookR P k).2.2 = Q ++ [f] ∧ f.b = k ∧ f.d = (lookR P k).1 := by
  unfold lookR at *
  cases hf : findP P k with
  | none => rw [hf] at h; cases h
  | some f =>
    refine ⟨_, f, rfl, ?_, rfl⟩
    unfold findP at hf
    simpa using List.find?_some hf
theorem store_last {P : List Fm} {k : Int} {d : ByteArray} (h : (storeR P k d).1 = 0) : ∃ Q f, (storeR P k d).2 = Q ++ [f] ∧ f.b = k ∧ f.d = d := by
  unfold storeR at *
  split at h
  · simp at h
  · rename_i hb
    rw [if_neg hb]
    cases hf : findP P k with
    | none => rw [hf] at h; cases h
    | some f =>
      refine ⟨_, { f with d := d, y := true }, rfl, ?_, rfl⟩
      unfold findP at hf
      simpa using List.find?_some hf
theorem kindq (K : Int) : (K = 0 ∨ K = 1) ∨ K = 2 ∨ K = 3 ∨ K = 6 ∨ (K ≠ 0 ∧ K ≠ 1 ∧ K ≠ 2 ∧ K ≠ 3 ∧ K ≠ 6) := by omega
theorem _root_.Go.RowKit.Below.drewN {B : Nat} {w w' : World} (h : Below B w w') (n : Nat) : Below B w (w'.drewN n) := ⟨h.os, h.tape, h.output, h.size, h.block⟩
set_option maxRecDepth 100000 in
set_option maxHeartbeats 8000000 in
theorem last_walk (n : Int) (v : Value) (l : List Stp) (W : World) (hl : TLie W v l) : Calls Try.prog 7 #[.int .i64 n, v] W fun e w' => e = .returned (.bool true) ∧ Below W.heap.size W w' := by
  have HSp := hid (fun w => speaks_any w)
  obtain ⟨ao, cap, rfl, hlc, hcm, hcell⟩ := hl
  have HC0 := hid hcell
  clear hcell
  unfold maxLen at hcm
  by_cases hn : 1 ≤ n ∧ n ≤ 64
  · obtain ⟨N, rfl⟩ : ∃ N : Nat, n = (N : Int) := ⟨n.toNat, by omega⟩
    have hN : 1 ≤ N ∧ N ≤ 64 := by omega
    have HNew := hid (cnew N hN.1 hN.2 W.heap.size W (Nat.le_refl _))
    clear hn
    by_cases hl3 : 300 < l.length
    · go_enter Try.func7, Try.ntmps7
      go_wp2_with (go_at_call 8; fail)
      refine (HNew.out).mono ?_
      rintro e w1 ⟨g, rfl, hC, hB⟩
      go_wp2_with (first
        | (go_at_call 10; refine (HSp.out _).mono ?_; rintro e w2 ⟨rfl, hb2⟩))
      go_ret
      exact ⟨by simp, hB.next hb2⟩
    · go_enter Try.func7, Try.ntmps7
      go_wp2_with (go_at_call 8; fail)
      refine (HNew.out).mono ?_
      rintro e w1 ⟨g, rfl, hC, hB⟩
      have HC1 := hid hC
      have HB1 := hid hB
      clear hC hB HNew
      go_wp2
      go_loopw [44] (fun i wr => ∃ (q : Nat) (P : List Fm), i = .int .i64 q ∧ q ≤ l.length ∧ CC W.heap.size g wr N (3 * q) P ∧ Below W.heap.size W wr) (fun i _ => l.length - (intOf i).toNat)
      case atStart => exact ⟨0, [], rfl, Nat.zero_le _, HC1.out, HB1.out⟩
      case round =>
        obtain ⟨q, P, rfl, hq, hC, hB⟩ := hrel
        have HC := hid hC
        have HB := hid hB
        clear hC hB HC1 HB1
        by_cases hlt : q < l.length
        · obtain ⟨bb, off, rfl, hbW, s0, s1, s2, s3⟩ := HC0.out q hlt
          obtain ⟨y, hy⟩ : ∃ y, y = l[q] := ⟨_, rfl⟩
          rw [← hy] at s0 s1 s2 s3
          clear hy
          obtain ⟨K, k, d⟩ := y
          simp only at s0 s1 s2 s3
          have HK := hid s3
          have t0 := (HB.out.cell (p := ⟨bb, off + q * 3, none⟩) hbW).trans s0
          have t1 := (HB.out.cell (p := ⟨bb, off + q * 3 + 1, none⟩) hbW).trans s1
          have t2 := (HB.out.cell (p := ⟨bb, off + q * 3 + 2, none⟩) hbW).trans s2
          have hbr : bb < wr.heap.size := Nat.lt_of_lt_of_le hbW HB.out.size
          clear s0 s1 s2 s3
          have HBx := hid (below_alloc wr (.cells #[.int .i64 K, .int .i64 k, .string d] 32))
          have HX := hid (box_at wr (.cells #[.int .i64 K, .int .i64 k, .string d] 32))
          have HCx := hid (HC.out.below HBx.out)
          have HWx := hid (HB.out.next HBx.out)
          go_upto_region 7 with fail
          obtain ⟨x0, hx0⟩ : ∃ x0, x0 = wr.alloc (.cells #[.int .i64 K, .int .i64 k, .string d] 32) := ⟨_, rfl⟩
          rw [← hx0] at HX HCx HWx ⊢
          clear hx0 t0 t1 t2 hbr HBx HC HB
          obtain ⟨bx, hbx⟩ : ∃ bx, bx = wr.heap.size := ⟨_, rfl⟩
          rw [← hbx] at HX ⊢
          clear hbx
          obtain ⟨q0, q1, q2⟩ := three_cells HX.out
          have hlx := lt_of_block HX.out
          have hJ : 3 * q + 1 ≤ 90000 := by omega
          rcases kindq K with hk | rfl | rfl | rfl | ⟨k0, k1, k2, k3, k6⟩
          · have HLo := hid (cload k HK.out d x0 HCx.out hJ)
            have HLL := hid (fun h => load_last (N := N) (P := P) (k := k) (d := d) h)
            obtain ⟨R, hR⟩ : ∃ R, R = loadR N P k d := ⟨_, rfl⟩
            rw [← hR] at HLo HLL
            clear hR
            obtain ⟨r1, r2, P2⟩ := R
            simp only at HLo HLL
            have hkk : (K == 0) = true ∨ ((K == 0) = false ∧ (K == 1) = true) := by
              rcases hk with rfl | rfl
              · exact .inl rfl
              · exact .inr ⟨rfl, rfl⟩
            clear hk
            by_cases hz : r2 = 0
            · subst hz
              obtain ⟨Q, rfl⟩ := HLL.out rfl
              obtain ⟨f, hf⟩ : ∃ f : Fm, f = ⟨k, 0, false, d⟩ := ⟨_, rfl⟩
              rw [← hf] at HLo
              have hfb : f.b = k := by rw [hf]
              have hfd : f.d = d := by rw [hf]
              clear hf
              subst hfb hfd
              rcases hkk with e0 | ⟨e0, e1⟩
              all_goals
                go_wp2_with (go_at_call 18; fail)
                refine (HLo.out).mono ?_
                rintro e w2 ⟨rfl, hC2, hO2, hB2⟩
                have HC2 := hid hC2
                have HX2 := hid ((hO2.block _ _ _ HX.out (by decide) (by decide)).trans HX.out)
                have HB2 := hid (HWx.out.trans hB2)
                clear hC2 hO2 hB2 q0 q1 q2 hlx
                obtain ⟨q0, q1, q2⟩ := three_cells HX2.out
                have hlx := lt_of_block HX2.out
                have HN9 := hid (HC2.out.nd)
                obtain ⟨P9, hP9⟩ := look_last HN9.out
                have HHe := hid (cheld _ HC2.out)
                rw [List.map_append, List.map_cons, List.map_nil] at HHe
                go_wp2_with (go_at_call 13; fail)
                refine (HHe.out).mono ?_
                rintro e w3 ⟨hv, rfl, hI, hb3⟩
                have HI := hid hI
                have HB3 := hid (HB2.out.next hb3)
                have HX3 := hid ((hb3.block _ (lt_of_block HX2.out)).trans HX2.out)
                have HLk := hid (clook f.b HK.out w3 (HC2.out.below hb3) (by omega))
                rw [hP9] at HLk
                obtain ⟨ho, hc, rfl, hh1, hh2, _⟩ := hI
                rw [List.length_append, List.length_map, List.length_singleton] at hh1 HI ⊢
                unfold maxLen at hh2
                obtain ⟨z0, z1, z2⟩ := three_cells HX3.out
                have hlx3 := lt_of_block HX3.out
                clear hb3 HN9 HHe hP9
                go_wp2_with (go_at_call 19; fail)
                refine (HLk.out).mono ?_
                rintro e w4 ⟨rfl, hC4, hO4, hB4⟩
                have HI4 := hid (HI.out.oc hO4)
                have HX4 := hid ((hO4.block _ _ _ HX3.out (by decide) (by decide)).trans HX3.out)
                have HB4 := hid (HB3.out.trans hB4)
                have HC4 := hid (hC4.more (J' := 3 * (q + 1)) (by omega) (by omega))
                clear hC4 hO4 hB4 z0 z1 z2 hlx3 HLk
                obtain ⟨hg, hof, rfl, hgl, hce⟩ := HI4.out.cell Q.length (by simp)
                rw [List.getElem_append_right (by simp)] at hce
                simp only [List.length_map, Nat.sub_self, List.getElem_cons_zero] at hce
                obtain ⟨z0, z1, z2⟩ := three_cells HX4.out
                have hlx4 := lt_of_block HX4.out
                have hQ0 : ((Q.length : Int) + 1 == 0) = false := beq_eq_false_iff_ne.2 (by omega)
                go_wp2
                go_quiet ((fail))
                go_wp2
                go_roundw
                case rel => exact ⟨q + 1, _, by go_num, by omega, HC4.out.below ⟨rfl, rfl, rfl, Nat.le_refl _, fun _ _ => rfl⟩, HB4.out.drewN _⟩
                case measure => simp [intOf]; omega
            · have hzb : (r2 == 0) = false := by simp [hz]
              rcases hkk with e0 | ⟨e0, e1⟩
              all_goals
                go_wp2_with (first
                  | (go_at_call 18; refine (HLo.out).mono ?_; rintro e w2 ⟨rfl, hC2, hO2, hB2⟩))
                go_roundw
                case rel => exact ⟨q + 1, _, by go_num, by omega, hC2.more (by omega) (by omega), HWx.out.trans hB2⟩
                case measure => simp [intOf]; omega
          · have HLo := hid (clook k HK.out x0 HCx.out hJ)
            have HLL := hid (fun h => look_some (P := P) (k := k) h)
            obtain ⟨R, hR⟩ : ∃ R, R = lookR P k := ⟨_, rfl⟩
            rw [← hR] at HLo HLL
            clear hR
            obtain ⟨r1, r2, P2⟩ := R
            simp only at HLo HLL
            cases r2 with
            | true =>
              obtain ⟨Q, f, rfl, rfl, rfl⟩ := HLL.out rfl
              go_wp2_with (go_at_call 19; fail)
              refine (HLo.out).mono ?_
              rintro e w2 ⟨rfl, hC2, hO2, hB2⟩
              have HC2 := hid hC2
              have HX2 := hid ((hO2.block _ _ _ HX.out (by decide) (by decide)).trans HX.out)
              have HB2 := hid (HWx.out.trans hB2)
              clear hC2 hO2 hB2 q0 q1 q2 hlx
              obtain ⟨q0, q1, q2⟩ := three_cells HX2.out
              have hlx := lt_of_block HX2.out
              have HN9 := hid (HC2.out.nd)
              obtain ⟨P9, hP9⟩ := look_last HN9.out
              have HHe := hid (cheld _ HC2.out)
              rw [List.map_append, List.map_cons, List.map_nil] at HHe
              go_wp2_with (go_at_call 13; fail)
              refine (HHe.out).mono ?_
              rintro e w3 ⟨hv, rfl, hI, hb3⟩
              have HI := hid hI
              have HB3 := hid (HB2.out.next hb3)
              have HX3 := hid ((hb3.block _ (lt_of_block HX2.out)).trans HX2.out)
              have HLk := hid (clook f.b HK.out w3 (HC2.out.below hb3) (by omega))
              rw [hP9] at HLk
              obtain ⟨ho, hc, rfl, hh1, hh2, _⟩ := hI
              rw [List.length_append, List.length_map, List.length_singleton] at hh1 HI ⊢
              unfold maxLen at hh2
              obtain ⟨z0, z1, z2⟩ := three_cells HX3.out
              have hlx3 := lt_of_block HX3.out
              clear hb3 HN9 HHe hP9
              go_wp2_with (go_at_call 19; fail)
              refine (HLk.out).mono ?_
              rintro e w4 ⟨rfl, hC4, hO4, hB4⟩
              have HI4 := hid (HI.out.oc hO4)
              have HX4 := hid ((hO4.block _ _ _ HX3.out (by decide) (by decide)).trans HX3.out)
              have HB4 := hid (HB3.out.trans hB4)
              have HC4 := hid (hC4.more (J' := 3 * (q + 1)) (by omega) (by omega))
              clear hC4 hO4 hB4 z0 z1 z2 hlx3 HLk
              obtain ⟨hg, hof, rfl, hgl, hce⟩ := HI4.out.cell Q.length (by simp)
              rw [List.getElem_append_right (by simp)] at hce
              simp only [List.length_map, Nat.sub_self, List.getElem_cons_zero] at hce
              obtain ⟨z0, z1, z2⟩ := three_cells HX4.out
              have hlx4 := lt_of_block HX4.out
              have hQ0 : ((Q.length : Int) + 1 == 0) = false := beq_eq_false_iff_ne.2 (by omega)
              go_wp2
              go_quiet ((fail))
              go_wp2
              go_roundw
              case rel => exact ⟨q + 1, _, by go_num, by omega, HC4.out.below ⟨rfl, rfl, rfl, Nat.le_refl _, fun _ _ => rfl⟩, HB4.out.drewN _⟩
              case measure => simp [intOf]; omega
            | false =>
              go_wp2_with (first
                | (go_at_call 19; refine (HLo.out).mono ?_; rintro e w2 ⟨rfl, hC2, hO2, hB2⟩))
              go_roundw
              case rel => exact ⟨q + 1, _, by go_num, by omega, hC2.more (by omega) (by omega), HWx.out.trans hB2⟩
              case measure => simp [intOf]; omega
          · have HLo := hid (cstore k HK.out d x0 HCx.out hJ)
            have HLL := hid (fun h => store_last (P := P) (k := k) (d := d) h)
            obtain ⟨R, hR⟩ : ∃ R, R = storeR P k d := ⟨_, rfl⟩
            rw [← hR] at HLo HLL
            clear hR
            obtain ⟨r2, P2⟩ := R
            simp only at HLo HLL
            by_cases hz : r2 = 0
            · subst hz
              obtain ⟨Q, f, rfl, rfl, rfl⟩ := HLL.out rfl
              go_wp2_with (go_at_call 20; fail)
              refine (HLo.out).mono ?_
              rintro e w2 ⟨rfl, hC2, hO2, hB2⟩
              have HC2 := hid hC2
              have HX2 := hid ((hO2.block _ _ _ HX.out (by decide) (by decide)).trans HX.out)
              have HB2 := hid (HWx.out.trans hB2)
              clear hC2 hO2 hB2 q0 q1 q2 hlx
              obtain ⟨q0, q1, q2⟩ := three_cells HX2.out
              have hlx := lt_of_block HX2.out
              have HN9 := hid (HC2.out.nd)
              obtain ⟨P9, hP9⟩ := look_last HN9.out
              have HHe := hid (cheld _ HC2.out)
              rw [List.map_append, List.map_cons, List.map_nil] at HHe
              go_wp2_with (go_at_call 13; fail)
              refine (HHe.out).mono ?_
              rintro e w3 ⟨hv, rfl, hI, hb3⟩
              have HI := hid hI
              have HB3 := hid (HB2.out.next hb3)
              have HX3 := hid ((hb3.block _ (lt_of_block HX2.out)).trans HX2.out)
              have HLk := hid (clook f.b HK.out w3 (HC2.out.below hb3) (by omega))
              rw [hP9] at HLk
              obtain ⟨ho, hc, rfl, hh1, hh2, _⟩ := hI
              rw [List.length_append, List.length_map, List.length_singleton] at hh1 HI ⊢
              unfold maxLen at hh2
              obtain ⟨z0, z1, z2⟩ := three_cells HX3.out
              have hlx3 := lt_of_block HX3.out
              clear hb3 HN9 HHe hP9
              go_wp2_with (go_at_call 19; fail)
              refine (HLk.out).mono ?_
              rintro e w4 ⟨rfl, hC4, hO4, hB4⟩
              have HI4 := hid (HI.out.oc hO4)
              have HX4 := hid ((hO4.block _ _ _ HX3.out (by decide) (by decide)).trans HX3.out)
              have HB4 := hid (HB3.out.trans hB4)
              have HC4 := hid (hC4.more (J' := 3 * (q + 1)) (by omega) (by omega))
              clear hC4 hO4 hB4 z0 z1 z2 hlx3 HLk
              obtain ⟨hg, hof, rfl, hgl, hce⟩ := HI4.out.cell Q.length (by simp)
              rw [List.getElem_append_right (by simp)] at hce
              simp only [List.length_map, Nat.sub_self, List.getElem_cons_zero] at hce
              obtain ⟨z0, z1, z2⟩ := three_cells HX4.out
              have hlx4 := lt_of_block HX4.out
              have hQ0 : ((Q.length : Int) + 1 == 0) = false := beq_eq_false_iff_ne.2 (by omega)
              go_wp2
              go_quiet ((fail))
              go_wp2
              go_roundw
              case rel => exact ⟨q + 1, _, by go_num, by omega, HC4.out.below ⟨rfl, rfl, rfl, Nat.le_refl _, fun _ _ => rfl⟩, HB4.out.drewN _⟩
              case measure => simp [intOf]; omega
            · have hzb : (r2 == 0) = false := by simp [hz]
              go_wp2_with (first
                | (go_at_call 20; refine (HLo.out).mono ?_; rintro e w2 ⟨rfl, hC2, hO2, hB2⟩))
              go_roundw
              case rel => exact ⟨q + 1, _, by go_num, by omega, hC2.more (by omega) (by omega), HWx.out.trans hB2⟩
              case measure => simp [intOf]; omega
          · have HTk := hid (ctake x0 HCx.out)
            go_wp2_with (first
              | (go_at_call 23; refine (HTk.out).mono ?_; rintro e w2 ⟨v2, rfl, _, hC2, hO2, hB2⟩))
            go_roundw
            case rel => exact ⟨q + 1, _, by go_num, by omega, hC2.more (by omega) (by omega), HWx.out.trans hB2⟩
            case measure => simp [intOf]; omega
          · have e0 : (K == 0) = false := by simp [k0]
            have e1 : (K == 1) = false := by simp [k1]
            have e2 : (K == 2) = false := by simp [k2]
            have e3 : (K == 3) = false := by simp [k3]
            have e6 : (K == 6) = false := by simp [k6]
            go_wp2
            go_roundw
            case rel => exact ⟨q + 1, P, by go_num, by omega, HCx.out.more (by omega) (by omega), HWx.out⟩
            case measure => simp [intOf]; omega
        · go_wp2_with (first
            | (go_at_call 10; refine (HSp.out _).mono ?_; rintro e w2 ⟨rfl, hb2⟩))
          go_ret
          exact ⟨rfl, HB.out.next hb2⟩
  · have HNew := hid (new_bad n hn W)
    clear hn
    go_enter Try.func7, Try.ntmps7
    go_wp2_with (first
      | (go_at_call 8; refine (HNew.out).mono ?_; rintro e w1 ⟨rfl, hw⟩; have hw := hw.symm; subst hw)
      | (go_at_call 10; refine (HSp.out _).mono ?_; rintro e w2 ⟨rfl, hb2⟩))
    go_ret
    exact ⟨by simp, hb2⟩
end Go.Proofs.Ytfjoajcfpldniaa
