import Derived.Test.YtecfibabeimjoaaOm
namespace Go.Proofs.Ytecfibabeimjoaa
open Go.RowKit Go.Maps Go.Sort Go.Shelf
theorem push_msg2 {ops : Array Oper} {rest : List Oper} {o : Oper} {a : Act} {Q : Exit → Act → World → Prop} {w0 : World} (hgd : o.guard = none) (s x : Operand)
    (ho : o.op = .call { callee := .builtin .append, args := #[s, x], argTypes := #[46, 46] }) (B1 bb : Nat) (v : Value) (T : List Msg) (f t : Int) (sx : ByteArray)
    (hs : a.eval s = v) (hx : a.eval x = .slice (some ⟨bb, 0, none⟩) 1 1) (hbb : bb = w0.heap.size) (hA : LIs B1 w0 v T) (hn : T.length ≤ 1000) (hbase : B1 ≤ w0.heap.size)
    (h : ∀ v' w', LIs B1 w' v' (T ++ [⟨f, t, sx⟩]) → Below B1 w0 w' → wpList Try.prog ops Q rest (a.put o.dst v') w') :
    wpList Try.prog ops Q (o :: rest) a (w0.alloc (.cells #[.int .i64 f, .int .i64 t, .string sx] 32)) := by
  subst hbb
  exact push_msg hgd s x ho B1 v T f t sx hs hx hA hn hbase h
set_option maxRecDepth 100000 in
set_option maxHeartbeats 8000000 in
theorem once_walk (ao : Option Addr) (len cap : Nat) (it : Nat → Stp) (W : World) (hS : SLie W ao len it) (_hlc : len ≤ cap) (_hcm : cap ≤ maxLen) :
    Calls Try.prog 5 #[.slice ao len cap] W fun e w' => e = .returned (.bool true) ∧ Below W.heap.size W w' := by
  unfold maxLen at _hcm
  have HS := hid hS
  clear hS
  have HNEW := hid (new_any 3 (by decide) (by decide) W.heap.size W (Nat.le_refl _))
  by_cases hl3 : 200 < len
  · go_enter Try.func5, Try.ntmps5
    go_wp2_with (first
      | (go_at_call 8; refine HNEW.out.mono ?_; rintro e w1 ⟨rfl, hB1, hb1⟩; have HB1 := hid hb1; clear hB1 hb1)
      | (go_at_call 10; refine (speaks_any _).mono ?_; rintro e w7 ⟨rfl, hb7⟩))
    go_ret
    exact ⟨rfl, HB1.out.next hb7⟩
  · go_enter Try.func5, Try.ntmps5
    go_wp2_with (first
      | (go_at_call 8; refine HNEW.out.mono ?_; rintro e w1 ⟨rfl, hB1, hb1⟩; have HA1 := hid (Bag.new hB1); have HB1 := hid hb1; clear hB1 hb1))
    have hs1 : W.heap.size + 1 < w1.heap.size := HA1.out.gb.1
    go_loopw [5, 41] (fun v i wr => ∃ j : Nat, i = .int .i64 j ∧ j ≤ len ∧ OX W.heap.size w1.heap.size (W.heap.size + 1) W.heap.size wr j v ∧ Below W.heap.size W wr) (fun _ i _ => len - (intOf i).toNat)
    case atStart => exact ⟨0, rfl, Nat.zero_le _, ⟨[], [], HA1.out, LIs.nil _ _, by simp, by simp, fun m => Nat.le_refl _, by omega, by omega, by omega, Nat.le_refl _⟩, HB1.out⟩
    case round =>
      obtain ⟨j, rfl, hj, hJ, hB⟩ := hrel
      have HJ := hid hJ
      have HB := hid hB
      clear hJ hB HB1 HA1 HNEW
      by_cases hlt : j < len
      · obtain ⟨b, off, rfl, hbW, s0, s1, s2, s3, s4, bI, bM⟩ := HS.out j hlt
        obtain ⟨y, hy⟩ : ∃ y, y = it j := ⟨_, rfl⟩
        rw [← hy] at s0 s1 s2 s3 s4 bI bM
        obtain ⟨K, I, m⟩ := y
        simp only at s0 s1 s2 s3 s4 bI bM
        have t0 := (HB.out.cell (p := ⟨b, off + j * 5, none⟩) hbW).trans s0
        have t1 := (HB.out.cell (p := ⟨b, off + j * 5 + 1, none⟩) hbW).trans s1
        have t2 := (HB.out.cell (p := ⟨b, off + j * 5 + 2, none⟩) hbW).trans s2
        have t3 := (HB.out.cell (p := ⟨b, off + j * 5 + 3, none⟩) hbW).trans s3
        have t4 := (HB.out.cell (p := ⟨b, off + j * 5 + 4, none⟩) hbW).trans s4
        have hbr : b < wr.heap.size := Nat.lt_of_lt_of_le hbW HB.out.size
        clear s0 s1 s2 s3 s4 hy
        obtain ⟨L, T, hO⟩ := HJ.out
        have hj3 : j ≤ 300 := by omega
        have hB1r := hO.gB.2.2.2
        have HO0 := hid (hO.below (below_alloc wr (.cells #[.int .i64 K, .int .i64 I, .int .i64 m.f, .int .i64 m.t, .string m.s] 34)))
        have HB0' := hid (HB.out.next (below_alloc wr (.cells #[.int .i64 K, .int .i64 I, .int .i64 m.f, .int .i64 m.t, .string m.s] 34)))
        have HTL := hid hO.len
        clear hO HJ
        rcases kinds K with rfl | rfl | rfl | ⟨k0, k1, k2⟩
        · by_cases hi : inL L I
          · obtain ⟨i, ha⟩ := Int.eq_ofNat_of_zero_le hi.1
            have hi' : i < (dd L).length := by have := hi.2; omega
            subst ha
            clear hi
            have HDE := hid (oj_deliver i hi' hj3 _ HO0.out)
            obtain ⟨x, hx⟩ : ∃ x, x = (dd L)[i] := ⟨_, rfl⟩
            rw [← hx] at HDE
            unfold valM at HDE
            clear hx hi'
            obtain ⟨ao5, cap5, h5⟩ := HO0.out.row.len
            subst h5
            go_wp2_with (first
              | (go_at_call 11; refine (HDE.out).mono ?_; rintro e w2 ⟨rfl, hD2, hO2⟩; have HD2 := hid hD2; have HB2 := hid (HB0'.out.trans (HO0.out.bag.belowOf HB0'.out.size hO2)); clear hD2 hO2))
            have HD3 := hid (HD2.out.below (below_alloc w2 (.cells #[.int .i64 x.f, .int .i64 x.t, .string x.s] 32)))
            have HB3 := hid (HB2.out.next (below_alloc w2 (.cells #[.int .i64 x.f, .int .i64 x.t, .string x.s] 32)))
            have HX3 := hid (box_at w2 (.cells #[.int .i64 x.f, .int .i64 x.t, .string x.s] 32))
            have htl := HTL.out
            obtain ⟨w3, hw3⟩ : ∃ w3, w3 = w2.alloc (.cells #[.int .i64 x.f, .int .i64 x.t, .string x.s] 32) := ⟨_, rfl⟩
            rw [← hw3] at HD3 HB3 HX3 ⊢
            have HW3 := hid hw3
            have hB13 := HD3.out.gB.2.2.2
            clear hw3 HD2 HB2 HDE HO0 HB0' t0 t1 t2 t3 t4
            go_loopw [10, 11, 70] (fun rv fd i wr2 => ∃ q : Nat, i = .int .i64 q ∧ q ≤ T.length ∧ fd = .bool (thB x (T.take q)) ∧ LIs w3.heap.size wr2 rv (del x (T.take q)) ∧ Below w3.heap.size w3 wr2) (fun _ _ i _ => T.length - (intOf i).toNat)
            case atStart => exact ⟨0, rfl, Nat.zero_le _, rfl, LIs.nil _ _, Below.refl _ _⟩
            case round =>
              obtain ⟨q, rfl, hq, rfl, hLq, hBq⟩ := hrel
              have HLq := hid hLq
              have HBq := hid hBq
              clear hLq hBq
              by_cases hqk : q < T.length
              · obtain ⟨gr, cap5', e, hc1, hc2, hbs, hgl, c0, c1, c2⟩ := (HD3.out.row.below HBq.out).cellsAt q hqk
                cases e
                have HT := hid (take_snocL T q hqk)
                obtain ⟨y, hy⟩ : ∃ y, y = T[q] := ⟨_, rfl⟩
                rw [← hy] at c0 c1 c2 HT
                clear hy
                obtain ⟨z0, z1, z2⟩ := three_cells ((HBq.out.block _ (lt_of_block HX3.out)).trans HX3.out)
                have hgx : w2.heap.size < wr.heap.size := Nat.lt_of_lt_of_le (lt_of_block HX3.out) HBq.out.size
                have HTT : Hid (thB x (T.take (q + 1)) = (thB x (T.take q) || eqB y x)) := by
                  show _ = _
                  rw [HT.out, thB_snoc]
                have HF := hid (thB_iff x (T.take q))
                have HEQ := hid (eqB_iff y x)
                have HRL : Hid ((del x (T.take q)).length ≤ 1000) := by
                  show _ ≤ _
                  have h1 := (del_sub x (T.take q)).length_le
                  rw [List.length_take] at h1
                  omega
                have HL5 := hid (HLq.out.below (below_alloc wr (.cells #[.int .i64 y.f, .int .i64 y.t, .string y.s] 32)))
                have HB5 := hid (HBq.out.next (below_alloc wr (.cells #[.int .i64 y.f, .int .i64 y.t, .string y.s] 32)))
                obtain ⟨t, ht⟩ : ∃ t, t = thB x (T.take q) := ⟨_, rfl⟩
                rw [← ht] at HTT HF ⊢
                unfold maxLen at hc2
                unfold eqB at HTT HEQ
                clear ht
                cases t with
                | true =>
                  have HDT : Hid (del x (T.take (q + 1)) = del x (T.take q) ++ [y]) := by
                    show _ = _
                    rw [HT.out, del_append_in _ (HF.out.1 rfl)]
                  go_wp2_with (first
                    | (at_builtin; refine push_msg2 rfl (.tmp 81) (.tmp 83) rfl w3.heap.size (wr.heap.size + 1) _ _ y.f y.t y.s rfl rfl (by simp) HL5.out HRL.out HB5.out.size ?_; intro v6 w6 hL6 hb6))
                  go_roundw
                  case rel => exact ⟨q + 1, by go_num, by omega, by rw [HTT.out]; rfl, by rw [HDT.out]; exact hL6, HB5.out.trans hb6⟩
                  case measure => simp [intOf]; omega
                | false =>
                  cases a1 : (y.f == x.f) with
                  | false =>
                    have HDT : Hid (del x (T.take (q + 1)) = del x (T.take q) ++ [y]) := by
                      show _ = _
                      have hyx : y ≠ x := fun e => by have := HEQ.out.2 e; rw [a1] at this; simp at this
                      have hxt : x ∉ T.take q := fun e => by have := HF.out.2 e; simp at this
                      rw [HT.out, del_append_not _ hxt, del_neg hyx, del_not hxt]; rfl
                    rw [a1] at HTT
                    go_wp2_with (first
                      | (at_builtin; refine push_msg2 rfl (.tmp 81) (.tmp 83) rfl w3.heap.size (wr.heap.size + 1) _ _ y.f y.t y.s rfl rfl (by simp) HL5.out HRL.out HB5.out.size ?_; intro v6 w6 hL6 hb6))
                    go_roundw
                    case rel => exact ⟨q + 1, by go_num, by omega, by rw [HTT.out]; rfl, by rw [HDT.out]; exact hL6, HB5.out.trans hb6⟩
                    case measure => simp [intOf]; omega
                  | true =>
                    cases a2 : (y.t == x.t) with
                    | false =>
                      have HDT : Hid (del x (T.take (q + 1)) = del x (T.take q) ++ [y]) := by
                        show _ = _
                        have hyx : y ≠ x := fun e => by have := HEQ.out.2 e; rw [a1, a2] at this; simp at this
                        have hxt : x ∉ T.take q := fun e => by have := HF.out.2 e; simp at this
                        rw [HT.out, del_append_not _ hxt, del_neg hyx, del_not hxt]; rfl
                      rw [a1, a2] at HTT
                      go_wp2_with (first
                        | (at_builtin; refine push_msg2 rfl (.tmp 81) (.tmp 83) rfl w3.heap.size (wr.heap.size + 1) _ _ y.f y.t y.s rfl rfl (by simp) HL5.out HRL.out HB5.out.size ?_; intro v6 w6 hL6 hb6))
                      go_roundw
                      case rel => exact ⟨q + 1, by go_num, by omega, by rw [HTT.out]; rfl, by rw [HDT.out]; exact hL6, HB5.out.trans hb6⟩
                      case measure => simp [intOf]; omega
                    | true =>
                      cases a3 : (y.s.toList == x.s.toList) with
                      | false =>
                        have HDT : Hid (del x (T.take (q + 1)) = del x (T.take q) ++ [y]) := by
                          show _ = _
                          have hyx : y ≠ x := fun e => by have := HEQ.out.2 e; rw [a1, a2, a3] at this; simp at this
                          have hxt : x ∉ T.take q := fun e => by have := HF.out.2 e; simp at this
                          rw [HT.out, del_append_not _ hxt, del_neg hyx, del_not hxt]; rfl
                        rw [a1, a2, a3] at HTT
                        go_wp2_with (first
                          | (at_builtin; refine push_msg2 rfl (.tmp 81) (.tmp 83) rfl w3.heap.size (wr.heap.size + 1) _ _ y.f y.t y.s rfl rfl (by simp) HL5.out HRL.out HB5.out.size ?_; intro v6 w6 hL6 hb6))
                        go_roundw
                        case rel => exact ⟨q + 1, by go_num, by omega, by rw [HTT.out]; rfl, by rw [HDT.out]; exact hL6, HB5.out.trans hb6⟩
                        case measure => simp [intOf]; omega
                      | true =>
                        have HDT : Hid (del x (T.take (q + 1)) = del x (T.take q)) := by
                          show _ = _
                          have hyx : y = x := HEQ.out.1 (by rw [a1, a2, a3]; rfl)
                          have hxt : x ∉ T.take q := fun e => by have := HF.out.2 e; simp at this
                          rw [HT.out, del_append_not _ hxt, hyx, del_pos, del_not hxt, List.append_nil]
                        rw [a1, a2, a3] at HTT
                        go_wp2
                        go_roundw
                        case rel => exact ⟨q + 1, by go_num, by omega, by rw [HTT.out]; rfl, by rw [HDT.out]; exact HL5.out, HB5.out⟩
                        case measure => simp [intOf]; omega
              · have hqe : q = T.length := by omega
                subst hqe
                have e1 : thB x (T.take T.length) = true := by rw [List.take_length]; exact (thB_iff x T).2 HD3.out.has
                rw [e1]
                have HR := HLq.out
                rw [List.take_length] at HR
                have HR' := hid HR
                have HDq := hid (HD3.out.below HBq.out)
                clear HR e1
                go_wp2
                go_roundw
                case rel => exact ⟨j + 1, by go_num, by omega, HDq.out.full HR'.out hB13, HB3.out.next HBq.out⟩
                case measure => simp [intOf]; omega
          · have HDE := hid (oj_deliver_no I hi hj3 _ HO0.out)
            go_wp2_with (first
              | (go_at_call 11; refine (HDE.out).mono ?_; rintro e w2 ⟨rfl, hJ2, hb2⟩))
            go_roundw
            case rel =>
              obtain ⟨L2, T2, hX2⟩ := hJ2
              exact ⟨j + 1, by go_num, by omega, ⟨L2, T2, hX2.below (below_alloc _ _)⟩, (HB0'.out.next hb2).next (below_alloc _ _)⟩
            case measure => simp [intOf]; omega
        · go_wp2_with (first
            | (go_at_call 14; refine (oj_drop I hj3 _ HO0.out).mono ?_; rintro e w2 ⟨⟨v, rfl⟩, hJ2, hb2⟩))
          go_roundw
          case rel => exact ⟨j + 1, by go_num, by omega, hJ2, HB0'.out.trans hb2⟩
          case measure => simp [intOf]; omega
        · by_cases hi : inL L I
          · obtain ⟨i, ha⟩ := Int.eq_ofNat_of_zero_le hi.1
            have hi' : i < (dd L).length := by have := hi.2; omega
            subst ha
            clear hi
            have HLS := hid (bag_list (show j ≤ 100000000 by omega) _ HO0.out.bag)
            have HTW := hid (fun w (h : OJ W.heap.size w1.heap.size (W.heap.size + 1) W.heap.size w j u5 L T) => oj_twice i hi' hj3 w h)
            have hlen : (dd L).length ≤ 1024 := Nat.le_trans (dd_len_le L) HO0.out.bag.le
            go_wp2_with (go_at_call 20; fail)
            refine (HLS.out).mono ?_
            rintro e w2 ⟨v2, rfl, hL2, hb2⟩
            have HO2 := hid (HO0.out.below hb2)
            have HB2 := hid (HB0'.out.next hb2)
            have HV2 := hid ((hb2.block _ (lt_of_block (box_at wr _))).trans (box_at wr _))
            obtain ⟨gb, cap2, rfl, hc1, hc2, hbs, hgl, c0, c1, c2⟩ := hL2.cellsAt i hi'
            have HTW2 := hid (HTW.out w2 HO2.out)
            have hgx : gb ∉ [W.heap.size + 1, W.heap.size] := HO0.out.ne (by have := hbs; simp at this; omega)
            obtain ⟨l, hl⟩ : ∃ l, l = dd L := ⟨_, rfl⟩
            simp only [← hl] at HTW2 hlen hc1 hi' c0 c1 c2 ⊢
            obtain ⟨x, hx⟩ : ∃ x, x = l[i] := ⟨_, rfl⟩
            rw [← hx] at HTW2 c0 c1 c2
            have HC0 := hid c0
            have HC1 := hid c1
            have HC2 := hid c2
            clear c0 c1 c2
            clear hL2 hb2 HLS HTW hl hx
            obtain ⟨z0, z1, z2, z3, z4⟩ := five_cells HV2.out
            unfold maxLen at hc2
            go_wp2_with (first
              | (go_at_call 15; refine (HTW2.out).mono ?_; rintro e w3 ⟨rfl, hH3, hO3⟩; have HH3 := hid hH3; have HB3 := hid (HB2.out.trans (HO2.out.bag.belowOf HB2.out.size hO3)); clear z0 z1 z2 z3 z4; obtain ⟨z0, z1, z2, z3, z4⟩ := five_cells ((hO3.block _ (lt_of_block HV2.out) (HO0.out.ne hB1r)).trans HV2.out); have hgl3 : gb < w3.heap.size := Nat.lt_of_lt_of_le hgl hO3.size; have y0 := (World.cell?_of_block (a := ⟨gb, i * 3, none⟩) (hO3.block gb hgl hgx)).trans HC0.out; have y1 := (World.cell?_of_block (a := ⟨gb, i * 3 + 1, none⟩) (hO3.block gb hgl hgx)).trans HC1.out; have y2 := (World.cell?_of_block (a := ⟨gb, i * 3 + 2, none⟩) (hO3.block gb hgl hgx)).trans HC2.out; clear hH3 hO3)
              | (at_builtin; refine push_msg rfl (.tmp 114) (.tmp 120) rfl w1.heap.size _ T x.f x.t x.s rfl rfl HH3.out.row (by have := HTL.out; omega) HH3.out.gB.2.2.2 ?_; intro v4 w4 hL4 hb4))
            go_roundw
            case rel => exact ⟨j + 1, by go_num, by omega, HH3.out.full hL4 hb4, HB3.out.trans (hb4.mono (by omega))⟩
            case measure => simp [intOf]; omega
          · have HLS := hid (bag_list (show j ≤ 100000000 by omega) _ HO0.out.bag)
            have HTW := hid (fun w (h : OJ W.heap.size w1.heap.size (W.heap.size + 1) W.heap.size w j u5 L T) => oj_twice_no I hi hj3 w h)
            go_wp2_with (go_at_call 20; fail)
            refine (HLS.out).mono ?_
            rintro e w2 ⟨v2, rfl, hL2, hb2⟩
            have HO2 := hid (HO0.out.below hb2)
            have HB2 := hid (HB0'.out.next hb2)
            have HV2 := hid ((hb2.block _ (lt_of_block (box_at wr _))).trans (box_at wr _))
            have HTW2 := hid (HTW.out w2 HO2.out)
            obtain ⟨ao2, cap2, rfl⟩ := hL2.len
            clear hL2 hb2 HLS HTW
            obtain ⟨z0, z1, z2, z3, z4⟩ := five_cells HV2.out
            go_wp2_with (first
              | (go_at_call 15; refine (HTW2.out).mono ?_; rintro e w3 ⟨rfl, hJ3, hb3⟩))
            go_roundw
            case rel => exact ⟨j + 1, by go_num, by omega, hJ3, HB2.out.next hb3⟩
            case measure => simp [intOf]; omega
        · by_cases hg : isN 3 m.f = true ∧ isN 3 m.t = true ∧ m.s.size ≤ 65535
          · have HPUT := hid (oj_put m bM hg hj3 _ HO0.out)
            unfold valM at HPUT
            clear hg
            go_wp2_with (first
              | (go_at_call 17; refine (HPUT.out).mono ?_; rintro e w2 ⟨rfl, hH2, hO2⟩; have HH2 := hid hH2; have HB2 := hid (HB0'.out.trans (HO0.out.bag.belowOf HB0'.out.size hO2)); obtain ⟨q0, q1, q2, q3, q4⟩ := five_cells ((hO2.block _ (lt_of_block (box_at wr _)) (HO0.out.ne hB1r)).trans (box_at wr _)); clear hH2 hO2)
              | (at_builtin; refine push_msg rfl (.tmp 52) (.tmp 55) rfl w1.heap.size _ T m.f m.t m.s rfl rfl HH2.out.row (by have := HTL.out; omega) HH2.out.gB.2.2.2 ?_; intro v3 w3 hL3 hb3))
            go_roundw
            case rel => exact ⟨j + 1, by go_num, by omega, HH2.out.full hL3 hb3, HB2.out.trans (hb3.mono (by omega))⟩
            case measure => simp [intOf]; omega
          · have HPUT := hid (oj_put_no m hg _ HO0.out)
            unfold valM at HPUT
            clear hg
            go_wp2_with (first
              | (go_at_call 17; refine (HPUT.out).mono ?_; rintro e w2 ⟨r, rfl, hr0, hJ2, hb2⟩))
            go_roundw
            case rel => exact ⟨j + 1, by go_num, by omega, hJ2, HB0'.out.next hb2⟩
            case measure => simp [intOf]; omega
      · go_wp2_with (first
          | (go_at_call 10; refine (speaks_any _).mono ?_; rintro e w7 ⟨rfl, hb7⟩))
        go_ret
        exact ⟨rfl, HB.out.next hb7⟩
end Go.Proofs.Ytecfibabeimjoaa
