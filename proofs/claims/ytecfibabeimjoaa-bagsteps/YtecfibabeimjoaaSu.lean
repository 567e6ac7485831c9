import Derived.Test.YtecfibabeimjoaaSt
import Derived.Deep.DeepCutAuto
namespace Go.Proofs.Ytecfibabeimjoaa
open Go.RowKit Go.Maps Go.Sort Go.Shelf

/-- a bag behind j steps -/
def BJ (base g b : Nat) (w : World) (n : Int) (j : Nat) : Prop := ∃ L, Bag base g b w j n L
theorem BJ.below {base g b j : Nat} {w w' : World} {n : Int} (h : BJ base g b w n j) (k : Below w.heap.size w w') : BJ base g b w' n j := by
  obtain ⟨L, h⟩ := h
  exact ⟨L, h.below k⟩
theorem BJ.mono {base g b j j' : Nat} {w : World} {n : Int} (h : BJ base g b w n j) (k : j ≤ j') : BJ base g b w n j' := by
  obtain ⟨L, h⟩ := h
  exact ⟨L, h.mono k⟩
theorem bj_deliver {base g b j : Nat} {n : Int} (i : Int) (hj : j < 1000) (w : World) (h : BJ base g b w n j) (hb : base ≤ w.heap.size) : Calls Try.prog 11 #[.pointer (some ⟨g, 0, none⟩), .int .i64 i] w fun e w' => (∃ v, e = .returned v) ∧ BJ base g b w' n (j + 1) ∧ Below base w w' := by
  obtain ⟨L, h⟩ := h
  exact (st_deliver i (by omega) w h hb).mono fun _ _ ⟨_, _, _, _, L', he, hB, hb⟩ => ⟨⟨_, he⟩, ⟨L', hB⟩, hb⟩
theorem bj_drop {base g b j : Nat} {n : Int} (i : Int) (hj : j < 1000) (w : World) (h : BJ base g b w n j) (hb : base ≤ w.heap.size) : Calls Try.prog 14 #[.pointer (some ⟨g, 0, none⟩), .int .i64 i] w fun e w' => (∃ v, e = .returned v) ∧ BJ base g b w' n (j + 1) ∧ Below base w w' := by
  obtain ⟨L, h⟩ := h
  exact (st_drop i (by omega) w h hb).mono fun _ _ ⟨_, L', he, hB, hb⟩ => ⟨⟨_, he⟩, ⟨L', hB⟩, hb⟩
theorem bj_twice {base g b j : Nat} {n : Int} (i : Int) (hj : j < 1000) (w : World) (h : BJ base g b w n j) (hb : base ≤ w.heap.size) : Calls Try.prog 15 #[.pointer (some ⟨g, 0, none⟩), .int .i64 i] w fun e w' => (∃ v, e = .returned v) ∧ BJ base g b w' n (j + 1) ∧ Below base w w' := by
  obtain ⟨L, h⟩ := h
  exact (st_twice i (by omega) w h hb).mono fun _ _ ⟨_, L', he, hB, hb⟩ => ⟨⟨_, he⟩, ⟨L', hB⟩, hb⟩
theorem bj_put {base g b j : Nat} {n : Int} (m : Msg) (hm : okM m) (hj : j < 1000) (w : World) (h : BJ base g b w n j) (hb : base ≤ w.heap.size) : Calls Try.prog 17 #[.pointer (some ⟨g, 0, none⟩), valM m] w fun e w' => (∃ v, e = .returned v) ∧ BJ base g b w' n (j + 1) ∧ Below base w w' := by
  obtain ⟨L, h⟩ := h
  exact (st_put m hm (by omega) w h hb).mono fun _ _ ⟨_, L', he, hB, hb⟩ => ⟨⟨_, he⟩, ⟨L', hB⟩, hb⟩
/-- is a message another one? -/
def eqB (x m : Msg) : Bool := x.f == m.f && (x.t == m.t && x.s.toList == m.s.toList)
theorem eqB_iff (x m : Msg) : eqB x m = true ↔ x = m := by
  unfold eqB
  simp only [Bool.and_eq_true, beq_iff_eq]
  constructor
  · rintro ⟨h1, h2, h3⟩
    rw [Lib.toList_data, Lib.toList_data] at h3
    have h4 : x.s = m.s := ByteArray.ext (Array.toList_inj.1 h3)
    cases x; cases m
    simp only at h1 h2 h4
    subst h1 h2 h4
    rfl
  · rintro rfl; exact ⟨rfl, rfl, rfl⟩
def thB (m : Msg) (l : List Msg) : Bool := l.any fun x => eqB x m
theorem thB_iff (m : Msg) (l : List Msg) : thB m l = true ↔ m ∈ l := by
  unfold thB
  rw [List.any_eq_true]
  constructor
  · rintro ⟨x, hx, he⟩
    rw [eqB_iff] at he
    subst he
    exact hx
  · intro h
    exact ⟨m, h, (eqB_iff _ _).2 rfl⟩
theorem thB_snoc (m x : Msg) (l : List Msg) : thB m (l ++ [x]) = (thB m l || eqB x m) := by simp [thB]
theorem take_snocL (l : List Msg) (q : Nat) (h : q < l.length) : l.take (q + 1) = l.take q ++ [l[q]] := List.take_succ_eq_append_getElem h
theorem bag_count {base g b N : Nat} {n : Int} {L : List Msg} (m : Msg) (hm : okM m) (w : World) (h : Bag base g b w N n L) : Calls Try.prog 22 #[.pointer (some ⟨g, 0, none⟩), valM m] w fun e w' => e = .returned (.int .i64 (cnt m L : Nat)) ∧ Below w.heap.size w w' := by
  have k := count_any m hm w h.is
  rw [fL_getD] at k
  exact k
theorem box_at (w : World) (o : Obj) : (w.alloc o).heap[w.heap.size]? = some o := by show (w.heap.push o)[w.heap.size]? = _; simp
set_option maxRecDepth 100000 in
set_option maxHeartbeats 8000000 in
theorem sums_walk (m0 : Msg) (hm0 : okM m0) (ao : Option Addr) (len cap : Nat) (it : Nat → Stp) (W : World) (hS : SLie W ao len it) (_hlc : len ≤ cap) (_hcm : cap ≤ maxLen) :
    Calls Try.prog 7 #[.slice ao len cap, valM m0] W fun e w' => e = .returned (.bool true) ∧ Below W.heap.size W w' := by
  unfold maxLen at _hcm
  have HS := hid hS
  clear hS
  obtain ⟨W0, hW0⟩ : ∃ W0, W0 = W.alloc (.cells #[.int .i64 m0.f, .int .i64 m0.t, .string m0.s] 32) := ⟨_, rfl⟩
  have hb0 : Below W.heap.size W W0 := by rw [hW0]; exact below_alloc _ _
  have hx0 : W0.heap[W.heap.size]? = some (.cells #[.int .i64 m0.f, .int .i64 m0.t, .string m0.s] 32 (0, 0)) := by rw [hW0]; exact box_at _ _
  have HNEW := hid (new_any 3 (by decide) (by decide) W0.heap.size W0 (Nat.le_refl _))
  rw [hW0] at HNEW
  unfold valM
  by_cases hl3 : 300 < len
  · clear hb0 hx0
    go_enter Try.func7, Try.ntmps7
    go_wp2_with (first
      | (go_at_call 8; refine HNEW.out.mono ?_; rintro e w1 ⟨rfl, hB1, hb1⟩; have HB1 := hid ((below_alloc _ _).next hb1); clear hB1 hb1)
      | (go_at_call 10; refine (speaks_any _).mono ?_; rintro e w7 ⟨rfl, hb7⟩))
    go_ret
    exact ⟨rfl, HB1.out.next hb7⟩
  · have HX0 := hid hx0
    have HB0 := hid hb0
    have HW0 := hid hW0
    clear hx0 hb0 hW0
    go_enter Try.func7, Try.ntmps7
    go_wp2_with (first
      | (go_at_call 8; refine HNEW.out.mono ?_; rintro e w1 ⟨rfl, hB1, hb1⟩; rw [← HW0.out] at hB1 hb1 ⊢; have HJ1 : Hid (BJ W0.heap.size (W0.heap.size + 1) W0.heap.size w1 3 0) := ⟨[], Bag.new hB1⟩; have HB1 := hid (HB0.out.next hb1); have HB2 := hid hb1; have HZ1 := hid hb1.size; clear hB1 hb1))
    go_loopw [39] (fun i wr => ∃ j : Nat, i = .int .i64 j ∧ j ≤ len ∧ BJ W0.heap.size (W0.heap.size + 1) W0.heap.size wr 3 j ∧ Below W0.heap.size W0 wr) (fun i _ => len - (intOf i).toNat)
    case atStart => exact ⟨0, rfl, Nat.zero_le _, HJ1.out, HB2.out⟩
    case round =>
      obtain ⟨j, rfl, hj, hJ, hB⟩ := hrel
      have HJ := hid hJ
      have HB := hid hB
      have HBW := hid (HB0.out.trans (hB.mono HB0.out.size))
      clear hJ hB HJ1 HB1 HB2 HZ1 HNEW
      by_cases hlt : j < len
      · obtain ⟨b, off, rfl, hbW, s0, s1, s2, s3, s4, bI, bM⟩ := HS.out j hlt
        obtain ⟨y, hy⟩ : ∃ y, y = it j := ⟨_, rfl⟩
        rw [← hy] at s0 s1 s2 s3 s4 bI bM
        obtain ⟨K, I, m⟩ := y
        simp only at s0 s1 s2 s3 s4 bI bM
        have t0 := (HBW.out.cell (p := ⟨b, off + j * 5, none⟩) hbW).trans s0
        have t1 := (HBW.out.cell (p := ⟨b, off + j * 5 + 1, none⟩) hbW).trans s1
        have t2 := (HBW.out.cell (p := ⟨b, off + j * 5 + 2, none⟩) hbW).trans s2
        have t3 := (HBW.out.cell (p := ⟨b, off + j * 5 + 3, none⟩) hbW).trans s3
        have t4 := (HBW.out.cell (p := ⟨b, off + j * 5 + 4, none⟩) hbW).trans s4
        have hbr : b < wr.heap.size := Nat.lt_of_lt_of_le hbW HBW.out.size
        clear s0 s1 s2 s3 s4 hy
        have HP0 := hid (HJ.out.below (below_alloc wr (.cells #[.int .i64 K, .int .i64 I, .int .i64 m.f, .int .i64 m.t, .string m.s] 34)))
        have HB0' := hid (HB.out.next (below_alloc wr (.cells #[.int .i64 K, .int .i64 I, .int .i64 m.f, .int .i64 m.t, .string m.s] 34)))
        have HPUT := hid (bj_put m bM (show j < 1000 by omega) _ HP0.out HB0'.out.size)
        unfold valM at HPUT
        rcases kinds K with rfl | rfl | rfl | ⟨k0, k1, k2⟩
        · go_wp2_with (first
            | (go_at_call 11; refine (bj_deliver I (by omega) _ HP0.out HB0'.out.size).mono ?_; rintro e w2 ⟨⟨v, rfl⟩, hJ2, hb2⟩))
          go_roundw
          case rel => exact ⟨j + 1, by go_num, by omega, hJ2, HB0'.out.trans hb2⟩
          case measure => simp [intOf]; omega
        · go_wp2_with (first
            | (go_at_call 14; refine (bj_drop I (by omega) _ HP0.out HB0'.out.size).mono ?_; rintro e w2 ⟨⟨v, rfl⟩, hJ2, hb2⟩))
          go_roundw
          case rel => exact ⟨j + 1, by go_num, by omega, hJ2, HB0'.out.trans hb2⟩
          case measure => simp [intOf]; omega
        · go_wp2_with (first
            | (go_at_call 15; refine (bj_twice I (by omega) _ HP0.out HB0'.out.size).mono ?_; rintro e w2 ⟨⟨v, rfl⟩, hJ2, hb2⟩))
          go_roundw
          case rel => exact ⟨j + 1, by go_num, by omega, hJ2, HB0'.out.trans hb2⟩
          case measure => simp [intOf]; omega
        · go_wp2_with (first
            | (go_at_call 17; refine (HPUT.out).mono ?_; rintro e w2 ⟨⟨v, rfl⟩, hJ2, hb2⟩))
          go_roundw
          case rel => exact ⟨j + 1, by go_num, by omega, hJ2, HB0'.out.trans hb2⟩
          case measure => simp [intOf]; omega
      · obtain ⟨L, hL⟩ := HJ.out
        have hLl := hL.le
        have HXR := hid ((HB.out.block _ (show W.heap.size < W0.heap.size from lt_of_block HX0.out)).trans HX0.out)
        have HL := hid hL
        have HLS := hid (bag_list (show j ≤ 100000000 by omega) wr hL)
        have HLEN := hid (fun w (h : Bag W0.heap.size (W0.heap.size + 1) W0.heap.size w j 3 L) => len_any w h.is)
        have HC0 := hid (fun w (h : Bag W0.heap.size (W0.heap.size + 1) W0.heap.size w j 3 L) => bag_count m0 hm0 w h)
        unfold valM at HC0
        have hdl := dd_len_le L
        have HSD := hid (sumC_dd hL.so)
        have HTD := hid (thB_iff m0 (dd L))
        have hcm0 := cnt_le m0 L
        have HCP := hid (cnt_pos (m := m0) (l := L))
        have HOK : Hid (∀ x ∈ dd L, okM x ∧ 0 < cnt x L ∧ cnt x L ≤ L.length) := fun x hx => ⟨hL.ok x (mem_dd.1 hx), cnt_pos.1 (mem_dd.1 hx), cnt_le x L⟩
        have HMD := hid (mem_dd (l := L) (x := m0))
        have HSL := hid (sumC_le L)
        clear hL HJ
        go_wp2_with (go_at_call 20; fail)
        refine (HLS.out).mono ?_
        rintro e w2 ⟨v, rfl, hL2, hb2⟩
        obtain ⟨ao2, cap2, rfl⟩ := hL2.len
        have HL2 := hid hL2
        have HB2 := hid (HB.out.next hb2)
        have HG2 := hid (HL.out.below hb2)
        have HX2 := hid ((hb2.block _ (lt_of_block HXR.out)).trans HXR.out)
        obtain ⟨l, hl⟩ : ∃ l, l = dd L := ⟨_, rfl⟩
        rw [← hl] at HL2 HSD HTD HOK HMD hdl ⊢
        clear hL2 hb2 HLS hl HXR HL
        have hcl2 : l.length ≤ 1024 := by omega
        go_wp2
        go_loopw [9, 10, 71] (fun nn th i wr2 => ∃ q : Nat, i = .int .i64 q ∧ q ≤ l.length ∧ nn = .int .i64 (sumC L (l.take q) : Nat) ∧ th = .bool (thB m0 (l.take q)) ∧ Below w2.heap.size w2 wr2) (fun _ _ i _ => l.length - (intOf i).toNat)
        case atStart => exact ⟨0, rfl, Nat.zero_le _, rfl, rfl, Below.refl _ _⟩
        case round =>
          obtain ⟨q, rfl, hq, rfl, rfl, hBq⟩ := hrel
          have HBq := hid hBq
          clear hBq
          have hsl := HSL.out (l.take q)
          have hsq : sumC L (l.take q) ≤ 2000000 := by
            have h1 : (l.take q).length ≤ 1024 := by rw [List.length_take]; omega
            have h2 : (l.take q).length * L.length ≤ 1024 * 1024 := Nat.mul_le_mul h1 hLl
            omega
          clear hsl
          by_cases hqk : q < l.length
          · obtain ⟨gb, cap', e, hc1, hc2, hbs, hgl, c0, c1, c2⟩ := (HL2.out.below HBq.out).cellsAt q hqk
            cases e
            obtain ⟨hok, hcp, hcl⟩ := HOK.out l[q] (List.getElem_mem hqk)
            have HT := hid (take_snocL l q hqk)
            obtain ⟨x, hx⟩ : ∃ x, x = l[q] := ⟨_, rfl⟩
            rw [← hx] at c0 c1 c2 hok hcp hcl HT
            clear hx
            have HSS : Hid (sumC L (l.take (q + 1)) = sumC L (l.take q) + cnt x L) := by
              show _ = _
              rw [HT.out, sumC_append]; simp [sumC]
            have HTT : Hid (thB m0 (l.take (q + 1)) = (thB m0 (l.take q) || eqB x m0)) := by
              show _ = _
              rw [HT.out, thB_snoc]
            have HCX := hid (fun w (h : Bag W0.heap.size (W0.heap.size + 1) W0.heap.size w j 3 L) => bag_count x hok w h)
            unfold valM at HCX
            have HGQ := hid (HG2.out.below HBq.out)
            have HXQ := hid ((HBq.out.block _ (lt_of_block HX2.out)).trans HX2.out)
            obtain ⟨cx, hcx⟩ : ∃ c, c = cnt x L := ⟨_, rfl⟩
            rw [← hcx] at HCX hcp hcl HSS
            obtain ⟨sq, hsq'⟩ : ∃ c, c = sumC L (l.take q) := ⟨_, rfl⟩
            rw [← hsq'] at HSS hsq ⊢
            obtain ⟨t, ht⟩ : ∃ t, t = thB m0 (l.take q) := ⟨_, rfl⟩
            rw [← ht] at HTT ⊢
            clear hcx hsq' ht HT hok
            unfold maxLen at hc2
            unfold eqB at HTT
            cases t with
            | true =>
              go_wp2_with (first
                | (go_at_call 22; have hk := HB3; clear hk; refine (HCX.out _ (HGQ.out.below HB3.out)).mono ?_; rintro e w4 ⟨rfl, hb4⟩; have HB4 := hid (HB3.out.next hb4); clear hb4)
                | (go_at_call 22; refine (HCX.out _ (HGQ.out.below (below_alloc _ _))).mono ?_; rintro e w3 ⟨rfl, hb3⟩; have HB3 := hid ((below_alloc _ _).next hb3); obtain ⟨y0, y1, y2⟩ := three_cells (var_a hb3); clear hb3))
              go_roundw
              case rel => exact ⟨q + 1, by go_num, by omega, by rw [HSS.out]; go_num, by rw [HTT.out]; simp, HBq.out.next HB4.out⟩
              case measure => simp [intOf]; omega
            | false =>
              cases a1 : (x.f == m0.f) with
              | false =>
                rw [a1] at HTT
                go_wp2_with (first
                  | (go_at_call 22; have hk := HB3; clear hk; refine (HCX.out _ (HGQ.out.below HB3.out)).mono ?_; rintro e w4 ⟨rfl, hb4⟩; have HB4 := hid (HB3.out.next hb4); clear y0 y1 y2; obtain ⟨y0, y1, y2⟩ := three_cells ((hb4.block _ (lt_of_block HY3.out)).trans HY3.out); obtain ⟨z0, z1, z2⟩ := three_cells ((HB4.out.block _ (lt_of_block HXQ.out)).trans HXQ.out); clear hb4)
                  | (go_at_call 22; refine (HCX.out _ (HGQ.out.below (below_alloc _ _))).mono ?_; rintro e w3 ⟨rfl, hb3⟩; have HB3 := hid ((below_alloc _ _).next hb3); have HY3 := hid (var_a hb3); obtain ⟨y0, y1, y2⟩ := three_cells (var_a hb3); clear hb3))
                go_roundw
                case rel => exact ⟨q + 1, by go_num, by omega, by rw [HSS.out]; go_num, by rw [HTT.out]; rfl, HBq.out.next HB4.out⟩
                case measure => simp [intOf]; omega
              | true =>
                cases a2 : (x.t == m0.t) with
                | false =>
                  rw [a1, a2] at HTT
                  go_wp2_with (first
                    | (go_at_call 22; have hk := HB3; clear hk; refine (HCX.out _ (HGQ.out.below HB3.out)).mono ?_; rintro e w4 ⟨rfl, hb4⟩; have HB4 := hid (HB3.out.next hb4); clear y0 y1 y2; obtain ⟨y0, y1, y2⟩ := three_cells ((hb4.block _ (lt_of_block HY3.out)).trans HY3.out); obtain ⟨z0, z1, z2⟩ := three_cells ((HB4.out.block _ (lt_of_block HXQ.out)).trans HXQ.out); clear hb4)
                    | (go_at_call 22; refine (HCX.out _ (HGQ.out.below (below_alloc _ _))).mono ?_; rintro e w3 ⟨rfl, hb3⟩; have HB3 := hid ((below_alloc _ _).next hb3); have HY3 := hid (var_a hb3); obtain ⟨y0, y1, y2⟩ := three_cells (var_a hb3); clear hb3))
                  go_roundw
                  case rel => exact ⟨q + 1, by go_num, by omega, by rw [HSS.out]; go_num, by rw [HTT.out]; rfl, HBq.out.next HB4.out⟩
                  case measure => simp [intOf]; omega
                | true =>
                  cases a3 : (x.s.toList == m0.s.toList) with
                  | false =>
                    rw [a1, a2, a3] at HTT
                    go_wp2_with (first
                      | (go_at_call 22; have hk := HB3; clear hk; refine (HCX.out _ (HGQ.out.below HB3.out)).mono ?_; rintro e w4 ⟨rfl, hb4⟩; have HB4 := hid (HB3.out.next hb4); clear y0 y1 y2; obtain ⟨y0, y1, y2⟩ := three_cells ((hb4.block _ (lt_of_block HY3.out)).trans HY3.out); obtain ⟨z0, z1, z2⟩ := three_cells ((HB4.out.block _ (lt_of_block HXQ.out)).trans HXQ.out); clear hb4)
                      | (go_at_call 22; refine (HCX.out _ (HGQ.out.below (below_alloc _ _))).mono ?_; rintro e w3 ⟨rfl, hb3⟩; have HB3 := hid ((below_alloc _ _).next hb3); have HY3 := hid (var_a hb3); obtain ⟨y0, y1, y2⟩ := three_cells (var_a hb3); clear hb3))
                    go_roundw
                    case rel => exact ⟨q + 1, by go_num, by omega, by rw [HSS.out]; go_num, by rw [HTT.out]; rfl, HBq.out.next HB4.out⟩
                    case measure => simp [intOf]; omega
                  | true =>
                    rw [a1, a2, a3] at HTT
                    go_wp2_with (first
                      | (go_at_call 22; have hk := HB3; clear hk; refine (HCX.out _ (HGQ.out.below HB3.out)).mono ?_; rintro e w4 ⟨rfl, hb4⟩; have HB4 := hid (HB3.out.next hb4); clear y0 y1 y2; obtain ⟨y0, y1, y2⟩ := three_cells ((hb4.block _ (lt_of_block HY3.out)).trans HY3.out); obtain ⟨z0, z1, z2⟩ := three_cells ((HB4.out.block _ (lt_of_block HXQ.out)).trans HXQ.out); clear hb4)
                      | (go_at_call 22; refine (HCX.out _ (HGQ.out.below (below_alloc _ _))).mono ?_; rintro e w3 ⟨rfl, hb3⟩; have HB3 := hid ((below_alloc _ _).next hb3); have HY3 := hid (var_a hb3); obtain ⟨y0, y1, y2⟩ := three_cells (var_a hb3); clear hb3))
                    go_roundw
                    case rel => exact ⟨q + 1, by go_num, by omega, by rw [HSS.out]; go_num, by rw [HTT.out]; rfl, HBq.out.next HB4.out⟩
                    case measure => simp [intOf]; omega
          · have hqe : q = l.length := by omega
            subst hqe
            have e1 : sumC L (l.take l.length) = L.length := by rw [List.take_length]; exact HSD.out
            have e2 : thB m0 (l.take l.length) = decide ((0 : Int) < (cnt m0 L : Nat)) := by
              rw [List.take_length, Bool.eq_iff_iff, HTD.out, HMD.out, HCP.out]
              simp
            rw [e1, e2]
            obtain ⟨z0, z1, z2⟩ := three_cells ((HBq.out.block _ (lt_of_block HX2.out)).trans HX2.out)
            have HGQ := hid (HG2.out.below HBq.out)
            obtain ⟨c0, hc0⟩ : ∃ c, c = cnt m0 L := ⟨_, rfl⟩
            rw [← hc0] at HC0 hcm0 ⊢
            clear e1 e2 hc0 hqk hsq HOK HSD HTD HCP HMD HSL HL2
            go_wp2_with (first
              | (go_at_call 24; refine (HLEN.out _ HGQ.out).mono ?_; rintro e w5 ⟨rfl, hw⟩; have hw := hw.symm; subst hw)
              | (go_at_call 22; refine (HC0.out _ HGQ.out).mono ?_; rintro e w6 ⟨rfl, hb6⟩)
              | (go_at_call 10; refine (speaks_any _).mono ?_; rintro e w7 ⟨rfl, hb7⟩))
            go_ret
            exact ⟨rfl, ((HB0.out.trans ((HB2.out.trans (HBq.out.mono HB2.out.size)).mono HB0.out.size)).next hb6).next hb7⟩
end Go.Proofs.Ytecfibabeimjoaa
