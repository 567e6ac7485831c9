import Derived.Test.YtopebghandojbaaGreatGr
namespace Go.Proofs.YtopebghandojbaaGreat
open Go.RowKit Go.Maps

set_option maxRecDepth 100000 in
set_option maxHeartbeats 4000000 in
theorem steps_go (x y z : Nat) (h : Sh.okS x y z) (v sv : Value) (L : List Chg) (h9 : r9 x y (-1) L = true) (S : List (Int × Value × List Chg)) (h200 : S.length ≤ 200) (W : World) (hL : CLie W v L) (hS : TLie W sv S) :
    Calls Tryz.prog 3 #[.agg #[.int .i64 x, .int .i64 y, .int .i64 z], v, sv] W fun e w' => e = .returned (.bool true) ∧ Below W.heap.size W w' := by
  have HF := hid (fun w' (k : Below W.heap.size W w') => format_yes x y z h v L h9 w' (hL.below k))
  have HR := hid (fun w' (k : Below W.heap.size W w') => rformat_ok x y z h v L h9 w' (hL.below k))
  have HSA := hid speaks_any
  obtain ⟨st, hG⟩ := good_fmtB x y z h L h9
  have HO := hid (fun w g d BP BR N fpP fpR q N0 (hP : Dv.DIs BP g w N ⟨x, fmtB x y z L, []⟩ fpP) (hR : Dv.XD BR d w x (fmtB x y z L) [] fpR) n1 n2 n3 n4 hd hq => both_open (N0 := N0) (q := q) x y z h hG w hP hR n1 n2 n3 n4 hd hq)
  have HH := hid h
  have HSL := hid hS
  have hx1 : x ≤ 1024 := by have := h.1.1; omega
  obtain ⟨W2, hW2⟩ : ∃ W2, W2 = W.alloc (.cells #[.int .i64 (x : Int), .int .i64 (y : Int), .int .i64 (z : Int)] 23) := ⟨_, rfl⟩
  have HBW : Hid (Below W.heap.size W W2) := hid (by rw [hW2]; exact below_alloc _ _)
  have hWs : W2.heap.size = W.heap.size + 1 := by rw [hW2]; simp
  have HX : Hid (W2.heap[W.heap.size]? = some (.cells #[.int .i64 (x : Int), .int .i64 (y : Int), .int .i64 (z : Int)] 23 (0, 0))) := hid (by rw [hW2]; exact box_at W _)
  have HW2 := hid hW2
  obtain ⟨a0, a1, a2⟩ := three_cells HX.out
  obtain ⟨so, sc, rfl, hs1, hs2, _⟩ := hS
  unfold maxLen at hs2
  rw [hW2] at a0 a1 a2
  clear hW2 h hL hG st h9
  go_enter Tryz.func3, Tryz.ntmps3
  go_upto_region 9 with (first
    | (go_at_call 8; refine (HF.out _ (below_alloc _ _)).mono ?_; rintro e w1 ⟨g, fpP, N, rfl, hd1, hb1⟩
       rw [← HW2.out] at hd1 hb1
       have HD1 := hid hd1
       have HB1 := hid hb1
       clear hd1
       clear a0 a1 a2
       obtain ⟨a0, a1, a2⟩ := three_cells ((hb1.block _ (by omega)).trans HX.out)
       clear hb1)
    | (go_at_call 9; refine (HR.out _ (HBW.out.next HB1.out)).mono ?_; rintro e w2 ⟨d, fpR, rfl, hd2, hb2⟩
       have HD2 := hid hd2
       have HB2 := hid (HB1.out.next hb2)
       have hz1 := HB1.out.size
       have HOP := hid (HO.out w2 g d _ _ N fpP fpR W.heap.size (W.heap.size + 1) (HD1.out.below hb2) HD2.out (by omega) HB2.out.size (by omega) hb2.size (fun b hb hm => by have := (HD1.out.lo b hb).2; have := (HD2.out.lo b hm).1; omega) (by omega))
       clear hd2 hb2 a0 a1 a2)
    | (go_at_call 11; refine HOP.out.mono ?_; rintro e w3 ⟨s, jp, m, rfl, hb3, ho3⟩
       have HB3 := hid (HB2.out.next hb3)
       have HO3 := hid ho3.out
       clear hb3 ho3)
    | (go_at_call 12; refine (HO3.out _ (Below.refl _ _)).mono ?_; rintro e w4 ⟨r, j, rfl, hbo, hb4⟩
       have HB4 := hid (HB3.out.next hb4)
       have HBO := hid hbo
       clear hbo hb4))
  obtain ⟨a0, a1, a2⟩ := three_cells ((HB4.out.block _ (by omega)).trans HX.out)
  obtain ⟨MP, MR, σ0, T0, F0, l0, hp0, _⟩ := HBO.out.ex
  have HSH := hid (fun w' (k : Below w4.heap.size w4 w') => (hp0.below k).shape)
  have hwl : W.heap.size < w4.heap.size := by have := HB4.out.size; omega
  clear HOP HO3 HO HF HR HD1 HD2 hp0
  go_cut [86] (fun cv wx => cv = .bool false ∧ Below w4.heap.size w4 wx)
  case first =>
    go_region_held3 (fun w' => w'.cell? ⟨W.heap.size, 0, none⟩ = some (.int .i64 x) ∧ w'.cell? ⟨W.heap.size, 1, none⟩ = some (.int .i64 y) ∧ w'.cell? ⟨W.heap.size, 2, none⟩ = some (.int .i64 z)) (first | exact ⟨a0, a1, a2⟩ | exact d3 | go_keep) (first
      | (go_at_call 13; refine (HSH.out _ (by exact ⟨rfl, rfl, rfl, Nat.le_refl _, fun _ _ => rfl⟩)).mono ?_; rintro e w5 ⟨rfl, hb5⟩
         have hb5 : Below w4.heap.size w4 w5 := ⟨hb5.os, hb5.tape, hb5.output, hb5.size, hb5.block⟩
         have d3 : w5.cell? ⟨W.heap.size, 0, none⟩ = some (.int .i64 x) ∧ w5.cell? ⟨W.heap.size, 1, none⟩ = some (.int .i64 y) ∧ w5.cell? ⟨W.heap.size, 2, none⟩ = some (.int .i64 z) := ⟨(hb5.cell (p := ⟨W.heap.size, 0, none⟩) hwl).trans a0, (hb5.cell (p := ⟨W.heap.size, 1, none⟩) hwl).trans a1, (hb5.cell (p := ⟨W.heap.size, 2, none⟩) hwl).trans a2⟩
         have HB5 := hid hb5
         clear hb5))
    all_goals
      go_wp2
      go_meet
      exact ⟨rfl, HB5.out.os, HB5.out.tape, HB5.out.output, HB5.out.size, HB5.out.block⟩
  case rest =>
    obtain ⟨rfl, hb5⟩ := hcut
    rename World => w5
    have HB5 : Hid (Below (W.heap.size + 1) W2 w5) := hid ((HB4.out.next hb5).mono (by omega))
    have HBO5 := hid (HBO.out.below hb5)
    clear a0 a1 a2 hb5 HB4 HBO HB3 HB2 HB1 HSH
    go_upto_block 0 with fail
    go_cut [] (fun wx => ∃ (n : Nat) (A : List AT), n ≤ 201 ∧ Both (W.heap.size + 1) W.heap.size s g jp m r d x y z j n wx A ∧ Below (W.heap.size + 1) W2 wx)
    case first =>
      go_wp2_with fail
      go_loopw [89] (fun i wr => ∃ (qi n : Nat) (A : List AT), i = .int .i64 qi ∧ qi ≤ S.length ∧ n ≤ 1 + qi ∧ Both (W.heap.size + 1) W.heap.size s g jp m r d x y z j n wr A ∧ Below (W.heap.size + 1) W2 wr) (fun i _ => S.length - (intOf i).toNat)
      case atStart => exact ⟨0, 1, [], rfl, Nat.zero_le _, Nat.le_refl _, HBO5.out, HB5.out⟩
      case round =>
        obtain ⟨qi, n, A, rfl, hqi, hn, hbo, hbw⟩ := hrel
        have HBq := hid hbo
        have HWq := hid hbw
        have hzq := hbw.size
        clear hbo hbw
        by_cases hql : qi < S.length
        · obtain ⟨ao', cap', ev, _, _, hcs⟩ := HSL.out
          injection ev with ev1 ev2 ev3
          subst ev1
          obtain ⟨gb, off, e, hgb, c0, c1, hcl⟩ := hcs qi hql
          subst e
          have hgw : gb < W2.heap.size := by omega
          have HWW : Hid (Below W.heap.size W wr) := hid (HBW.out.trans (HWq.out.mono (by omega)))
          replace c0 := (HWW.out.cell (p := ⟨gb, off + qi * 2, none⟩) hgb).trans c0
          replace c1 := (HWW.out.cell (p := ⟨gb, off + qi * 2 + 1, none⟩) hgb).trans c1
          obtain ⟨p, hp⟩ : ∃ p, p = S[qi] := ⟨_, rfl⟩
          rw [← hp] at c0 c1 hcl
          clear hp hcs ev3
          obtain ⟨kd, vq, Lq⟩ := p
          have c0 : wr.cell? ⟨gb, off + qi * 2, none⟩ = some (.int .i64 kd) := c0
          have c1 : wr.cell? ⟨gb, off + qi * 2 + 1, none⟩ = some vq := c1
          have hcl : CLie W vq Lq := hcl
          have HCL := hid hcl
          obtain ⟨lo, lc, rfl, _⟩ := hcl
          have hgr : gb < wr.heap.size := by omega
          go_upto_block 2 with fail
          have HBX := hid (HBq.out.box (.cells #[.int .i64 kd, .slice lo Lq.length lc] 42))
          have hbox := box_at wr (.cells #[.int .i64 kd, .slice lo Lq.length lc] 42)
          have hbq := below_alloc wr (.cells #[.int .i64 kd, .slice lo Lq.length lc] 42)
          obtain ⟨w6, hw6⟩ : ∃ w6, w6 = wr.alloc (.cells #[.int .i64 kd, .slice lo Lq.length lc] 42) := ⟨_, rfl⟩
          have hzx := lt_of_block hbox
          rw [← hw6] at HBX hbox hbq hzx ⊢
          have HW6 : Hid (Below (W.heap.size + 1) W2 w6) := hid (HWq.out.trans (hbq.mono (by omega)))
          have HL6 := hid (HCL.out.below (HWW.out.next hbq))
          obtain ⟨b0, b1⟩ := two_cells hbox
          have HBXR := hid hbox
          clear hw6 hbq hbox c0 c1
          go_cut [89] from 89 to 160 (fun iv wx => iv = .int .i64 qi ∧ ∃ (n' : Nat) (A' : List AT), n' ≤ n + 1 ∧ Both (W.heap.size + 1) wr.heap.size s g jp m r d x y z j n' wx A' ∧ Below (W.heap.size + 1) W2 wx ∧ wr.heap.size < wx.heap.size)
          case first =>
            have HBX6 : Hid (w6.heap[wr.heap.size]? = some (.cells #[.int .i64 kd, .slice lo Lq.length lc] 42 (0, 0))) := HBXR
            have HCM := hid (fun w' (k : Below w6.heap.size w6 w') => (HBX.out.below k).commit2 HH.out (by omega) (Nat.lt_of_lt_of_le hzx k.size) (.slice lo Lq.length lc) Lq (HL6.out.below k) (fun hn b hb => by have := HCL.out.blk2 hn b hb; omega))
            have HCK := hid (fun w' (k : Below w6.heap.size w6 w') => (HBX.out.below k).check2 HH.out (by omega) (Nat.lt_of_lt_of_le hzx k.size))
            by_cases k0 : kd = 0
            · subst k0
              go_upto_region 21 with fail
              go_region_held3 (fun w' => w'.cell? ⟨wr.heap.size, 1, none⟩ = some (.slice lo Lq.length lc)) (first | exact b1 | exact d7 | exact d8 | go_keep) (first
                | (go_at_call 14; refine (HCM.out _ (by exact ⟨rfl, rfl, rfl, Nat.le_refl _, fun _ _ => rfl⟩)).mono ?_; rintro e w7 ⟨cc, A', n', hn', hccc, rfl, hf7, hh7⟩
                   have hf7 : Fq (W.heap.size + 1) wr.heap.size w6 w7 := ⟨hf7.os, hf7.tape, hf7.output, hf7.size, hf7.block⟩
                   have HW7 := hid (HW6.out.trans (hf7.lo HBX.out.sz))
                   have HH7 := hid hh7.out
                   have hsz7 := Nat.le_trans HBX.out.sz hf7.size
                   have hx7 : wr.heap.size < w7.heap.size := Nat.lt_of_lt_of_le hzx hf7.size
                   have hk7 : w7.heap[wr.heap.size]? = w6.heap[wr.heap.size]? := hf7.block wr.heap.size hzx (fun e => e.2 rfl)
                   have d7 : w7.cell? ⟨wr.heap.size, 1, none⟩ = some (.slice lo Lq.length lc) := (two_cells (hk7.trans HBX6.out)).2
                   clear hf7 hh7 hk7)
                | (go_at_call 15; refine (HH7.out _ (by exact ⟨rfl, rfl, rfl, Nat.le_refl _, fun _ _ => rfl⟩)).mono ?_; rintro e w8 ⟨rfl, hb8, hf8⟩
                   have hf8 : Fq (W.heap.size + 1) wr.heap.size w7 w8 := ⟨hf8.os, hf8.tape, hf8.output, hf8.size, hf8.block⟩
                   have HW8 := hid (HW7.out.trans (hf8.lo hsz7))
                   have HB8 := hid hb8
                   have hx8 : wr.heap.size < w8.heap.size := Nat.lt_of_lt_of_le hx7 hf8.size
                   have hk8 : w8.heap[wr.heap.size]? = w7.heap[wr.heap.size]? := hf8.block wr.heap.size hx7 (fun e => e.2 rfl)
                   have d8 : w8.cell? ⟨wr.heap.size, 1, none⟩ = some (.slice lo Lq.length lc) := by
                     have k := d7
                     simp only [World.cell?] at k ⊢
                     rw [hk8]; exact k
                   clear hf8 hb8 hk8))
              all_goals
                go_wp2
                go_meet
                exact ⟨rfl, n', A', by omega, HB8.out.below ⟨rfl, rfl, rfl, Nat.le_refl _, fun _ _ => rfl⟩, ⟨HW8.out.os, HW8.out.tape, HW8.out.output, HW8.out.size, HW8.out.block⟩, hx8⟩
            · by_cases k1 : kd = 1
              · subst k1
                go_upto_region 21 with fail
                go_region_held3 (fun w' => w'.cell? ⟨wr.heap.size, 1, none⟩ = some (.slice lo Lq.length lc)) (first | exact b1 | exact d7 | exact d8 | go_keep) (first
                  | (go_at_call 14; refine (HCM.out _ (by exact ⟨rfl, rfl, rfl, Nat.le_refl _, fun _ _ => rfl⟩)).mono ?_; rintro e w7 ⟨cc, A', n', hn', hccc, rfl, hf7, hh7⟩
                     have hf7 : Fq (W.heap.size + 1) wr.heap.size w6 w7 := ⟨hf7.os, hf7.tape, hf7.output, hf7.size, hf7.block⟩
                     have HW7 := hid (HW6.out.trans (hf7.lo HBX.out.sz))
                     have HH7 := hid hh7.out
                     have hsz7 := Nat.le_trans HBX.out.sz hf7.size
                     have hx7 : wr.heap.size < w7.heap.size := Nat.lt_of_lt_of_le hzx hf7.size
                     have hk7 : w7.heap[wr.heap.size]? = w6.heap[wr.heap.size]? := hf7.block wr.heap.size hzx (fun e => e.2 rfl)
                     have d7 : w7.cell? ⟨wr.heap.size, 1, none⟩ = some (.slice lo Lq.length lc) := (two_cells (hk7.trans HBX6.out)).2
                     clear hf7 hh7 hk7)
                  | (go_at_call 15; refine (HH7.out _ (by exact ⟨rfl, rfl, rfl, Nat.le_refl _, fun _ _ => rfl⟩)).mono ?_; rintro e w8 ⟨rfl, hb8, hf8⟩
                     have hf8 : Fq (W.heap.size + 1) wr.heap.size w7 w8 := ⟨hf8.os, hf8.tape, hf8.output, hf8.size, hf8.block⟩
                     have HW8 := hid (HW7.out.trans (hf8.lo hsz7))
                     have HB8 := hid hb8
                     have hx8 : wr.heap.size < w8.heap.size := Nat.lt_of_lt_of_le hx7 hf8.size
                     have hk8 : w8.heap[wr.heap.size]? = w7.heap[wr.heap.size]? := hf8.block wr.heap.size hx7 (fun e => e.2 rfl)
                     have d8 : w8.cell? ⟨wr.heap.size, 1, none⟩ = some (.slice lo Lq.length lc) := by
                       have k := d7
                       simp only [World.cell?] at k ⊢
                       rw [hk8]; exact k
                     clear hf8 hb8 hk8))
                all_goals
                  go_wp2
                  go_meet
                  exact ⟨rfl, n', A', by omega, HB8.out.below ⟨rfl, rfl, rfl, Nat.le_refl _, fun _ _ => rfl⟩, ⟨HW8.out.os, HW8.out.tape, HW8.out.output, HW8.out.size, HW8.out.block⟩, hx8⟩
              · by_cases k2 : kd = 2
                · subst k2
                  go_wp2_with (first
                    | (go_at_call 16; refine (HCK.out _ (Below.refl _ _)).mono ?_; rintro e w7 ⟨cc, A', hccc, rfl, hf7, hh7⟩
                       have HW7 := hid (HW6.out.trans (hf7.lo HBX.out.sz))
                       have HH7 := hid hh7.out
                       have hsz7 := Nat.le_trans HBX.out.sz hf7.size
                       have hx7 : wr.heap.size < w7.heap.size := Nat.lt_of_lt_of_le hzx hf7.size
                       clear hf7 hh7)
                    | (go_at_call 17; refine (HH7.out _ (Below.refl _ _)).mono ?_; rintro e w8 ⟨rfl, hb8, hf8⟩
                       have HW8 := hid (HW7.out.trans (hf8.lo hsz7))
                       have HB8 := hid hb8
                       have hx8 : wr.heap.size < w8.heap.size := Nat.lt_of_lt_of_le hx7 hf8.size
                       clear hf8 hb8))
                  go_meet
                  exact ⟨rfl, n, A', by omega, HB8.out, HW8.out, hx8⟩
                · have HSZ := HBX.out.sz
                  have HXX : wr.heap.size < w6.heap.size := hzx
                  have HS3 := hid (fun w' (k : Below w6.heap.size w6 w') => (HBX.out.below k).step3 HH.out (Nat.lt_of_lt_of_le HXX k.size))
                  go_wp2_with (first
                    | (go_at_call 18; refine (HS3.out _ (by exact ⟨rfl, rfl, rfl, Nat.le_refl _, fun _ _ => rfl⟩)).mono ?_; rintro e w10 ⟨sb, sc2, A2, hbb, hc2, rfl, hf10, h19⟩
                       have hf10 : Fq (W.heap.size + 1) wr.heap.size w6 w10 := ⟨hf10.os, hf10.tape, hf10.output, hf10.size, hf10.block⟩
                       have HW10 := hid (HW6.out.trans (hf10.lo HSZ))
                       have H19 := hid h19.out
                       have hsz10 := Nat.le_trans HSZ hf10.size
                       have hx10 : wr.heap.size < w10.heap.size := Nat.lt_of_lt_of_le HXX hf10.size
                       clear hf10 h19)
                    | (go_at_call 19; refine (H19.out _ (Below.refl _ _)).mono ?_; rintro e w11 ⟨rfl, hb11, hf11⟩
                       have HW11 := hid (HW10.out.trans (hf11.lo hsz10))
                       have HB11 := hid hb11
                       have hx11 : wr.heap.size < w11.heap.size := Nat.lt_of_lt_of_le hx10 hf11.size
                       clear hf11 hb11))
                  go_meet
                  exact ⟨rfl, n, A2, by omega, HB11.out, HW11.out, hx11⟩
          case rest =>
            obtain ⟨rfl, n', A', hn', hb7, hw7, hx7⟩ := hcut
            rename World => w9
            have HB9 := hid hb7
            have HW9 := hid hw7
            have hz9 := hw7.size
            clear b0 b1 hb7 hw7
            go_upto_region 26 with fail
            obtain ⟨ct, kq, ao2, qo, ac, qc, s1, s2, s3, s4, s5, s20, s21, s22, e8, e7, e1⟩ := HB9.out.says
            have H20 := hid s20
            have H21 := hid s21
            have H22 := hid s22
            obtain ⟨ka, hka⟩ : ∃ ka, ka = A'.length := ⟨_, rfl⟩
            rw [← hka] at H21 e7 s2
            clear s20 s21 s22 hka
            have hct : (ct != ct) = false := by simp
            have hkk : (((kq : Nat) : Int) != kq) = false := by simp
            go_cut [89, 159] from 89 to 160 (fun iv cv wx => iv = .int .i64 qi ∧ cv = .bool false ∧ Below w9.heap.size w9 wx)
            case first =>
              rcases Nat.eq_zero_or_pos ka with hka | hka
              · subst hka
                rw [decide_eq_false (show ¬ 0 < 0 by omega)] at H21
                go_region_held3 (fun w' => w'.cell? ⟨r, 8, none⟩ = some (.int .i64 ct) ∧ w'.cell? ⟨r, 7, none⟩ = some (.slice ao2 0 ac) ∧ w'.cell? ⟨d, 1, none⟩ = some (.slice qo kq qc)) (first | exact ⟨e8, e7, e1⟩ | go_keep) (first
                  | (go_at_call 20; refine (H20.out _ (by exact ⟨rfl, rfl, rfl, Nat.le_refl _, fun _ _ => rfl⟩)).mono ?_; rintro e w10 ⟨rfl, hw⟩; have hw := hw.symm; subst hw)
                  | (go_at_call 21; refine (H21.out _ (by exact ⟨rfl, rfl, rfl, Nat.le_refl _, fun _ _ => rfl⟩)).mono ?_; rintro e w10 ⟨rfl, hw⟩; have hw := hw.symm; subst hw)
                  | (go_at_call 22; refine (H22.out _ (by exact ⟨rfl, rfl, rfl, Nat.le_refl _, fun _ _ => rfl⟩)).mono ?_; rintro e w10 ⟨rfl, hw⟩; have hw := hw.symm; subst hw))
                all_goals
                  go_wp2
                  go_meet
                  exact ⟨rfl, rfl, rfl, rfl, rfl, Nat.le_refl _, fun _ _ => rfl⟩
              · rw [decide_eq_true hka] at H21
                go_region_held3 (fun w' => w'.cell? ⟨r, 8, none⟩ = some (.int .i64 ct) ∧ w'.cell? ⟨r, 7, none⟩ = some (.slice ao2 ka ac) ∧ w'.cell? ⟨d, 1, none⟩ = some (.slice qo kq qc)) (first | exact ⟨e8, e7, e1⟩ | go_keep) (first
                  | (go_at_call 20; refine (H20.out _ (by exact ⟨rfl, rfl, rfl, Nat.le_refl _, fun _ _ => rfl⟩)).mono ?_; rintro e w10 ⟨rfl, hw⟩; have hw := hw.symm; subst hw)
                  | (go_at_call 21; refine (H21.out _ (by exact ⟨rfl, rfl, rfl, Nat.le_refl _, fun _ _ => rfl⟩)).mono ?_; rintro e w10 ⟨rfl, hw⟩; have hw := hw.symm; subst hw)
                  | (go_at_call 22; refine (H22.out _ (by exact ⟨rfl, rfl, rfl, Nat.le_refl _, fun _ _ => rfl⟩)).mono ?_; rintro e w10 ⟨rfl, hw⟩; have hw := hw.symm; subst hw))
                all_goals
                  go_wp2
                  go_meet
                  exact ⟨rfl, rfl, rfl, rfl, rfl, Nat.le_refl _, fun _ _ => rfl⟩
            case rest =>
              obtain ⟨rfl, rfl, hb10⟩ := hcut
              have HB10 := hid ((HB9.out.below hb10).low W.heap.size (by omega))
              have HW10 := hid (HW9.out.trans (hb10.mono (by have := HW9.out.size; omega)))
              clear hb10 e8 e7 e1
              go_wp2_with fail
              go_roundw
              case rel => exact ⟨qi + 1, n', A', by go_num, by omega, by omega, HB10.out, HW10.out⟩
              case measure => simp only [intOf] at *; omega
        · go_wp2
          go_meet
          exact ⟨n, A, by omega, HBq.out, HWq.out⟩
    case rest =>
      obtain ⟨n, A, hn, hbo, hbw⟩ := hcut
      rename World => w7
      have HB7 := hid hbo
      have HW7 := hid hbw
      clear hbo hbw
      go_wp2_with fail
      go_loopw [21] (fun i wr => ∃ k : Nat, i = .int .i64 ((k : Int) - 1) ∧ k ≤ x + 2 ∧ Both (W.heap.size + 1) W.heap.size s g jp m r d x y z j n wr A ∧ Below (W.heap.size + 1) W2 wr) (fun i _ => x + 2 - (intOf i + 1).toNat)
      case atStart => exact ⟨0, by first | rfl | go_num, by omega, HB7.out, HW7.out⟩
      case round =>
        obtain ⟨k, rfl, hk, hbo, hbw⟩ := hrel
        have HBq := hid hbo
        have HWq := hid hbw
        have hzq := hbw.size
        obtain ⟨a0, a1, a2⟩ := three_cells ((hbw.block W.heap.size (by omega)).trans HX.out)
        obtain ⟨da, db, ca, cb, r23, r24, r25, r26⟩ := hbo.reads ((k : Int) - 1) (by unfold inI; omega)
        have H23 := hid r23
        have H24 := hid r24
        have H25 := hid r25
        have H26 := hid r26
        have hca : (ca != ca) = false := by simp
        have hcb : (cb != cb) = false := by simp
        clear hbo hbw r23 r24 r25 r26
        by_cases hkx : k ≤ x + 1
        · go_wp2_with (first
            | (go_at_call 23; refine (H23.out _ (Below.refl _ _)).mono ?_; rintro e w8 ⟨rfl, hb8⟩)
            | (go_at_call 24; refine (H24.out _ hb8).mono ?_; rintro e w9 ⟨rfl, hb9⟩; have HB9 := hid (hb8.next hb9))
            | (go_at_call 25; refine (H25.out _ HB9.out).mono ?_; rintro e w10 ⟨rfl, hb10⟩; have HB10 := hid (HB9.out.next hb10))
            | (go_at_call 26; refine (H26.out _ HB10.out).mono ?_; rintro e w11 ⟨rfl, hb11⟩; have HB11 := hid (HB10.out.next hb11)))
          go_roundw
          case rel => exact ⟨k + 1, by go_num, by omega, HBq.out.below HB11.out, HWq.out.trans (HB11.out.mono (by omega))⟩
          case measure => simp only [intOf] at *; omega
        · go_wp2_with (first
            | (go_at_call 10; refine (HSA.out _).mono ?_; rintro e w8 ⟨rfl, hb8⟩))
          go_ret
          exact ⟨rfl, HBW.out.trans ((HWq.out.trans (hb8.mono (by omega))).mono (by omega))⟩
end Go.Proofs.YtopebghandojbaaGreat
