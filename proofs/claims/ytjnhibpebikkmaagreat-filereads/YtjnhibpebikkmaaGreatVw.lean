import Derived.Test.YtjnhibpebikkmaaGreatVu
import Derived.BigRegion
namespace Go.Proofs.YtjnhibpebikkmaaGreat
open Go.RowKit Go.Maps Go.Shelf

set_option maxRecDepth 100000 in
set_option maxHeartbeats 8000000 in
theorem reads_walk (vs : Value) (l : List Stp) (W : World) (hl : TLie W vs l) : Calls Tryz.prog 4 #[vs] W fun e w' => e = .returned (.bool true) ∧ Below W.heap.size W w' := by
  obtain ⟨ao, cap', rfl, hlc, hcm, hcell⟩ := hl
  have HT := hid hcell
  unfold maxLen at hcm
  clear hcell
  have q1 := q26n
  have q2 := q26y
  go_enter Tryz.func4, Tryz.ntmps4
  go_wp2_with (go_at_call 15; fail)
  refine (little_any _).mono ?_
  rintro e w1 ⟨rfl, hb1⟩
  have HB1 := hid hb1
  clear hb1
  go_wp2_with (go_at_call 16; fail)
  obtain ⟨w2, hw2⟩ : ∃ w2, w2 = w1.alloc (.cells #[.int .i64 40, .int .i64 20, .int .i64 4] 23) := ⟨_, rfl⟩
  have hX2 : w2.heap[w1.heap.size]? = some (.cells #[.int .i64 40, .int .i64 20, .int .i64 4] 23 (0, 0)) := by rw [hw2]; exact box_at _ _
  have HB2 : Hid (Below W.heap.size W w2) := by rw [hw2]; exact hid (HB1.out.next (below_alloc w1 _))
  rw [← hw2]
  clear hw2
  have hc2 : w2.cell? ⟨w1.heap.size, 0, none⟩ = some (.int .i64 40) ∧ w2.cell? ⟨w1.heap.size, 1, none⟩ = some (.int .i64 20) ∧ w2.cell? ⟨w1.heap.size, 2, none⟩ = some (.int .i64 4) := by simp [World.cell?, hX2]
  have hlt2 := lt_of_block hX2
  have HX2 := hid hX2
  clear hX2
  go_region_held3 (fun w' => w'.cell? ⟨w1.heap.size, 0, none⟩ = some (.int .i64 40) ∧ w'.cell? ⟨w1.heap.size, 1, none⟩ = some (.int .i64 20) ∧ w'.cell? ⟨w1.heap.size, 2, none⟩ = some (.int .i64 4)) (first | exact hc2 | exact hc3 | exact hc4 | go_keep) (first
    | (go_at_call 16; refine (blank_any _).mono ?_; rintro e w3 ⟨v3, rfl, hs3, hb3⟩
       have HB3 : Hid (Below w2.heap.size w2 w3) := hid ⟨hb3.os, hb3.tape, hb3.output, hb3.size, hb3.block⟩
       have hX3 := (HB3.out.block _ hlt2).trans HX2.out
       have hc3 : w3.cell? ⟨w1.heap.size, 0, none⟩ = some (.int .i64 40) ∧ w3.cell? ⟨w1.heap.size, 1, none⟩ = some (.int .i64 20) ∧ w3.cell? ⟨w1.heap.size, 2, none⟩ = some (.int .i64 4) := by simp [World.cell?, hX3]
       have HS3 : SRow W.heap.size w3 v3 sF := by
         obtain ⟨e1, e2 | ⟨x, cp, cur, e3, e4, e5⟩⟩ := hs3
         · exact ⟨e1, .inl e2⟩
         · exact ⟨e1, .inr ⟨x, cp, cur, e3, Nat.le_trans HB2.out.size e4, e5⟩⟩
       obtain ⟨ao', cp, hv3, hnew⟩ := sv_new2 (HB2.out.next HB3.out) HS3
       subst hv3
       have HNEW := hid hnew
       have HX3 := hid hX3
       clear hb3 hX3 hs3 HS3 hnew)
    | (go_at_call 8; refine (HNEW.out _ ⟨rfl, rfl, rfl, Nat.le_refl _, fun _ _ => rfl⟩).mono ?_; rintro e w4 ⟨p, rfl, hv4, hb4⟩
       have HV4 := hid hv4
       have hc4 : w4.cell? ⟨w1.heap.size, 0, none⟩ = some (.int .i64 40) ∧ w4.cell? ⟨w1.heap.size, 1, none⟩ = some (.int .i64 20) ∧ w4.cell? ⟨w1.heap.size, 2, none⟩ = some (.int .i64 4) := by
         have hX4 := (hb4.block _ (lt_of_block HX3.out)).trans HX3.out
         simp [World.cell?, hX4]
       clear hv4 hb4))
  clear hc2 hc3 HX2 HX3 hlt2 HB2 HB3 HNEW HB1
  by_cases h100 : 100 < l.length
  · have h1 : decide (100 < (l.length : Int)) = true := by simp; omega
    clear h100 HT
    go_wp2_with (go_at_call 9; fail)
    refine (speaks_any _).mono ?_
    rintro e w5 ⟨rfl, hb5⟩
    have HB5 := hid (HV4.out.next hb5)
    clear hb5
    go_wp2
    go_ret
    exact ⟨rfl, HB5.out.bel⟩
  · have h1 : decide (100 < (l.length : Int)) = false := by simp; omega
    clear hc4
    go_wp2_with (go_at_call 13; fail)
    refine (set_one HV4.out).mono ?_
    rintro e w5 ⟨rfl, hv5⟩
    have HV5 := hid hv5
    clear hv5
    go_wp2_with (go_at_call 13; fail)
    refine (set_two HV5.out).mono ?_
    rintro e w6 ⟨rfl, hv6⟩
    have HV6 := hid hv6
    clear hv6
    go_wp2
    obtain ⟨q, cap, m6, hv6, hq6, hm6⟩ := HV6.out.ex
    obtain ⟨g, hg⟩ : ∃ g, g = w6.heap.size := ⟨_, rfl⟩
    have HF6 : Hid (FR tB ((fun _ => []) 1) ((fun _ => []) 2)) := hid fr_new
    have HR6 : Hid (RV W p q cap g tB (w6.alloc (.cells #[.slice none 0 0, .slice none 0 0, .slice none 0 0] 46))) := by
      rw [hg]
      exact hid ((RV.new HV6.out hv6 hm6).next (below_alloc _ _))
    have HM6 : Hid (HM g g (fun _ => .slice none 0 0) (fun _ => []) (w6.alloc (.cells #[.slice none 0 0, .slice none 0 0, .slice none 0 0] 46))) := by
      rw [hg]
      exact hid (HM.new w6)
    rw [← hg]
    clear hv6 hq6 hm6 HV4 HV5 HV6 hg
    go_loopw [64] (fun iv wr => ∃ (i : Nat) (B : List ByteArray) (V : Nat → Value) (L : Nat → List UInt8), iv = .int .i64 (i : Int) ∧ i ≤ l.length ∧ FR B (L 1) (L 2) ∧ RV W p q cap g B wr ∧ HM g g V L wr) (fun iv _ => l.length - (intOf iv).toNat)
    case atStart => exact ⟨0, tB, _, (fun _ => []), rfl, Nat.zero_le _, HF6.out, HR6.out, HM6.out⟩
    case round =>
      clear HF6 HR6 HM6
      obtain ⟨i, B, V, L, rfl, hi, hF, hR, hH⟩ := hrel
      have HF := hid hF
      have HR := hid hR
      have HH := hid hH
      clear hF hR hH
      by_cases hil : i < l.length
      · have hlt : decide ((i : Int) < (l.length : Int)) = true := by simp; omega
        obtain ⟨gb, off, e, hgl, hst⟩ := HT.out i hil
        subst e
        replace hst := hst.same (HR.out.bel.block gb hgl)
        have hgr : gb < wr.heap.size := Nat.lt_of_lt_of_le hgl HR.out.bel.size
        obtain ⟨s, hs⟩ : ∃ s, s = l[i] := ⟨_, rfl⟩
        rw [← hs] at hst
        clear hs
        obtain ⟨sk, si, sa, sn, sd, ⟨k, l, z, a0, b0, c0, d0, e0, f0, s0, t0⟩⟩ := s
        have HST := hid hst
        clear hst
        go_upto_if 71 with (refine load35 rfl (.tmp 66) rfl gb _ rfl _ _ _ _ _ _ _ _ _ _ _ _ _ _ _ _ HST.out ?_)
        clear HST
        obtain ⟨w3, hw3⟩ : ∃ w3, w3 = wr.alloc (.cells #[.int .i64 sk, .int .i64 si, .int .i64 sa, .int .i64 sn, .string sd, .int .i64 k, .int .i64 l, .int .i64 z, .int .i64 a0, .int .i64 b0, .int .i64 c0, .int .i64 d0, .int .i64 e0, .int .i64 f0, .int .i64 s0, .int .i64 t0] 35) := ⟨_, rfl⟩
        have HB3 : Hid (Below wr.heap.size wr w3) := by rw [hw3]; exact hid (below_alloc wr _)
        obtain ⟨X, hX⟩ : ∃ X, X = wr.heap.size := ⟨_, rfl⟩
        have HX3 : Hid (Sx X w3 sk si sa sd ∧ g < X) := by
          have hb : w3.heap[wr.heap.size]? = some (.cells #[.int .i64 sk, .int .i64 si, .int .i64 sa, .int .i64 sn, .string sd, .int .i64 k, .int .i64 l, .int .i64 z, .int .i64 a0, .int .i64 b0, .int .i64 c0, .int .i64 d0, .int .i64 e0, .int .i64 f0, .int .i64 s0, .int .i64 t0] 35 (0, 0)) := by rw [hw3]; exact box_at _ _
          rw [hX]
          exact hid ⟨⟨⟨_, hb⟩, by simp [World.cell?, hb], by simp [World.cell?, hb], by simp [World.cell?, hb], by simp [World.cell?, hb]⟩, lt_of_block HH.out.blk⟩
        rw [← hw3, ← hX]
        have HR3 := hid (HR.out.next HB3.out)
        have HH3 := hid (HH.out.next HB3.out)
        clear hw3 HR HH HB3 hX hgl hgr
        go_cut [9, 64] from 64 to 227 (fun iv cv wx => w3 = wx ∧ cv = .int .i64 (i : Int) ∧ ∃ j : Nat, iv = .int .i64 (j : Int) ∧ (j = 1 ∨ j = 2))
        case first =>
          go_wp2
          all_goals
            go_meet
            first
              | exact ⟨rfl, rfl, 1, rfl, .inl rfl⟩
              | exact ⟨rfl, rfl, 2, rfl, .inr rfl⟩
        case rest =>
        obtain ⟨rfl, rfl, j, rfl, hj⟩ := hcut
        obtain ⟨x0, x1, x2, x4⟩ : w3.cell? ⟨X, 0, none⟩ = some (.int .i64 sk) ∧ w3.cell? ⟨X, 1, none⟩ = some (.int .i64 si) ∧ w3.cell? ⟨X, 2, none⟩ = some (.int .i64 sa) ∧ w3.cell? ⟨X, 4, none⟩ = some (.string sd) := ⟨HX3.out.1.c0, HX3.out.1.c1, HX3.out.1.c2, HX3.out.1.c4⟩
        by_cases h1 : sa < 0
        · go_wp2
          go_roundw
          case rel => exact ⟨i + 1, B, V, L, by go_num, by omega, HF.out, HR3.out, HH3.out⟩
          case measure => simp only [intOf]; omega
        by_cases h2 : 20000 < sa
        · go_wp2
          go_roundw
          case rel => exact ⟨i + 1, B, V, L, by go_num, by omega, HF.out, HR3.out, HH3.out⟩
          case measure => simp only [intOf]; omega
        by_cases h3 : 1024 < sd.size
        · have h3' : decide (1024 < (sd.size : Int)) = true := by simp; omega
          go_wp2
          go_roundw
          case rel => exact ⟨i + 1, B, V, L, by go_num, by omega, HF.out, HR3.out, HH3.out⟩
          case measure => simp only [intOf]; omega
        have h3' : decide (1024 < (sd.size : Int)) = false := by simp; omega
        go_upto_block 2 with fail
        obtain ⟨y, hy⟩ : ∃ y : Nat, sa = (y : Int) := ⟨sa.toNat, by omega⟩
        subst hy
        clear h1 h3' x0 x1 x2 x4
        go_cut [10, 64] from 64 to 227 (fun _ cv wx => cv = .int .i64 (i : Int) ∧ ∃ (B' : List ByteArray) (V' : Nat → Value) (L' : Nat → List UInt8), FR B' (L' 1) (L' 2) ∧ RV W p q cap g B' wx ∧ HM g g V' L' wx ∧ Sx X wx sk si (y : Int) sd)
        case first =>
          have HXN : Hid (∀ m, VI sG p q cap m w3 sF B → X ∉ [p, m]) := hid (fun m hv hx => by
            have hp := HR3.out.pq.1
            have hgx := HX3.out.2
            obtain ⟨cs, hc⟩ := HX3.out.1.c
            simp at hx
            rcases hx with rfl | rfl
            · omega
            · obtain ⟨M, hM, _⟩ := hv.map
              obtain ⟨es, c, e⟩ := hM.isMap
              rw [e] at hc
              cases hc)
          obtain ⟨x0, x1, x2, x4⟩ : w3.cell? ⟨X, 0, none⟩ = some (.int .i64 sk) ∧ w3.cell? ⟨X, 1, none⟩ = some (.int .i64 si) ∧ w3.cell? ⟨X, 2, none⟩ = some (.int .i64 (y : Int)) ∧ w3.cell? ⟨X, 4, none⟩ = some (.string sd) := ⟨HX3.out.1.c0, HX3.out.1.c1, HX3.out.1.c2, HX3.out.1.c4⟩
          obtain ⟨m3, hv3, hm3⟩ := HR3.out.vi
          replace HXN := hid (HXN.out m3 hv3)
          by_cases hk0 : sk = 0
          · as_aux_lemma =>
            subst hk0
            go_wp2_with (go_at_call 11; fail)
            refine (wr_vi (j : Int) (y : Int) sd hv3).mono ?_
            rintro e w4 ⟨r, B4, m4, rfl, hwr, hv4, ho4, hm4⟩
            have HR4 := hid (HR3.out.view hm3 hv4 ho4 hm4)
            have HH4 := hid (HH3.out.view HR3.out hv3 ho4)
            have HX4 : Hid (Sx X w4 0 si (y : Int) sd) := hid (HX3.out.1.same (ho4.block X HX3.out.1.lt HXN.out))
            have hw := HF.out.wr hj hwr (by omega) (by omega)
            clear hwr hv4 ho4 hm4 hv3 hm3
            obtain ⟨c0, c1, c2, c4⟩ : w4.cell? ⟨X, 0, none⟩ = some (.int .i64 0) ∧ w4.cell? ⟨X, 1, none⟩ = some (.int .i64 si) ∧ w4.cell? ⟨X, 2, none⟩ = some (.int .i64 (y : Int)) ∧ w4.cell? ⟨X, 4, none⟩ = some (.string sd) := ⟨HX4.out.c0, HX4.out.c1, HX4.out.c2, HX4.out.c4⟩
            rcases hw with ⟨hBB, hcase⟩ | ⟨hr0, hd0, y', hy', hF4⟩
            · subst hBB
              by_cases hr0 : r = 0
              · have hs0 : sd = ⟨#[]⟩ := by
                  have := hcase.resolve_left (fun h => h hr0)
                  apply ByteArray.ext
                  exact Array.eq_empty_of_size_eq_zero this
                subst hr0 hs0
                go_wp2
                go_meet
                exact ⟨rfl, B4, V, L, HF.out, HR4.out, HH4.out, HX4.out⟩
              · have hr1 : (r == 0) = false := by simpa using hr0
                go_wp2
                go_meet
                exact ⟨rfl, B4, V, L, HF.out, HR4.out, HH4.out, HX4.out⟩
            · have hyy : y' = y := by omega
              subst hyy hr0
              rename Nat => y
              have HF4 := hid hF4
              have HDS : Hid (sd.data.toList.length = sd.size) := hid (len_list sd)
              have hj3 : j < 3 := by omega
              have HGX := hid HX3.out.2
              have HH5 : Hid (HM g g V (upv L j (grw (L j) 0)) w4) := hid (by rw [show grw (L j) 0 = L j from by simp [grw], upv_self]; exact HH4.out)
              have HLB : Hid ((L j).length ≤ 30000) := hid (by rcases hj with rfl | rfl; exact HF.out.one.len; exact HF.out.two.len)
              have hne : sd.toList.isEmpty = false := by
                rw [Lib.toList_data, List.isEmpty_eq_false_iff]
                intro h1
                apply hd0
                have h2 := len_list sd
                rw [h1] at h2
                exact h2.symm
              have hws : IntKind.i64.wrap ((y : Int) + (sd.size : Int)) = (y : Int) + (sd.size : Int) := by rw [IntKind.wrap_i64]; omega
              clear hF4 HH4 hy' hd0
              go_wp2
              go_loopw [120] (fun _ wr => ∃ (t : Nat) (V' : Nat → Value), (t = 0 ∨ (L j).length + t ≤ y + sd.size) ∧ RV W p q cap g B4 wr ∧ HM g g V' (upv L j (grw (L j) t)) wr ∧ Sx X wr 0 si (y : Int) sd) (fun _ wr => y + sd.size - lenAt wr g j)
              case atStart => exact ⟨0, V, .inl rfl, HR4.out, HH5.out, HX4.out⟩
              case round =>
                obtain ⟨t, V', ht, hR, hH, hX⟩ := hrel
                rename World => wr
                have hm := hH.lenAt hj3
                rw [upv_at, grw_len] at hm
                obtain ⟨ao, cap', hVj, hcap⟩ := hH.sl hj3
                rw [upv_at, grw_len] at hVj hcap
                have hcv := (hH.val hj3).1
                rw [hVj] at hcv
                obtain ⟨e0, e1, e2, e4⟩ : wr.cell? ⟨X, 0, none⟩ = some (.int .i64 0) ∧ wr.cell? ⟨X, 1, none⟩ = some (.int .i64 si) ∧ wr.cell? ⟨X, 2, none⟩ = some (.int .i64 (y : Int)) ∧ wr.cell? ⟨X, 4, none⟩ = some (.string sd) := ⟨hX.c0, hX.c1, hX.c2, hX.c4⟩
                have HR := hid hR
                have HH := hid hH
                have HX := hid hX
                have HVJ := hid hVj
                have HM0 := hid hm
                obtain ⟨n, hn⟩ : ∃ n, n = (L j).length + t := ⟨_, rfl⟩
                rw [← hn] at hcv HVJ HM0 hcap
                have HN := hid hn
                have HT0 := hid ht
                clear hR hH hX hVj hm HH5 HR4 HX4 hn ht c0 c1 c2 c4
                by_cases hlt : n < y + sd.size
                · as_aux_lemma =>
                  have hlt2 : decide ((n : Int) < (y : Int) + (sd.size : Int)) = true := decide_eq_true (by omega)
                  go_wp2
                  go_quiet (fail)
                  go_wp2_with (first
                    | (at_builtin; refine pushB2 rfl (.tmp 118) (.tmp 119) rfl g g j _ V' (upv L j (grw (L j) t)) HVJ.out.symm rfl rfl (by exact HH.out.next ⟨rfl, rfl, rfl, Nat.le_refl _, fun _ _ => rfl⟩) hj3 (by rw [upv_at, grw_len, ← HN.out]; omega) (by exact HR.out.gl) ?_
                       intro v' w' hp hrv hsz hkp
                       have HP := hid hp
                       have hrv2 := hrv _ _ _ _ _ (by exact HR.out.next ⟨rfl, rfl, rfl, Nat.le_refl _, fun _ _ => rfl⟩)
                       have HRV := hid hrv2
                       have hxk := hkp X (by exact HX.out.lt) (fun e => by
                         obtain ⟨cs, hc⟩ := HX.out.c
                         obtain ⟨_, cur, h2⟩ := own_blk (HH.out.row j hj3) e.symm
                         rw [hc] at h2
                         cases h2)
                       have HX5 : Hid (Sx X w' 0 si (y : Int) sd) := hid (HX.out.same (by exact hxk))
                       obtain ⟨ao2, cap2, hv2, _⟩ := hp.sl
                       obtain ⟨m2, hm2⟩ : ∃ m, m = (upv L j (grw (L j) t) j ++ [0]).length := ⟨_, rfl⟩
                       rw [← hm2] at hv2
                       have hpc := (hp.val hj3).1
                       have hpf := (hp.val hj3).2
                       rw [HVJ.out] at hpc
                       have hgl := lt_of_block hp.blk
                       clear hp hrv hsz hkp hrv2 hxk hm2
                       subst hv2))
                  have HG := hid (HP.out.grown hj3)
                  go_roundw
                  case rel => exact ⟨t + 1, _, .inr (by have := HN.out; omega), HRV.out.over HG.out.2 (Nat.le_refl _) HP.out.notmap, HG.out.1, HX5.out.same (HG.out.2.block X HX5.out.lt (by rw [List.mem_singleton]; have := HGX.out; omega))⟩
                  case measure =>
                    have h1 := HG.out.1.lenAt hj3
                    rw [upv_at, grw_len] at h1
                    have h2 := HN.out
                    have h3 := HM0.out
                    rw [h3]
                    rw [h1]
                    omega
                · as_aux_lemma =>
                  have hlt2 : decide ((n : Int) < (y : Int) + (sd.size : Int)) = false := decide_eq_false (by omega)
                  have HPD : Hid (grw (L j) t = padl (L j) (y + sd.size)) := hid (grw_end HT0.out (by rw [← HN.out]; exact hlt))
                  rw [HPD.out] at HH
                  have HZ : Hid (Lay (padl (L j) (y + sd.data.toList.length)) sd.data.toList y 0 (padl (L j) (y + sd.size))) := hid (by rw [← HDS.out]; exact Lay.zero _ _ _)
                  have HNL : Hid (n = (padl (L j) (y + sd.size)).length) := hid (by rw [← HPD.out, grw_len]; exact HN.out)
                  go_wp2
                  go_quiet (fail)
                  go_wp2
                  go_loopw [10] (fun kv wr => ∃ (k : Nat) (l : List UInt8), kv = .int .i64 (k : Int) ∧ k ≤ sd.size ∧ RV W p q cap g B4 wr ∧ HM g g V' (upv L j l) wr ∧ Lay (padl (L j) (y + sd.data.toList.length)) sd.data.toList y k l ∧ Sx X wr 0 si (y : Int) sd) (fun kv _ => sd.size - (intOf kv).toNat)
                  case atStart => exact ⟨0, _, rfl, Nat.zero_le _, by exact HR.out.next ⟨rfl, rfl, rfl, Nat.le_refl _, fun _ _ => rfl⟩, by exact HH.out.next ⟨rfl, rfl, rfl, Nat.le_refl _, fun _ _ => rfl⟩, HZ.out, by exact HX.out.next ⟨rfl, rfl, rfl, Nat.le_refl _, fun _ _ => rfl⟩⟩
                  case round =>
                    clear HR HH HX e0 e1 e2 e4 hcv hcap
                    obtain ⟨k, l, rfl, hk, hR, hH, hL, hX⟩ := hrel
                    rename World => wy
                    obtain ⟨e0, e1, e2, e4⟩ : wy.cell? ⟨X, 0, none⟩ = some (.int .i64 0) ∧ wy.cell? ⟨X, 1, none⟩ = some (.int .i64 si) ∧ wy.cell? ⟨X, 2, none⟩ = some (.int .i64 (y : Int)) ∧ wy.cell? ⟨X, 4, none⟩ = some (.string sd) := ⟨hX.c0, hX.c1, hX.c2, hX.c4⟩
                    have HR := hid hR
                    have HH := hid hH
                    have HL := hid hL
                    have HX := hid hX
                    clear hR hH hL hX
                    by_cases hks : k < sd.size
                    · as_aux_lemma =>
                      have hd2 : decide ((k : Int) < (sd.size : Int)) = true := decide_eq_true (by omega)
                      have hkd : k < sd.data.toList.length := by rw [HDS.out]; exact hks
                      have hpl : y + k < (padl (L j) (y + sd.data.toList.length)).length := by rw [padl_len]; omega
                      have hll : y + k < l.length := by rw [HL.out.1]; exact hpl
                      have hnk : y + k < n := by rw [HNL.out, ← HDS.out]; exact hpl
                      obtain ⟨xb, rfl⟩ := HH.out.addr hj3 HVJ.out (by rw [upv_at]; omega)
                      have hcv := (HH.out.val hj3).1
                      rw [HVJ.out] at hcv
                      have hstr := str_at sd k hkd
                      have HLN := hid (HL.out.next hkd hpl)
                      obtain ⟨b, hb⟩ : ∃ b, b = sd.data.toList[k]'hkd := ⟨_, rfl⟩
                      rw [← hb] at hstr HLN
                      obtain ⟨h1, h2, h3, hfz, ⟨z, hzc⟩, h6⟩ := HH.out.laid hj3 HVJ.out hll b
                      obtain ⟨cur5, hb5⟩ := HH.out.blk5 hj3 HVJ.out
                      have hxlt := lt_of_block hb5
                      have HH7 := hid h1
                      have HO7 := hid h2
                      have HX7 : Hid (X ≠ xb) := hid (fun e => by
                        obtain ⟨cs, hc⟩ := HX.out.c
                        rw [e, hb5] at hc
                        cases hc)
                      have HN7 := hid (And.intro h3 h6)
                      have hyk : IntKind.i64.wrap ((y : Int) + (k : Int)) = (y : Int) + (k : Int) := by rw [IntKind.wrap_i64]; omega
                      have hp1 : 0 ≤ (y : Int) + (k : Int) ∧ (y : Int) + (k : Int) < (n : Int) := by omega
                      have hp2 : ((y : Int) + (k : Int)).toNat = y + k := by omega
                      clear hb h1 h2 h3 h6 hb5 hkd hpl hll
                      go_wp2
                      go_region
                      go_wp2
                      go_roundw
                      case rel => exact ⟨k + 1, l.set (y + k) b, by go_num, by omega, by exact (HR.out.over HO7.out HN7.out.1 HN7.out.2).next ⟨rfl, rfl, rfl, Nat.le_refl _, fun _ _ => rfl⟩, by exact HH7.out.next ⟨rfl, rfl, rfl, Nat.le_refl _, fun _ _ => rfl⟩, HLN.out, by exact (HX.out.same (HO7.out.block X HX.out.lt (by rw [List.mem_singleton]; exact HX7.out))).next ⟨rfl, rfl, rfl, Nat.le_refl _, fun _ _ => rfl⟩⟩
                      case measure => simp only [intOf]; omega
                    · have hd2 : decide ((k : Int) < (sd.size : Int)) = false := decide_eq_false (by omega)
                      have hke : k = sd.data.toList.length := by rw [HDS.out]; omega
                      have HLE : Hid (l = wrt (L j) y sd.data.toList) := hid (by have := HL.out; rw [hke] at this; exact this.done)
                      rw [HLE.out] at HH
                      clear hke
                      go_wp2
                      go_meet
                      exact ⟨rfl, B4, V', upv L j (wrt (L j) y sd.data.toList), HF4.out, HR.out, HH.out, HX.out⟩
          by_cases hk1 : sk = 1
          · as_aux_lemma =>
            subst hk1
            go_wp2_with (go_at_call 11; fail)
            refine (wr_vi (j : Int) (y : Int) sd hv3).mono ?_
            rintro e w4 ⟨r, B4, m4, rfl, hwr, hv4, ho4, hm4⟩
            have HR4 := hid (HR3.out.view hm3 hv4 ho4 hm4)
            have HH4 := hid (HH3.out.view HR3.out hv3 ho4)
            have HX4 : Hid (Sx X w4 1 si (y : Int) sd) := hid (HX3.out.1.same (ho4.block X HX3.out.1.lt HXN.out))
            have hw := HF.out.wr hj hwr (by omega) (by omega)
            clear hwr hv4 ho4 hm4 hv3 hm3
            obtain ⟨c0, c1, c2, c4⟩ : w4.cell? ⟨X, 0, none⟩ = some (.int .i64 1) ∧ w4.cell? ⟨X, 1, none⟩ = some (.int .i64 si) ∧ w4.cell? ⟨X, 2, none⟩ = some (.int .i64 (y : Int)) ∧ w4.cell? ⟨X, 4, none⟩ = some (.string sd) := ⟨HX4.out.c0, HX4.out.c1, HX4.out.c2, HX4.out.c4⟩
            rcases hw with ⟨hBB, hcase⟩ | ⟨hr0, hd0, y', hy', hF4⟩
            · subst hBB
              by_cases hr0 : r = 0
              · have hs0 : sd = ⟨#[]⟩ := by
                  have := hcase.resolve_left (fun h => h hr0)
                  apply ByteArray.ext
                  exact Array.eq_empty_of_size_eq_zero this
                subst hr0 hs0
                go_wp2
                go_meet
                exact ⟨rfl, B4, V, L, HF.out, HR4.out, HH4.out, HX4.out⟩
              · have hr1 : (r == 0) = false := by simpa using hr0
                go_wp2
                go_meet
                exact ⟨rfl, B4, V, L, HF.out, HR4.out, HH4.out, HX4.out⟩
            · have hyy : y' = y := by omega
              subst hyy hr0
              rename Nat => y
              have HF4 := hid hF4
              have HDS : Hid (sd.data.toList.length = sd.size) := hid (len_list sd)
              have hj3 : j < 3 := by omega
              have HGX := hid HX3.out.2
              have HH5 : Hid (HM g g V (upv L j (grw (L j) 0)) w4) := hid (by rw [show grw (L j) 0 = L j from by simp [grw], upv_self]; exact HH4.out)
              have HLB : Hid ((L j).length ≤ 30000) := hid (by rcases hj with rfl | rfl; exact HF.out.one.len; exact HF.out.two.len)
              have hne : sd.toList.isEmpty = false := by
                rw [Lib.toList_data, List.isEmpty_eq_false_iff]
                intro h1
                apply hd0
                have h2 := len_list sd
                rw [h1] at h2
                exact h2.symm
              have hws : IntKind.i64.wrap ((y : Int) + (sd.size : Int)) = (y : Int) + (sd.size : Int) := by rw [IntKind.wrap_i64]; omega
              clear hF4 HH4 hy' hd0
              go_wp2
              go_loopw [120] (fun _ wr => ∃ (t : Nat) (V' : Nat → Value), (t = 0 ∨ (L j).length + t ≤ y + sd.size) ∧ RV W p q cap g B4 wr ∧ HM g g V' (upv L j (grw (L j) t)) wr ∧ Sx X wr 1 si (y : Int) sd) (fun _ wr => y + sd.size - lenAt wr g j)
              case atStart => exact ⟨0, V, .inl rfl, HR4.out, HH5.out, HX4.out⟩
              case round =>
                obtain ⟨t, V', ht, hR, hH, hX⟩ := hrel
                rename World => wr
                have hm := hH.lenAt hj3
                rw [upv_at, grw_len] at hm
                obtain ⟨ao, cap', hVj, hcap⟩ := hH.sl hj3
                rw [upv_at, grw_len] at hVj hcap
                have hcv := (hH.val hj3).1
                rw [hVj] at hcv
                obtain ⟨e0, e1, e2, e4⟩ : wr.cell? ⟨X, 0, none⟩ = some (.int .i64 1) ∧ wr.cell? ⟨X, 1, none⟩ = some (.int .i64 si) ∧ wr.cell? ⟨X, 2, none⟩ = some (.int .i64 (y : Int)) ∧ wr.cell? ⟨X, 4, none⟩ = some (.string sd) := ⟨hX.c0, hX.c1, hX.c2, hX.c4⟩
                have HR := hid hR
                have HH := hid hH
                have HX := hid hX
                have HVJ := hid hVj
                have HM0 := hid hm
                obtain ⟨n, hn⟩ : ∃ n, n = (L j).length + t := ⟨_, rfl⟩
                rw [← hn] at hcv HVJ HM0 hcap
                have HN := hid hn
                have HT0 := hid ht
                clear hR hH hX hVj hm HH5 HR4 HX4 hn ht c0 c1 c2 c4
                by_cases hlt : n < y + sd.size
                · as_aux_lemma =>
                  have hlt2 : decide ((n : Int) < (y : Int) + (sd.size : Int)) = true := decide_eq_true (by omega)
                  go_wp2
                  go_quiet (fail)
                  go_wp2_with (first
                    | (at_builtin; refine pushB2 rfl (.tmp 118) (.tmp 119) rfl g g j _ V' (upv L j (grw (L j) t)) HVJ.out.symm rfl rfl (by exact HH.out.next ⟨rfl, rfl, rfl, Nat.le_refl _, fun _ _ => rfl⟩) hj3 (by rw [upv_at, grw_len, ← HN.out]; omega) (by exact HR.out.gl) ?_
                       intro v' w' hp hrv hsz hkp
                       have HP := hid hp
                       have hrv2 := hrv _ _ _ _ _ (by exact HR.out.next ⟨rfl, rfl, rfl, Nat.le_refl _, fun _ _ => rfl⟩)
                       have HRV := hid hrv2
                       have hxk := hkp X (by exact HX.out.lt) (fun e => by
                         obtain ⟨cs, hc⟩ := HX.out.c
                         obtain ⟨_, cur, h2⟩ := own_blk (HH.out.row j hj3) e.symm
                         rw [hc] at h2
                         cases h2)
                       have HX5 : Hid (Sx X w' 1 si (y : Int) sd) := hid (HX.out.same (by exact hxk))
                       obtain ⟨ao2, cap2, hv2, _⟩ := hp.sl
                       obtain ⟨m2, hm2⟩ : ∃ m, m = (upv L j (grw (L j) t) j ++ [0]).length := ⟨_, rfl⟩
                       rw [← hm2] at hv2
                       have hpc := (hp.val hj3).1
                       have hpf := (hp.val hj3).2
                       rw [HVJ.out] at hpc
                       have hgl := lt_of_block hp.blk
                       clear hp hrv hsz hkp hrv2 hxk hm2
                       subst hv2))
                  have HG := hid (HP.out.grown hj3)
                  go_roundw
                  case rel => exact ⟨t + 1, _, .inr (by have := HN.out; omega), HRV.out.over HG.out.2 (Nat.le_refl _) HP.out.notmap, HG.out.1, HX5.out.same (HG.out.2.block X HX5.out.lt (by rw [List.mem_singleton]; have := HGX.out; omega))⟩
                  case measure =>
                    have h1 := HG.out.1.lenAt hj3
                    rw [upv_at, grw_len] at h1
                    have h2 := HN.out
                    have h3 := HM0.out
                    rw [h3]
                    rw [h1]
                    omega
                · as_aux_lemma =>
                  have hlt2 : decide ((n : Int) < (y : Int) + (sd.size : Int)) = false := decide_eq_false (by omega)
                  have HPD : Hid (grw (L j) t = padl (L j) (y + sd.size)) := hid (grw_end HT0.out (by rw [← HN.out]; exact hlt))
                  rw [HPD.out] at HH
                  have HZ : Hid (Lay (padl (L j) (y + sd.data.toList.length)) sd.data.toList y 0 (padl (L j) (y + sd.size))) := hid (by rw [← HDS.out]; exact Lay.zero _ _ _)
                  have HNL : Hid (n = (padl (L j) (y + sd.size)).length) := hid (by rw [← HPD.out, grw_len]; exact HN.out)
                  go_wp2
                  go_quiet (fail)
                  go_wp2
                  go_loopw [10] (fun kv wr => ∃ (k : Nat) (l : List UInt8), kv = .int .i64 (k : Int) ∧ k ≤ sd.size ∧ RV W p q cap g B4 wr ∧ HM g g V' (upv L j l) wr ∧ Lay (padl (L j) (y + sd.data.toList.length)) sd.data.toList y k l ∧ Sx X wr 1 si (y : Int) sd) (fun kv _ => sd.size - (intOf kv).toNat)
                  case atStart => exact ⟨0, _, rfl, Nat.zero_le _, by exact HR.out.next ⟨rfl, rfl, rfl, Nat.le_refl _, fun _ _ => rfl⟩, by exact HH.out.next ⟨rfl, rfl, rfl, Nat.le_refl _, fun _ _ => rfl⟩, HZ.out, by exact HX.out.next ⟨rfl, rfl, rfl, Nat.le_refl _, fun _ _ => rfl⟩⟩
                  case round =>
                    clear HR HH HX e0 e1 e2 e4 hcv hcap
                    obtain ⟨k, l, rfl, hk, hR, hH, hL, hX⟩ := hrel
                    rename World => wy
                    obtain ⟨e0, e1, e2, e4⟩ : wy.cell? ⟨X, 0, none⟩ = some (.int .i64 1) ∧ wy.cell? ⟨X, 1, none⟩ = some (.int .i64 si) ∧ wy.cell? ⟨X, 2, none⟩ = some (.int .i64 (y : Int)) ∧ wy.cell? ⟨X, 4, none⟩ = some (.string sd) := ⟨hX.c0, hX.c1, hX.c2, hX.c4⟩
                    have HR := hid hR
                    have HH := hid hH
                    have HL := hid hL
                    have HX := hid hX
                    clear hR hH hL hX
                    by_cases hks : k < sd.size
                    · as_aux_lemma =>
                      have hd2 : decide ((k : Int) < (sd.size : Int)) = true := decide_eq_true (by omega)
                      have hkd : k < sd.data.toList.length := by rw [HDS.out]; exact hks
                      have hpl : y + k < (padl (L j) (y + sd.data.toList.length)).length := by rw [padl_len]; omega
                      have hll : y + k < l.length := by rw [HL.out.1]; exact hpl
                      have hnk : y + k < n := by rw [HNL.out, ← HDS.out]; exact hpl
                      obtain ⟨xb, rfl⟩ := HH.out.addr hj3 HVJ.out (by rw [upv_at]; omega)
                      have hcv := (HH.out.val hj3).1
                      rw [HVJ.out] at hcv
                      have hstr := str_at sd k hkd
                      have HLN := hid (HL.out.next hkd hpl)
                      obtain ⟨b, hb⟩ : ∃ b, b = sd.data.toList[k]'hkd := ⟨_, rfl⟩
                      rw [← hb] at hstr HLN
                      obtain ⟨h1, h2, h3, hfz, ⟨z, hzc⟩, h6⟩ := HH.out.laid hj3 HVJ.out hll b
                      obtain ⟨cur5, hb5⟩ := HH.out.blk5 hj3 HVJ.out
                      have hxlt := lt_of_block hb5
                      have HH7 := hid h1
                      have HO7 := hid h2
                      have HX7 : Hid (X ≠ xb) := hid (fun e => by
                        obtain ⟨cs, hc⟩ := HX.out.c
                        rw [e, hb5] at hc
                        cases hc)
                      have HN7 := hid (And.intro h3 h6)
                      have hyk : IntKind.i64.wrap ((y : Int) + (k : Int)) = (y : Int) + (k : Int) := by rw [IntKind.wrap_i64]; omega
                      have hp1 : 0 ≤ (y : Int) + (k : Int) ∧ (y : Int) + (k : Int) < (n : Int) := by omega
                      have hp2 : ((y : Int) + (k : Int)).toNat = y + k := by omega
                      clear hb h1 h2 h3 h6 hb5 hkd hpl hll
                      go_wp2
                      go_region
                      go_wp2
                      go_roundw
                      case rel => exact ⟨k + 1, l.set (y + k) b, by go_num, by omega, by exact (HR.out.over HO7.out HN7.out.1 HN7.out.2).next ⟨rfl, rfl, rfl, Nat.le_refl _, fun _ _ => rfl⟩, by exact HH7.out.next ⟨rfl, rfl, rfl, Nat.le_refl _, fun _ _ => rfl⟩, HLN.out, by exact (HX.out.same (HO7.out.block X HX.out.lt (by rw [List.mem_singleton]; exact HX7.out))).next ⟨rfl, rfl, rfl, Nat.le_refl _, fun _ _ => rfl⟩⟩
                      case measure => simp only [intOf]; omega
                    · have hd2 : decide ((k : Int) < (sd.size : Int)) = false := decide_eq_false (by omega)
                      have hke : k = sd.data.toList.length := by rw [HDS.out]; omega
                      have HLE : Hid (l = wrt (L j) y sd.data.toList) := hid (by have := HL.out; rw [hke] at this; exact this.done)
                      rw [HLE.out] at HH
                      clear hke
                      go_wp2
                      go_meet
                      exact ⟨rfl, B4, V', upv L j (wrt (L j) y sd.data.toList), HF4.out, HR.out, HH.out, HX.out⟩
          by_cases hk2 : sk = 2
          · as_aux_lemma =>
            subst hk2
            have hj3 : j < 3 := by omega
            have HGX := hid HX3.out.2
            have HLB : Hid ((L j).length ≤ 30000) := hid (by rcases hj with rfl | rfl; exact HF.out.one.len; exact HF.out.two.len)
            have hu := (FI.usd HF.out.ti (show j < 4 by omega) (HF.out.fi hj)).1
            have HCT := hid (cut_ok j y (by omega) hu hv3)
            have HFC := hid (HF.out.ct hj (show y ≤ 20000 by omega))
            obtain ⟨B4, hB4⟩ : ∃ B4, B4 = cutB sG B j (usdI sG B (j : Int)) y := ⟨_, rfl⟩
            rw [← hB4] at HCT HFC
            have HF4 := hid HFC.out
            clear hB4 hu
            go_wp2_with (go_at_call 12; fail)
            refine HCT.out.mono ?_
            rintro e w4 ⟨rfl, hv4, ho4⟩
            have ho5 : Only [p, m3] w3 w4 := ho4.wide (by simp)
            have HR4 := hid (HR3.out.view hm3 hv4 ho5 (.inl rfl))
            have HH4 := hid (HH3.out.view HR3.out hv3 ho5)
            have HX4 : Hid (Sx X w4 2 si (y : Int) sd) := hid (HX3.out.1.same (ho5.block X HX3.out.1.lt HXN.out))
            have HH5 : Hid (HM g g V (upv L j (grw (L j) 0)) w4) := hid (by rw [show grw (L j) 0 = L j from by simp [grw], upv_self]; exact HH4.out)
            obtain ⟨c0, c1, c2, c4⟩ : w4.cell? ⟨X, 0, none⟩ = some (.int .i64 2) ∧ w4.cell? ⟨X, 1, none⟩ = some (.int .i64 si) ∧ w4.cell? ⟨X, 2, none⟩ = some (.int .i64 (y : Int)) ∧ w4.cell? ⟨X, 4, none⟩ = some (.string sd) := ⟨HX4.out.c0, HX4.out.c1, HX4.out.c2, HX4.out.c4⟩
            clear hv4 ho4 ho5 hv3 hm3 HCT HFC HH4
            go_wp2
            go_loopw [161] (fun _ wr => ∃ (t : Nat) (V' : Nat → Value), (t = 0 ∨ (L j).length + t ≤ y) ∧ RV W p q cap g B4 wr ∧ HM g g V' (upv L j (grw (L j) t)) wr ∧ Sx X wr 2 si (y : Int) sd) (fun _ wr => y - lenAt wr g j)
            case atStart => exact ⟨0, V, .inl rfl, HR4.out, HH5.out, HX4.out⟩
            case round =>
              obtain ⟨t, V', ht, hR, hH, hX⟩ := hrel
              rename World => wr
              have hm := hH.lenAt hj3
              rw [upv_at, grw_len] at hm
              obtain ⟨ao, cap', hVj, hcap⟩ := hH.sl hj3
              rw [upv_at, grw_len] at hVj hcap
              have hcv := (hH.val hj3).1
              rw [hVj] at hcv
              obtain ⟨e0, e1, e2, e4⟩ : wr.cell? ⟨X, 0, none⟩ = some (.int .i64 2) ∧ wr.cell? ⟨X, 1, none⟩ = some (.int .i64 si) ∧ wr.cell? ⟨X, 2, none⟩ = some (.int .i64 (y : Int)) ∧ wr.cell? ⟨X, 4, none⟩ = some (.string sd) := ⟨hX.c0, hX.c1, hX.c2, hX.c4⟩
              have HR := hid hR
              have HH := hid hH
              have HX := hid hX
              have HVJ := hid hVj
              have HM0 := hid hm
              obtain ⟨n, hn⟩ : ∃ n, n = (L j).length + t := ⟨_, rfl⟩
              rw [← hn] at hcv HVJ HM0 hcap
              have HN := hid hn
              have HT0 := hid ht
              clear hR hH hX hVj hm HH5 HR4 HX4 hn ht c0 c1 c2 c4
              by_cases hlt : n < y
              · as_aux_lemma =>
                have hlt2 : decide ((n : Int) < (y : Int)) = true := decide_eq_true (by omega)
                go_wp2
                go_quiet (fail)
                go_wp2_with (first
                  | (at_builtin; refine pushB2 rfl (.tmp 159) (.tmp 160) rfl g g j _ V' (upv L j (grw (L j) t)) HVJ.out.symm rfl rfl (by exact HH.out.next ⟨rfl, rfl, rfl, Nat.le_refl _, fun _ _ => rfl⟩) hj3 (by rw [upv_at, grw_len, ← HN.out]; omega) (by exact HR.out.gl) ?_
                     intro v' w' hp hrv hsz hkp
                     have HP := hid hp
                     have hrv2 := hrv _ _ _ _ _ (by exact HR.out.next ⟨rfl, rfl, rfl, Nat.le_refl _, fun _ _ => rfl⟩)
                     have HRV := hid hrv2
                     have hxk := hkp X (by exact HX.out.lt) (fun e => by
                       obtain ⟨cs, hc⟩ := HX.out.c
                       obtain ⟨_, cur, h2⟩ := own_blk (HH.out.row j hj3) e.symm
                       rw [hc] at h2
                       cases h2)
                     have HX5 : Hid (Sx X w' 2 si (y : Int) sd) := hid (HX.out.same (by exact hxk))
                     obtain ⟨ao2, cap2, hv2, _⟩ := hp.sl
                     obtain ⟨m2, hm2⟩ : ∃ m, m = (upv L j (grw (L j) t) j ++ [0]).length := ⟨_, rfl⟩
                     rw [← hm2] at hv2
                     have hpc := (hp.val hj3).1
                     have hpf := (hp.val hj3).2
                     rw [HVJ.out] at hpc
                     have hgl := lt_of_block hp.blk
                     clear hp hrv hsz hkp hrv2 hxk hm2
                     subst hv2))
                have HG := hid (HP.out.grown hj3)
                go_roundw
                case rel => exact ⟨t + 1, _, .inr (by have := HN.out; omega), HRV.out.over HG.out.2 (Nat.le_refl _) HP.out.notmap, HG.out.1, HX5.out.same (HG.out.2.block X HX5.out.lt (by rw [List.mem_singleton]; have := HGX.out; omega))⟩
                case measure =>
                  have h1 := HG.out.1.lenAt hj3
                  rw [upv_at, grw_len] at h1
                  have h2 := HN.out
                  have h3 := HM0.out
                  rw [h3]
                  rw [h1]
                  omega
              · as_aux_lemma =>
                have hlt2 : decide ((n : Int) < (y : Int)) = false := decide_eq_false (by omega)
                have HPD : Hid (grw (L j) t = padl (L j) (y)) := hid (grw_end HT0.out (by rw [← HN.out]; exact hlt))
                rw [HPD.out] at HH
                have HNL : Hid (n = (padl (L j) y).length) := hid (by rw [← HPD.out, grw_len]; exact HN.out)
                have hyn : y ≤ n := by rw [HNL.out, padl_len]; omega
                have hupt := run_upto ao n cap' y (by omega)
                have HP8 := hid (HH.out.cut hj3 HVJ.out (n := y) (by rw [upv_at, ← HNL.out]; exact hyn))
                rw [upv_at] at HP8
                have HC8 : Hid (HP g g j V' (upv L j (padl (L j) y)) (.slice ao y cap') (cutl (L j) y) wr) := hid HP8.out
                have hpf := (HC8.out.val hj3).2
                go_wp2
                go_quiet (fail)
                go_wp2
                go_region
                have HG8 := hid (HC8.out.store hj3)
                rw [upv_upv] at HG8
                go_wp2
                go_meet
                exact ⟨rfl, B4, upv V' j (.slice ao y cap'), upv L j (cutl (L j) y), HF4.out, by exact (HR.out.over HG8.out.2 (Nat.le_refl _) HH.out.notmap).next ⟨rfl, rfl, rfl, Nat.le_refl _, fun _ _ => rfl⟩, by exact HG8.out.1.next ⟨rfl, rfl, rfl, Nat.le_refl _, fun _ _ => rfl⟩, by exact (HX.out.same (HG8.out.2.block X HX.out.lt (by rw [List.mem_singleton]; have := HGX.out; omega))).next ⟨rfl, rfl, rfl, Nat.le_refl _, fun _ _ => rfl⟩⟩
          · have k0 : (sk == 0) = false := by simpa using hk0
            have k1 : (sk == 1) = false := by simpa using hk1
            have k2 : (sk == 2) = false := by simpa using hk2
            go_wp2
            go_meet
            exact ⟨rfl, B, V, L, HF.out, HR3.out, HH3.out, HX3.out.1⟩
        case rest =>
        as_aux_lemma =>
        clear HF HR3 HH3 HX3
        obtain ⟨rfl, B, V, L, hF, hR, hH, hX⟩ := hcut
        have HF := hid hF
        have HR := hid hR
        have HH := hid hH
        have HX := hid hX
        clear hF hR hH hX
        go_wp2
        go_loopw [11] (fun kv wr => ∃ k : Nat, kv = .int .i64 (k : Int) ∧ 1 ≤ k ∧ k ≤ 3 ∧ RV W p q cap g B wr ∧ HM g g V L wr ∧ Sx X wr sk si (y : Int) sd) (fun kv _ => 3 - (intOf kv).toNat)
        case atStart => exact ⟨1, rfl, by decide, by decide, HR.out, HH.out, HX.out⟩
        case round =>
          clear HR HH HX
          obtain ⟨k, rfl, hk1, hk3, hR, hH, hX⟩ := hrel
          have HR := hid hR
          have HH := hid hH
          have HX := hid hX
          have x2 := hX.c2
          clear hR hH hX
          by_cases hk : k < 3
          · as_aux_lemma =>
            have hd3 : decide ((k : Int) < 3) = true := by simp; omega
            have hki : k = 1 ∨ k = 2 := by omega
            obtain ⟨a0, ha0⟩ : ∃ a0 : Nat, a0 = y % 3000 := ⟨_, rfl⟩
            have hat : (y : Int) % 3000 = (a0 : Int) := by omega
            have hal : a0 < 3000 := by omega
            clear ha0
            obtain ⟨R, hRR⟩ : ∃ R, R = st (wnt (L k) a0) := ⟨_, rfl⟩
            have K : Hid (Calls Tryz.prog 17 #[.pointer (some ⟨p, 0, none⟩), .int .i64 (k : Int), .int .i64 (a0 : Int), .int .i64 700] wr fun e w' => e = .returned (.tuple #[.string R, .int .i64 0]) ∧ Below wr.heap.size wr w') := by
              obtain ⟨m, hv, _⟩ := HR.out.vi
              have hfi := HF.out.fi hki
              obtain ⟨u1, u2⟩ := FI.usd HF.out.ti (show k < 4 by omega) hfi
              have kk := read_ok (w := wr) (k : Int) a0 700 (L k).length (by decide) (by omega) u1 (by rw [u2]; exact hfi.z) (by have := hfi.len; omega) hv
              rw [u2, rd_wnt hfi] at kk
              rw [hRR]
              exact hid kk
            obtain ⟨ao, cap', hVk, hcap⟩ := HH.out.sl (show k < 3 from hk)
            have hLk : (L k).length ≤ 30000 := (HF.out.fi hki).len
            have HRR := hid hRR
            have HVK := hid hVk
            have hcv := (HH.out.val (show k < 3 from hk)).1
            rw [hVk] at hcv
            clear hRR hVk
            go_wp2_with (go_at_call 17; fail)
            refine K.out.mono ?_
            rintro e w5 ⟨rfl, hb5⟩
            have HR5 := hid (HR.out.next hb5)
            have HH5 := hid (HH.out.next hb5)
            have HX5 := hid (HX.out.next hb5)
            have hcv5 := (HH5.out.val (show k < 3 from hk)).1
            rw [HVK.out] at hcv5
            clear hb5 K hcv HR HH HX x2
            by_cases hgt : (L k).length < a0
            · have hw0 : wnt (L k) a0 = [] := by unfold wnt; rw [List.drop_of_length_le (by omega)]; rfl
              have hR0 : R = ⟨#[]⟩ := by rw [HRR.out, hw0]; rfl
              subst hR0
              have g1 : decide (((L k).length : Int) < (a0 : Int)) = true := by simp; omega
              have g2 : decide ((a0 : Int) < ((L k).length : Int)) = false := by simp; omega
              clear HRR hw0
              go_wp2
              refine wp_loop_rounds 1 ?_
              rw [rounds_succ]
              go_wp2
              go_roundw
              case rel => exact ⟨k + 1, by go_num, by omega, by omega, HR5.out, HH5.out, HX5.out⟩
              case measure => simp only [intOf]; omega
            · have g1 : decide (((L k).length : Int) < (a0 : Int)) = false := by simp; omega
              obtain ⟨M, hM⟩ : ∃ M, M = wnt (L k) a0 := ⟨_, rfl⟩
              have hMl : M.length = min 700 ((L k).length - a0) := by rw [hM, wnt_len]
              have HML := hid hMl
              have HM0 := hid hM
              rw [← hM] at HRR
              clear hMl hM
              go_wp2
              go_loopw [15, 16] (fun sv pv wr => ∃ t : Nat, pv = .int .i64 ((a0 : Int) + (t : Int)) ∧ sv = .string (st (M.take t)) ∧ t ≤ M.length ∧ RV W p q cap g B wr ∧ HM g g V L wr ∧ Sx X wr sk si (y : Int) sd) (fun _ pv _ => a0 + 700 - (intOf pv).toNat)
              case atStart => exact ⟨0, by go_num, rfl, Nat.zero_le _, HR5.out, HH5.out, HX5.out⟩
              case round =>
                as_aux_lemma =>
                clear HR5 HH5 HX5 hcv5
                obtain ⟨t, rfl, rfl, ht, hR, hH, hX⟩ := hrel
                have HR := hid hR
                have HH := hid hH
                have HX := hid hX
                have hcv := (HH.out.val (show k < 3 from hk)).1
                rw [HVK.out] at hcv
                clear hR hH hX
                by_cases htl : t < M.length
                · have hml := HML.out
                  have p1 : decide ((a0 : Int) + (t : Int) < ((L k).length : Int)) = true := by simp; omega
                  have p2 : decide ((a0 : Int) + (t : Int) < (a0 : Int) + 700) = true := by simp; omega
                  have p3 : (t : Int) < 700 := by omega
                  have p4 : t < 700 := by omega
                  obtain ⟨x, hx⟩ : ∃ x, ao = some ⟨x, 0, none⟩ := by
                    obtain ⟨_, ⟨_, e3⟩ | ⟨x, c, cur, e3, _⟩⟩ := HH.out.row k hk
                    · omega
                    · rw [HVK.out] at e3
                      cases e3
                      exact ⟨x, rfl⟩
                  subst hx
                  have hsl := run_one x (L k).length cap' (a0 + t) (by omega) wr
                  have hon := HH.out.one hk HVK.out (p := a0 + t) (c := cap' - (a0 + t)) (by omega)
                  have HTK : Hid (st (M.take t) ++ st [(L k)[a0 + t]] = st (M.take (t + 1))) := by
                    rw [st_app, List.take_succ_eq_append_getElem htl]
                    have e : M[t] = (L k)[a0 + t] := by
                      have hM := HM0.out
                      subst hM
                      exact wnt_get _ _ _ htl (by omega)
                    rw [e]
                    exact hid rfl
                  rw [show ((a0 + t : Nat) : Int) = (a0 : Int) + (t : Int) by omega] at hsl
                  have hsum : (st (M.take t)).size + (st [(L k)[a0 + t]]).size ≤ 701 := by rw [st_size, st_size, List.length_take, List.length_singleton]; omega
                  obtain ⟨bb, hbb⟩ : ∃ bb, bb = st [(L k)[a0 + t]] := ⟨_, rfl⟩
                  rw [← hbb] at hon HTK hsum
                  obtain ⟨ss, hss⟩ : ∃ ss, ss = st (M.take t) := ⟨_, rfl⟩
                  rw [← hss] at HTK hsum ⊢
                  clear hbb hml hss
                  go_wp2
                  go_roundw
                  case rel => exact ⟨t + 1, by go_num, by rw [← HTK.out], by omega, HR.out, HH.out, HX.out⟩
                  case measure => simp only [intOf]; omega
                · have hml := HML.out
                  have hte : M.take t = M := List.take_of_length_le (by omega)
                  rw [hte]
                  have HRM := hid HRR.out
                  rw [← HRM.out]
                  by_cases q1 : a0 + t < (L k).length
                  · have p1 : decide ((a0 : Int) + (t : Int) < ((L k).length : Int)) = true := by simp; omega
                    have p2 : decide ((a0 : Int) + (t : Int) < (a0 : Int) + 700) = false := by simp; omega
                    have p3 : ¬ (t : Int) < 700 := by omega
                    go_wp2
                    go_roundw
                    case rel => exact ⟨k + 1, by go_num, by omega, by omega, HR.out, HH.out, HX.out⟩
                    case measure => simp only [intOf]; omega
                  · have p1 : decide ((a0 : Int) + (t : Int) < ((L k).length : Int)) = false := by simp; omega
                    go_wp2
                    go_roundw
                    case rel => exact ⟨k + 1, by go_num, by omega, by omega, HR.out, HH.out, HX.out⟩
                    case measure => simp only [intOf]; omega
          · have hd3 : decide ((k : Int) < 3) = false := by simp; omega
            go_wp2
            go_roundw
            case rel => exact ⟨i + 1, B, V, L, by go_num, by omega, HF.out, HR.out, HH.out⟩
            case measure => simp only [intOf]; omega
      · as_aux_lemma =>
        have hlt : decide ((i : Int) < (l.length : Int)) = false := by simp; omega
        clear HH HT
        obtain ⟨m7, hv7, hm7⟩ := HR.out.vi
        have HC1 : Hid (Calls Tryz.prog 12 #[.pointer (some ⟨p, 0, none⟩), .int .i64 1, .int .i64 0] wr fun e w' => e = .returned (.int .i64 0) ∧ VI sG p q cap m7 w' sF (cutB sG B 1 (usdI sG B ((1 : Nat) : Int)) 0) ∧ Only [m7] wr w') := hid (cut_ok 1 0 (by decide) (FI.usd HF.out.ti (by decide) HF.out.one).1 hv7)
        obtain ⟨B1, hB1⟩ : ∃ B1, B1 = cutB sG B 1 (usdI sG B ((1 : Nat) : Int)) 0 := ⟨_, rfl⟩
        obtain ⟨B2, hB2⟩ : ∃ B2, B2 = cutB sG B1 2 (usdI sG B1 ((2 : Nat) : Int)) 0 := ⟨_, rfl⟩
        obtain ⟨hu2, hf2⟩ := HF.out.free hB1 hB2
        rw [← hB1] at HC1
        have HC2 : Hid (∀ w', VI sG p q cap m7 w' sF B1 → Calls Tryz.prog 12 #[.pointer (some ⟨p, 0, none⟩), .int .i64 2, .int .i64 0] w' fun e w'' => e = .returned (.int .i64 0) ∧ VI sG p q cap m7 w'' sF B2 ∧ Only [m7] w' w'') := by
          rw [hB2]
          exact hid (fun w' hv => cut_ok 2 0 (by decide) hu2 hv)
        have HFr : Hid (∀ w', VI sG p q cap m7 w' sF B2 → Calls Tryz.prog 18 #[.pointer (some ⟨p, 0, none⟩)] w' fun e w'' => e = .returned (.int .i64 17) ∧ Below w'.heap.size w' w'') := hid (fun w' hv => by have k := free_any hv; rw [hf2] at k; exact k)
        have HB7 := hid HR.out.bel
        have HM7 := hid hm7
        clear hB1 hB2 hu2 hf2 hv7 hm7 HR HF
        go_wp2_with (go_at_call 12; fail)
        refine HC1.out.mono ?_
        rintro e w8 ⟨rfl, hv8, ho8⟩
        have HV8 := hid hv8
        have HB8 : Hid (Below W.heap.size W w8) := hid (HB7.out.trans (ho8.below HB7.out.size (fun x hx => by rw [List.mem_singleton] at hx; rw [hx]; exact HM7.out)))
        clear hv8 ho8 HC1 HB7
        go_wp2_with (go_at_call 12; fail)
        refine (HC2.out _ HV8.out).mono ?_
        rintro e w9 ⟨rfl, hv9, ho9⟩
        have HV9 := hid hv9
        have HB9 : Hid (Below W.heap.size W w9) := hid (HB8.out.trans (ho9.below HB8.out.size (fun x hx => by rw [List.mem_singleton] at hx; rw [hx]; exact HM7.out)))
        clear hv9 ho9 HC2 HB8 HV8
        go_wp2_with (go_at_call 18; fail)
        refine (HFr.out _ HV9.out).mono ?_
        rintro e w10 ⟨rfl, hb10⟩
        have HB10 := hid (HB9.out.next hb10)
        clear hb10 HFr HV9 HB9
        go_wp2_with (go_at_call 9; fail)
        refine (speaks_any _).mono ?_
        rintro e w11 ⟨rfl, hb11⟩
        have HB11 := hid (HB10.out.next hb11)
        clear hb11
        go_wp2
        go_ret
        exact ⟨rfl, HB11.out⟩
end Go.Proofs.YtjnhibpebikkmaaGreat
