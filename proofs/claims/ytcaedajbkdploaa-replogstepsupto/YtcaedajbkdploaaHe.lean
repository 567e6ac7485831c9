import Derived.Test.YtcaedajbkdploaaHd
namespace Go.Proofs.Ytcaedajbkdploaa
open Go.RowKit Go.Maps

set_option maxRecDepth 100000 in
set_option maxHeartbeats 4000000 in
theorem steps_walk (ts : List Stp) (w : World) {v : Value} (hT : TLie w v ts) : Calls Try.prog 5 #[v] w fun e w' => e = .returned (.bool true) ∧ Below w.heap.size w w' := by
  obtain ⟨ao, cap, rfl, hlc, hcm, hcell⟩ := hT
  unfold maxLen at hcm
  have HC := hid hcell
  have HS := hid speaks_any
  clear hcell
  go_enter Try.func5, Try.ntmps5
  go_wp2_with (first
    | (go_at_call 14; refine (lnew_any _).mono ?_; rintro e w1 ⟨rfl, hw1⟩; have HP0 := hid (P2.new w); rw [← hw1] at HP0; have hz1 : w1.heap.size = w.heap.size + 1 := by { rw [hw1]; simp }; clear hw1))
  go_loopw [22] (fun i wr => ∃ (j : Nat) (l : List Ent) (v1 v2 : Value), i = .int .i64 j ∧ j ≤ ts.length ∧ Hid (P2 w wr v1 v2 l)) (fun i _ => ts.length - (intOf i).toNat)
  case atStart => exact ⟨0, [], _, _, rfl, Nat.zero_le _, HP0⟩
  case round =>
    obtain ⟨j, l, v1, v2, rfl, hj, HP⟩ := hrel
    rename World => wr
    by_cases hlt : j < ts.length
    · obtain ⟨gb, off, ea, hgb, hat, hel, hin, hll⟩ := HC.out j hlt
      subst ea
      have hgr : gb < wr.heap.size := Nat.lt_of_lt_of_le hgb HP.out.bel.size
      have hblk := HP.out.bel.block gb hgb
      obtain ⟨s, hs⟩ : ∃ s, s = ts[j] := ⟨_, rfl⟩
      rw [← hs] at hat hel hin hll
      clear hs
      obtain ⟨sk, sn, se, lv, L⟩ := s
      simp only [] at hat hel hin hll
      obtain ⟨d0, d1, ⟨d2, d3, d4, d5, d6, d7, d8, d9, d10⟩, d11⟩ := hat
      simp only [] at d0 d1 d2 d3 d4 d5 d6 d7 d8 d9 d10 d11
      have cc : ∀ o x, w.cell? ⟨gb, o, none⟩ = some x → wr.cell? ⟨gb, o, none⟩ = some x := fun o x h => by
        simp only [World.cell?] at h ⊢
        rw [hblk]; exact h
      replace d0 := cc _ _ d0
      replace d1 := cc _ _ d1
      replace d2 := cc _ _ d2
      replace d3 := cc _ _ d3
      replace d4 := cc _ _ d4
      replace d5 := cc _ _ d5
      replace d6 := cc _ _ d6
      replace d7 := cc _ _ d7
      replace d8 := cc _ _ d8
      replace d9 := cc _ _ d9
      replace d10 := cc _ _ d10
      replace d11 := cc _ _ d11
      clear cc hblk
      have HEL := hid hel
      obtain ⟨la, lc, hlv, _, _, _⟩ := hel
      subst hlv
      have HIN := hid hin
      have HLL := hid hll
      clear hin hll
      obtain ⟨ln, hln⟩ : ∃ ln, ln = L.length := ⟨_, rfl⟩
      rw [← hln] at HEL d11
      have HLN := hid hln
      clear hln
      obtain ⟨V, C, R, K, A, N, p, t, d⟩ := se
      simp only [] at d2 d3 d4 d5 d6 d7 d8 d9 d10
      have HPS := hid (HP.out.hold (stO ⟨sk, sn, ⟨V, C, R, K, A, N, p, t, d⟩, .slice la ln lc, L⟩))
      go_upto_block 2 with fail
      obtain ⟨W, hW⟩ : ∃ W, W = wr.alloc (.cells #[.int .i64 sk, .int .i64 sn, .int .i64 V, .int .i64 C, .int .i64 R, .int .i64 K, .int .i64 A, .int .i64 N, .string p, .string t, .string d, .slice la ln lc] 45) := ⟨_, rfl⟩
      have HPW : Hid (PS w wr.heap.size (stO ⟨sk, sn, ⟨V, C, R, K, A, N, p, t, d⟩, .slice la ln lc, L⟩) W v1 v2 l l) := by rw [hW]; exact HPS
      rw [← hW]
      obtain ⟨q, hq⟩ : ∃ q, q = wr.heap.size := ⟨_, rfl⟩
      rw [← hq] at HPW ⊢
      have HVL := hid HP.out.val
      clear hW hq HPS d0 d1 d2 d3 d4 d5 d6 d7 d8 d9 d10 d11 hgr HP
      obtain ⟨c0, c1, c2, c3, c4, c5, c6, c7, c8, c9, c10, c11⟩ := stO_cells HPW.out.hq
      go_cut [22] from 22 to 119 (fun cv wx => cv = .int .i64 (j : Int) ∧ ∃ (l' : List Ent) (x1 x2 : Value), PS w q (stO ⟨sk, sn, ⟨V, C, R, K, A, N, p, t, d⟩, .slice la ln lc, L⟩) wx x1 x2 l' l' ∧ Val l')
      case first =>
        as_aux_lemma =>
        by_cases hk01 : sk = 0 ∨ sk = 1
        · have HA1 : Hid (∀ W v1 v2 l1 l2, PS w q (stO ⟨sk, sn, ⟨V, C, R, K, A, N, p, t, d⟩, .slice la ln lc, L⟩) W v1 v2 l1 l2 → Calls Try.prog 15 #[.pointer (some ⟨w.heap.size, 0, none⟩), .agg #[.int .i64 V, .int .i64 C, .int .i64 R, .int .i64 K, .int .i64 A, .int .i64 N, .string p, .string t, .string d]] W fun e w' => e = .returned (.tuple #[.int .i64 (apN l1 ⟨V, C, R, K, A, N, p, t, d⟩), .int .i64 (apE l1 ⟨V, C, R, K, A, N, p, t, d⟩)]) ∧ ∃ x1, PS w q (stO ⟨sk, sn, ⟨V, C, R, K, A, N, p, t, d⟩, .slice la ln lc, L⟩) w' x1 v2 (apL l1 ⟨V, C, R, K, A, N, p, t, d⟩) l2) := hid fun W v1 v2 l1 l2 h => (append_any ⟨V, C, R, K, A, N, p, t, d⟩ h.x h.bel.size).mono fun e w' ⟨h1, h2⟩ => ⟨h1, h.setx h2⟩
          have HA2 : Hid (∀ W v1 v2 l1 l2, PS w q (stO ⟨sk, sn, ⟨V, C, R, K, A, N, p, t, d⟩, .slice la ln lc, L⟩) W v1 v2 l1 l2 → Calls Try.prog 16 #[.pointer (some ⟨w.heap.size + 1, 0, none⟩), .agg #[.int .i64 V, .int .i64 C, .int .i64 R, .int .i64 K, .int .i64 A, .int .i64 N, .string p, .string t, .string d]] W fun e w' => e = .returned (.tuple #[.int .i64 (apN l2 ⟨V, C, R, K, A, N, p, t, d⟩), .int .i64 (apE l2 ⟨V, C, R, K, A, N, p, t, d⟩)]) ∧ ∃ x2, PS w q (stO ⟨sk, sn, ⟨V, C, R, K, A, N, p, t, d⟩, .slice la ln lc, L⟩) w' v1 x2 l1 (apL l2 ⟨V, C, R, K, A, N, p, t, d⟩)) := hid fun W v1 v2 l1 l2 h => (rappend_any ⟨V, C, R, K, A, N, p, t, d⟩ h.y h.bel.size).mono fun e w' ⟨h1, h2⟩ => ⟨h1, h.sety h2⟩
          have HA1l := hid (fun W v1 v2 l2 => HA1.out W v1 v2 l l2)
          have HA2l := hid (fun W v1 v2 l1 => HA2.out W v1 v2 l1 l)
          obtain ⟨an, han⟩ : ∃ an, an = apN l ⟨V, C, R, K, A, N, p, t, d⟩ := ⟨_, rfl⟩
          obtain ⟨ae, hae⟩ : ∃ ae, ae = apE l ⟨V, C, R, K, A, N, p, t, d⟩ := ⟨_, rfl⟩
          rw [← han, ← hae] at HA1l HA2l
          have hn1 : (an != an) = false := by simp
          have hn2 : (ae != ae) = false := by simp
          clear han hae HA1 HA2
          rcases hk01 with rfl | rfl
          all_goals
            go_wp2_with (first
              | (go_at_call 15; refine (HA1l.out _ _ _ _ HPW.out).mono ?_; rintro e wa ⟨rfl, xa, ha⟩; have HPA := hid ha; clear ha c0 c1 c2 c3 c4 c5 c6 c7 c8 c9 c10 c11; obtain ⟨c0, c1, c2, c3, c4, c5, c6, c7, c8, c9, c10, c11⟩ := stO_cells HPA.out.hq)
              | (go_at_call 16; refine (HA2l.out _ _ _ _ HPA.out).mono ?_; rintro e wb ⟨rfl, xb, hb⟩; have HPB := hid hb; clear hb))
            go_meet
            exact ⟨rfl, _, _, _, HPB.out, HVL.out.ap _⟩
        · have hk0 : (sk == 0) = false := by simp; omega
          have hk1 : (sk == 1) = false := by simp; omega
          by_cases hk2 : sk = 2
          · have HR1 : Hid (∀ W v1 v2 l2, PS w q (stO ⟨sk, sn, ⟨V, C, R, K, A, N, p, t, d⟩, .slice la ln lc, L⟩) W v1 v2 l l2 → Calls Try.prog 17 #[.pointer (some ⟨w.heap.size, 0, none⟩), .int .i64 sn, .slice la ln lc] W fun e w' => e = .returned (.int .i64 (rpE l sn L)) ∧ ∃ x1, PS w q (stO ⟨sk, sn, ⟨V, C, R, K, A, N, p, t, d⟩, .slice la ln lc, L⟩) w' x1 v2 (rpL l sn L) l2) := hid fun W v1 v2 l2 h => (replace_any sn _ h.x (HEL.out.below h.bel) h.bel.size).mono fun e w' ⟨h1, h2⟩ => ⟨h1, h.setx h2⟩
            have HR2 : Hid (∀ W v1 v2 l1, PS w q (stO ⟨sk, sn, ⟨V, C, R, K, A, N, p, t, d⟩, .slice la ln lc, L⟩) W v1 v2 l1 l → Calls Try.prog 18 #[.pointer (some ⟨w.heap.size + 1, 0, none⟩), .int .i64 sn, .slice la ln lc] W fun e w' => e = .returned (.int .i64 (rpE l sn L)) ∧ ∃ x2, PS w q (stO ⟨sk, sn, ⟨V, C, R, K, A, N, p, t, d⟩, .slice la ln lc, L⟩) w' v1 x2 l1 (rpL l sn L)) := hid fun W v1 v2 l1 h => (rreplace_any sn _ h.y HVL.out (HEL.out.below h.bel) (by have := HLL.out; omega) h.bel.size).mono fun e w' ⟨h1, h2⟩ => ⟨h1, h.sety h2⟩
            obtain ⟨er, her⟩ : ∃ er, er = rpE l sn L := ⟨_, rfl⟩
            rw [← her] at HR1 HR2
            have hn1 : (er != er) = false := by simp
            clear her
            subst hk2
            go_wp2
            go_region_held3 (fun w' => w'.cell? ⟨q, 1, none⟩ = some (.int .i64 sn) ∧ w'.cell? ⟨q, 11, none⟩ = some (.slice la ln lc)) (first | exact ⟨c1, c11⟩ | exact s1 | exact s2 | go_keep) (first
              | (go_at_call 17; refine (HR1.out _ _ _ _ (by exact HPW.out.below ⟨rfl, rfl, rfl, Nat.le_refl _, fun _ _ => rfl⟩)).mono ?_; rintro e wa ⟨rfl, xa, ha⟩; have HPA := hid ha; clear ha; have s1 : wa.cell? ⟨q, 1, none⟩ = some (.int .i64 sn) ∧ wa.cell? ⟨q, 11, none⟩ = some (.slice la ln lc) := ⟨(stO_cells HPA.out.hq).2.1, (stO_cells HPA.out.hq).2.2.2.2.2.2.2.2.2.2.2⟩)
              | (go_at_call 18; refine (HR2.out _ _ _ _ (by exact HPA.out.below ⟨rfl, rfl, rfl, Nat.le_refl _, fun _ _ => rfl⟩)).mono ?_; rintro e wb ⟨rfl, xb, hb⟩; have HPB := hid hb; clear hb; have s2 : wb.cell? ⟨q, 1, none⟩ = some (.int .i64 sn) ∧ wb.cell? ⟨q, 11, none⟩ = some (.slice la ln lc) := ⟨(stO_cells HPB.out.hq).2.1, (stO_cells HPB.out.hq).2.2.2.2.2.2.2.2.2.2.2⟩))
            all_goals
              go_wp2
              go_meet
              exact ⟨rfl, _, _, _, HPB.out, HVL.out.rp _⟩
          · have hk3 : (sk == 2) = false := by simp; omega
            go_wp2
            go_meet
            exact ⟨rfl, _, _, _, HPW.out, HVL.out⟩
      case rest =>
        obtain ⟨rfl, l', x1, x2, hp, hv⟩ := hcut
        rename World => W2
        have HPP := hid hp
        have HVV := hid hv
        clear hp hv c0 c1 c2 c3 c4 c5 c6 c7 c8 c9 c10 c11 HPW HVL
        obtain ⟨c0, c1, c2, c3, c4, c5, c6, c7, c8, c9, c10, c11⟩ := stO_cells HPP.out.hq
        clear c0 c2 c3 c4 c5 c6 c7 c8 c9 c10 c11
        have HG1 := hid (fun W (k : Below W2.heap.size W2 W) => get_any sn (HPP.out.x.below k))
        have HG2 := hid (fun W (k : Below W2.heap.size W2 W) => rget_any sn (HPP.out.y.below k))
        obtain ⟨gx, hgx⟩ : ∃ gx, gx = getX l' sn := ⟨_, rfl⟩
        obtain ⟨ge, hge⟩ : ∃ ge, ge = getE l' sn := ⟨_, rfl⟩
        rw [← hgx, ← hge] at HG1 HG2
        have hqe := eqE gx gx
        rw [decide_eq_true rfl] at hqe
        have HBX : Hid (∀ W : World, Box W.heap.size (W.alloc (.cells gx.cs.toArray 25)) gx) := hid fun W => box_at W _
        clear hgx hge
        obtain ⟨V1, C1, R1, K1, A1, N1, p1, t1, d1⟩ := gx
        simp only [Ent.v, Ent.cs] at HG1 HG2 hqe HBX
        have hge1 : (ge != ge) = false := by simp
        obtain ⟨ay, cy, hx2, _, _⟩ := HPP.out.y.row.len
        subst hx2
        have HLN1 := hid (fun W (k : Below W2.heap.size W2 W) => len_any (HPP.out.x.below k))
        have HVW1 := hid (fun W (k : Below W2.heap.size W2 W) => view_any (HPP.out.x.below k))
        have HVW2 := hid (fun W (k : Below W2.heap.size W2 W) => rview_any (HPP.out.y.below k))
        have HFR1 := hid (fun W (k : Below W2.heap.size W2 W) => from_any sn 3 HIN.out ⟨by decide, by decide⟩ (.inr ⟨_, _, _, rfl, HPP.out.x.below k⟩))
        have HFR2 := hid (fun W (k : Below W2.heap.size W2 W) => rfrom_any sn 3 (HPP.out.y.below k))
        obtain ⟨F, hF⟩ : ∃ F, F = fromL l' sn 3 := ⟨_, rfl⟩
        obtain ⟨lv, hlv⟩ : ∃ lv, lv = lastV l' := ⟨_, rfl⟩
        rw [← hF] at HFR1 HFR2
        rw [← hlv] at HVW1 HVW2
        have HEN := hid (fun W u v (h : ELie W u F) (h' : ELie W v F) => entries_any h h')
        rw [decide_eq_true rfl] at HEN
        have hlv1 : (lv != lv) = false := by simp
        obtain ⟨ll, hll⟩ : ∃ ll, ll = l'.length := ⟨_, rfl⟩
        have hcy : W2.cell? ⟨w.heap.size + 1, 0, none⟩ = some (.slice ay ll cy) := by rw [hll]; exact HPP.out.y.c0
        rw [← hll] at HLN1
        have hll1 : ((ll : Int) != ll) = false := by simp
        have HCY := hid hcy
        have HC1 := hid c1
        have HQL : Hid (q < W2.heap.size ∧ w.heap.size + 1 < W2.heap.size) := hid ⟨lt_of_block HPP.out.hq, HPP.out.y.lt⟩
        clear hF hlv hll hcy
        go_upto_region 20 with (first
          | (go_at_call 19; refine (HG1.out _ (Below.refl _ _)).mono ?_; rintro e w3 ⟨rfl, hb3⟩; have HB3 := hid hb3; have e1 := (hb3.cell (p := ⟨q, 1, none⟩) HQL.out.1).trans c1; have hq3 : q < w3.heap.size := Nat.lt_of_lt_of_le HQL.out.1 hb3.size; clear hb3 c1)
          | (go_at_call 20; refine (HG2.out _ (by exact HB3.out.next (below_alloc w3 _))).mono ?_; rintro e w4 ⟨rfl, hb4⟩; have HB4 := hid (HB3.out.next ((below_alloc w3 _).next hb4)); have HX4 := hid ((HBX.out w3).below hb4 (by simp)); clear hb4 e1 hq3))
        obtain ⟨W5, hW5⟩ : ∃ W5, W5 = w4.alloc (.cells #[.int .i64 V1, .int .i64 C1, .int .i64 R1, .int .i64 K1, .int .i64 A1, .int .i64 N1, .string p1, .string t1, .string d1] 25) := ⟨_, rfl⟩
        have HB5 : Hid (Below W2.heap.size W2 W5) := by rw [hW5]; exact hid (HB4.out.next (below_alloc w4 _))
        have HX5 : Hid (Box w3.heap.size W5 ⟨V1, C1, R1, K1, A1, N1, p1, t1, d1⟩) := by rw [hW5]; exact hid (HX4.out.below (below_alloc w4 _) HX4.out.lt)
        have HY5 : Hid (Box w4.heap.size W5 ⟨V1, C1, R1, K1, A1, N1, p1, t1, d1⟩) := by rw [hW5]; exact hid (HBX.out w4)
        rw [← hW5]
        clear hW5
        have HALL : Hid (∀ wz, Below W5.heap.size W5 wz → (wz.cell? ⟨w3.heap.size, 0, none⟩ = some (.int .i64 V1) ∧ wz.cell? ⟨w3.heap.size, 1, none⟩ = some (.int .i64 C1) ∧ wz.cell? ⟨w3.heap.size, 2, none⟩ = some (.int .i64 R1) ∧ wz.cell? ⟨w3.heap.size, 3, none⟩ = some (.int .i64 K1) ∧ wz.cell? ⟨w3.heap.size, 4, none⟩ = some (.int .i64 A1) ∧ wz.cell? ⟨w3.heap.size, 5, none⟩ = some (.int .i64 N1) ∧ wz.cell? ⟨w3.heap.size, 6, none⟩ = some (.string p1) ∧ wz.cell? ⟨w3.heap.size, 7, none⟩ = some (.string t1) ∧ wz.cell? ⟨w3.heap.size, 8, none⟩ = some (.string d1) ∧ wz.cell? ⟨w4.heap.size, 0, none⟩ = some (.int .i64 V1) ∧ wz.cell? ⟨w4.heap.size, 1, none⟩ = some (.int .i64 C1) ∧ wz.cell? ⟨w4.heap.size, 2, none⟩ = some (.int .i64 R1) ∧ wz.cell? ⟨w4.heap.size, 3, none⟩ = some (.int .i64 K1) ∧ wz.cell? ⟨w4.heap.size, 4, none⟩ = some (.int .i64 A1) ∧ wz.cell? ⟨w4.heap.size, 5, none⟩ = some (.int .i64 N1) ∧ wz.cell? ⟨w4.heap.size, 6, none⟩ = some (.string p1) ∧ wz.cell? ⟨w4.heap.size, 7, none⟩ = some (.string t1) ∧ wz.cell? ⟨w4.heap.size, 8, none⟩ = some (.string d1) ∧ wz.cell? ⟨w.heap.size + 1, 0, none⟩ = some (.slice ay ll cy) ∧ wz.cell? ⟨q, 1, none⟩ = some (.int .i64 sn))) := hid fun wz k => by
          obtain ⟨f0, f1, f2, f3, f4, f5, f6, f7, f8⟩ := (HX5.out.below k HX5.out.lt).cells
          obtain ⟨g0, g1, g2, g3, g4, g5, g6, g7, g8⟩ := (HY5.out.below k HY5.out.lt).cells
          exact ⟨f0, f1, f2, f3, f4, f5, f6, f7, f8, g0, g1, g2, g3, g4, g5, g6, g7, g8, (((HB5.out.next k).cell (p := ⟨w.heap.size + 1, 0, none⟩) HQL.out.2).trans HCY.out), (((HB5.out.next k).cell (p := ⟨q, 1, none⟩) HQL.out.1).trans HC1.out)⟩
        obtain ⟨f0, f1, f2, f3, f4, f5, f6, f7, f8, g0, g1, g2, g3, g4, g5, g6, g7, g8, hy0, hn0⟩ := HALL.out W5 (Below.refl _ _)
        go_region_held3 (fun w' => w'.cell? ⟨w3.heap.size, 0, none⟩ = some (.int .i64 V1) ∧ w'.cell? ⟨w3.heap.size, 1, none⟩ = some (.int .i64 C1) ∧ w'.cell? ⟨w3.heap.size, 2, none⟩ = some (.int .i64 R1) ∧ w'.cell? ⟨w3.heap.size, 3, none⟩ = some (.int .i64 K1) ∧ w'.cell? ⟨w3.heap.size, 4, none⟩ = some (.int .i64 A1) ∧ w'.cell? ⟨w3.heap.size, 5, none⟩ = some (.int .i64 N1) ∧ w'.cell? ⟨w3.heap.size, 6, none⟩ = some (.string p1) ∧ w'.cell? ⟨w3.heap.size, 7, none⟩ = some (.string t1) ∧ w'.cell? ⟨w3.heap.size, 8, none⟩ = some (.string d1) ∧ w'.cell? ⟨w4.heap.size, 0, none⟩ = some (.int .i64 V1) ∧ w'.cell? ⟨w4.heap.size, 1, none⟩ = some (.int .i64 C1) ∧ w'.cell? ⟨w4.heap.size, 2, none⟩ = some (.int .i64 R1) ∧ w'.cell? ⟨w4.heap.size, 3, none⟩ = some (.int .i64 K1) ∧ w'.cell? ⟨w4.heap.size, 4, none⟩ = some (.int .i64 A1) ∧ w'.cell? ⟨w4.heap.size, 5, none⟩ = some (.int .i64 N1) ∧ w'.cell? ⟨w4.heap.size, 6, none⟩ = some (.string p1) ∧ w'.cell? ⟨w4.heap.size, 7, none⟩ = some (.string t1) ∧ w'.cell? ⟨w4.heap.size, 8, none⟩ = some (.string d1) ∧ w'.cell? ⟨w.heap.size + 1, 0, none⟩ = some (.slice ay ll cy) ∧ w'.cell? ⟨q, 1, none⟩ = some (.int .i64 sn)) (first | exact ⟨f0, f1, f2, f3, f4, f5, f6, f7, f8, g0, g1, g2, g3, g4, g5, g6, g7, g8, hy0, hn0⟩ | exact s3 | exact s5 | exact s6 | exact s7 | go_keep) (first
          | (go_at_call 21; refine (HLN1.out _ (by exact HB5.out.next ⟨rfl, rfl, rfl, Nat.le_refl _, fun _ _ => rfl⟩)).mono ?_; rintro e wa ⟨rfl, hw⟩; subst hw)
          | (go_at_call 22; refine (HVW1.out _ (by exact HB5.out.next ⟨rfl, rfl, rfl, Nat.le_refl _, fun _ _ => rfl⟩)).mono ?_; rintro e wa ⟨rfl, hw⟩; subst hw)
          | (go_at_call 23; refine (HVW2.out _ (by exact HB5.out.next ⟨rfl, rfl, rfl, Nat.le_refl _, fun _ _ => rfl⟩)).mono ?_; rintro e wc ⟨rfl, nc, hw⟩; have HBc : Hid (Below W5.heap.size W5 wc) := hid (by rw [hw]; exact ⟨rfl, rfl, rfl, Nat.le_refl _, fun _ _ => rfl⟩); clear hw; have s3 := HALL.out wc HBc.out)
          | (go_at_call 25; refine (HFR1.out _ (by exact HB5.out.next ⟨HBc.out.os, HBc.out.tape, HBc.out.output, HBc.out.size, HBc.out.block⟩)).mono ?_; rintro e wd ⟨vd, rfl, hrd, hbd⟩; have HBd : Hid (Below W5.heap.size W5 wd) := hid (HBc.out.next ⟨hbd.os, hbd.tape, hbd.output, hbd.size, hbd.block⟩); have HRD := hid hrd; clear hrd hbd; have s5 := HALL.out wd HBd.out)
          | (go_at_call 26; refine (HFR2.out _ (by exact HB5.out.next ⟨HBd.out.os, HBd.out.tape, HBd.out.output, HBd.out.size, HBd.out.block⟩)).mono ?_; rintro e we ⟨ve, rfl, hre, hbe⟩; have HBe : Hid (Below W5.heap.size W5 we) := hid (HBd.out.next ⟨hbe.os, hbe.tape, hbe.output, hbe.size, hbe.block⟩); have HRDe : Hid (ELie we vd F) := hid (HRD.out.lie.below ⟨hbe.os, hbe.tape, hbe.output, hbe.size, hbe.block⟩); have HRE := hid hre; clear hre hbe; have s6 := HALL.out we HBe.out)
          | (go_at_call 24; refine (HEN.out _ _ _ (by exact HRDe.out.below ⟨rfl, rfl, rfl, Nat.le_refl _, fun _ _ => rfl⟩) (by exact HRE.out.lie.below ⟨rfl, rfl, rfl, Nat.le_refl _, fun _ _ => rfl⟩)).mono ?_; rintro e wf ⟨rfl, nf, hw⟩; have HBf : Hid (Below W5.heap.size W5 wf) := hid (by rw [hw]; exact HBe.out.next ⟨rfl, rfl, rfl, Nat.le_refl _, fun _ _ => rfl⟩); clear hw; have s7 := HALL.out wf HBf.out))
        all_goals
          go_wp2
          go_roundw
          case rel => exact ⟨j + 1, l', _, _, by go_num, by omega, hid ((HPP.out.below (HB5.out.next HBf.out)).two HVV.out)⟩
          case measure => simp [intOf]; omega
    · have hge : ¬ ((j : Int) < ts.length) := by omega
      have HL := hid HP.out.val.len
      have HFA := hid (fun W (k : Below wr.heap.size wr W) => from_any 1 5000 ⟨by decide, by decide⟩ ⟨by decide, by decide⟩ (.inr ⟨_, _, _, rfl, HP.out.x.below k⟩))
      rw [from_all HL.out] at HFA
      have HEN := hid (fun W u v (h : ELie W u l) (h' : ELie W v l) => entries_any h h')
      rw [decide_eq_true rfl] at HEN
      have hcy := HP.out.y.c0
      have hyl := HP.out.y.lt
      have HYR := hid HP.out.y.row
      go_wp2
      go_region_held3 (fun w' => w'.cell? ⟨w.heap.size + 1, 0, none⟩ = some v2) (first | exact hcy | exact s1 | exact s2 | exact s3 | go_keep) (first
        | (go_at_call 25; refine (HFA.out _ (by exact ⟨rfl, rfl, rfl, Nat.le_refl _, fun _ _ => rfl⟩)).mono ?_; rintro e wa ⟨va, rfl, hra, hba⟩; have HBa : Hid (Below wr.heap.size wr wa) := hid ⟨hba.os, hba.tape, hba.output, hba.size, hba.block⟩; have HRA := hid hra; clear hra hba; have s1 : wa.cell? ⟨w.heap.size + 1, 0, none⟩ = some v2 := (HBa.out.cell (p := ⟨w.heap.size + 1, 0, none⟩) hyl).trans hcy)
        | (go_at_call 24; refine (HEN.out _ _ _ (by exact HRA.out.lie.below ⟨rfl, rfl, rfl, Nat.le_refl _, fun _ _ => rfl⟩) (by exact (HYR.out.below HBa.out).lie.below ⟨rfl, rfl, rfl, Nat.le_refl _, fun _ _ => rfl⟩)).mono ?_; rintro e wb ⟨rfl, nb, hw⟩; have HBb : Hid (Below wr.heap.size wr wb) := hid (by rw [hw]; exact HBa.out.next ⟨rfl, rfl, rfl, Nat.le_refl _, fun _ _ => rfl⟩); clear hw; have s2 : wb.cell? ⟨w.heap.size + 1, 0, none⟩ = some v2 := (HBb.out.cell (p := ⟨w.heap.size + 1, 0, none⟩) hyl).trans hcy)
        | (go_at_call 13; refine (HS.out _).mono ?_; rintro e wc ⟨rfl, bc⟩; have HBc : Hid (Below wr.heap.size wr wc) := hid (HBb.out.next ⟨bc.os, bc.tape, bc.output, bc.size, bc.block⟩); clear bc; have s3 : wc.cell? ⟨w.heap.size + 1, 0, none⟩ = some v2 := (HBc.out.cell (p := ⟨w.heap.size + 1, 0, none⟩) hyl).trans hcy))
      all_goals
        go_wp2
        go_ret
        exact ⟨rfl, HP.out.bel.next HBc.out⟩
end Go.Proofs.Ytcaedajbkdploaa
