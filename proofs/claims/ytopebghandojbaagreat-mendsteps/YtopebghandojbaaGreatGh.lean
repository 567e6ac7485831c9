import Derived.Test.YtopebghandojbaaGreatGe
import Derived.Test.YtopebghandojbaaGreatGg
import Derived.BigQuiet
namespace Go.Proofs.YtopebghandojbaaGreat
open Go.RowKit Go.Maps

theorem super_okR (x y z : Nat) (h : Sh.okS x y z) : Sh.okR (Sh.superS x y z) x y z := ⟨un_block _ (by rw [Sh.superL_len]; decide), h⟩
theorem rangeS (_ : Nat) (g : Nat → ByteArray) (q : Nat) : (List.range (q + 1)).map g = (List.range q).map g ++ [g q] := by
  rw [List.range_succ, List.map_append]; rfl
set_option maxRecDepth 100000 in
set_option maxHeartbeats 1500000 in
/-- the document's Open of a device whose journal is as it was made -/
theorem ropen_fmt {B d : Nat} {fp : List Nat} {f : Nat → Option ByteArray} (x y z : Nat) (h : Sh.okS x y z) (hsu : val f 0 = Sh.superS x y z) (hhd : val f 1 = hdB 0 1 1) (hsz : ∀ k, (val f k).size = 128) (w : World) (hD : Dv.XD B d w x f [] fp) :
    Calls Tryz.prog 12 #[.pointer (some ⟨d, 0, none⟩)] w fun e w' => ∃ s j r, e = .returned (.tuple #[.pointer (some ⟨s, 0, none⟩), .int .i64 0]) ∧ RSt s w' d x y z j (.slice none 0 0) (.slice none 0 0) (.slice none 0 0) 0 ∧ RK j r w' ((y : Int) - 1) 0 1 0 [] ∧ w.heap.size ≤ s ∧ w.heap.size ≤ j ∧ (∀ b, r = some b → w.heap.size ≤ b) ∧ Below w.heap.size w w' := by
  have hx := h.1.1
  have hy := h.1.2.1
  have hsp := h.2
  have HRD := hid (fun (k : Nat) (hk : k < x) w' (kb : Below w.heap.size w w') => (show Calls Tryz.prog 26 #[.pointer (some ⟨d, 0, none⟩), .int .i64 (k : Int)] w' fun e w'' => e = .returned (.tuple #[.string (val f k), .int .i64 0]) ∧ Below w'.heap.size w' w'' from (hD.below kb).read k hk (by simp) w'))
  have HR0 := hid (HRD.out 0 (by omega) w (Below.refl _ _))
  have HRS := hid (fun w => Sh.refRead_ok (Sh.superS x y z) x y z (by rw [super_size]; decide) (super_okR x y z h) w)
  rw [hsu] at HR0
  have hss := super_size x y z
  obtain ⟨su, hsu2⟩ : ∃ su, su = Sh.superS x y z := ⟨_, rfl⟩
  rw [← hsu2] at HR0 HRS hss
  have HDL : Hid (∃ bl qv, w.heap[d]? = some (.cells #[.slice (some ⟨bl, 0, none⟩) x x, qv] 58 (0, 0))) := hid (by
    obtain ⟨L, ⟨⟨bl, qv, h1, _⟩, _⟩, h2, _⟩ := hD
    rw [h2] at h1
    exact ⟨bl, qv, h1⟩)
  have HHD := hid hhd
  have HSZ := hid hsz
  clear hsu2 hsu hhd hsz hD
  go_enter Tryz.func12, Tryz.ntmps12
  go_upto_region 3 with (first
    | (go_at_call 26; refine HR0.out.mono ?_; rintro e w1 ⟨rfl, hb1⟩)
    | (go_at_call 57; refine (HRS.out _).mono ?_; rintro e w2 ⟨rfl, hb2⟩))
  have HB2 := hid (hb1.next hb2)
  have HB3 := hid (HB2.out.next (below_alloc w2 (.cells #[.int .i64 (x : Int), .int .i64 (y : Int), .int .i64 (z : Int)] 23)))
  have HX := hid (box_at w2 (.cells #[.int .i64 (x : Int), .int .i64 (y : Int), .int .i64 (z : Int)] 23))
  obtain ⟨gs, hgs⟩ : ∃ gs, gs = w2.heap.size := ⟨_, rfl⟩
  rw [← hgs] at HX ⊢
  obtain ⟨w3, hw3⟩ : ∃ w3, w3 = w2.alloc (.cells #[.int .i64 (x : Int), .int .i64 (y : Int), .int .i64 (z : Int)] 23) := ⟨_, rfl⟩
  rw [← hw3] at HB3 HX ⊢
  have hgl := lt_of_block HX.out
  clear hw3 hgs hb1 hb2 HB2
  obtain ⟨bl, qv, hdb⟩ := HDL.out
  have hdl := lt_of_block hdb
  obtain ⟨d0, d1, d2⟩ := three_cells HX.out
  have e0 := (two_cells ((HB3.out.block _ hdl).trans hdb)).1
  go_cut [40] (fun cv wx => cv = .bool false ∧ Below w3.heap.size w3 wx)
  case first =>
    go_quiet (fail)
    go_wp2
    go_meet
    exact ⟨rfl, rfl, rfl, rfl, Nat.le_refl _, fun _ _ => rfl⟩
  case rest =>
    obtain ⟨rfl, hb4⟩ := hcut
    rename World => w4
    have HB4 := hid (HB3.out.next hb4)
    have HX4 := hid ((hb4.block _ hgl).trans HX.out)
    have hg4 := lt_of_block HX4.out
    clear hb4 d0 d1 d2 e0 hdb hdl hgl
    go_wp2_with fail
    go_loopw [8, 9] (fun rv i wr => ∃ q : Nat, i = .int .i64 q ∧ q ≤ y ∧ SRow w4.heap.size wr rv ((List.range q).map fun i => val f (1 + i)) ∧ Below w4.heap.size w4 wr) (fun _ i _ => y - (intOf i).toNat)
    case atStart => exact ⟨0, rfl, Nat.zero_le _, SRow.nil _ _, Below.refl _ _⟩
    case round =>
      obtain ⟨q, rfl, hq, hrow, hbq⟩ := hrel
      have HRow := hid hrow
      have HBq := hid hbq
      have hzq := hbq.size
      obtain ⟨d0, d1, d2⟩ := three_cells ((hbq.block _ hg4).trans HX4.out)
      obtain ⟨ro, rc, rfl, _, _⟩ := hrow.len
      clear hrow hbq
      have hln : ((List.range q).map fun i => val f (1 + i)).length = q := by simp
      by_cases hqy : q < y
      · have HRq := HRD.out (1 + q) (by omega) wr (HB4.out.next HBq.out)
        rw [show ((1 + q : Nat) : Int) = 1 + (q : Int) by omega] at HRq
        have HRQ := hid HRq
        have HT := hid (rangeS y (fun i => val f (1 + i)) q)
        obtain ⟨T, hTT⟩ : ∃ T, T = (List.range q).map fun i => val f (1 + i) := ⟨_, rfl⟩
        rw [← hTT] at HRow HT hln ⊢
        obtain ⟨u, hu⟩ : ∃ u, u = val f (1 + q) := ⟨_, rfl⟩
        have HT : Hid ((List.range (q + 1)).map (fun i => val f (1 + i)) = T ++ [u]) := hid (by rw [hu]; exact HT.out)
        rw [← hu] at HRQ
        clear HRq hTT hu
        rw [hln] at HRow ⊢
        go_wp2_with (first
          | (go_at_call 26; refine HRQ.out.mono ?_; rintro e w5 ⟨rfl, hb5⟩
             have HR5 := hid (HRow.out.below hb5)
             have HB5 := hid (HBq.out.next hb5)
             clear hb5)
          | (at_builtin; refine pushS (w0 := w5) rfl (.tmp 54) (.tmp 56) rfl w4.heap.size w5.heap.size (.slice ro q rc) T u rfl rfl rfl HR5.out (by omega) HB5.out.size ?_; intro v6 w6 hr6 hb6 _))
        go_roundw
        case rel => exact ⟨q + 1, by go_num, by omega, by rw [HT.out]; exact hr6, HB5.out.trans hb6⟩
        case measure => simp only [intOf] at *; omega
      · have hqe : q = y := by omega
        subst hqe
        obtain ⟨p, hp⟩ : ∃ p, q = p + 1 := ⟨q - 1, by omega⟩
        have hlist : ((List.range q).map fun i => val f (1 + i)) = hdB 0 1 1 :: (List.range p).map fun i => val f (1 + (i + 1)) := by
          rw [hp, List.range_succ_eq_map, List.map_cons, List.map_map]
          show val f 1 :: _ = _
          rw [HHD.out]
          rfl
        have hv := HRow.out.lie
        obtain ⟨rv, hrv⟩ : ∃ rv, rv = Value.slice ro ((List.range q).map fun i => val f (1 + i)).length rc := ⟨_, rfl⟩
        rw [← hrv, hlist] at hv
        have hrl : ((List.range p).map fun i => val f (1 + (i + 1))).length = p := by simp
        have hyes := ropen_yes _ _ _ wr hv (fun b hb => by
          rcases List.mem_cons.1 hb with e | hb
          · rw [e, hdB_size]; decide
          · obtain ⟨i, _, rfl⟩ := List.mem_map.1 hb
            rw [HSZ.out]; decide) (by rw [hrl]; omega) 0 1 0 (hdB_isHdr (by decide) (by decide) (by decide)) (by rw [hrl]; omega) (by decide) (by decide) (Nat.zero_le _)
        have HOP : Hid (Calls Tryz.prog 58 #[rv] wr fun e w' => ∃ g r, e = .returned (.tuple #[.pointer (some ⟨g, 0, none⟩), .int .i64 0]) ∧ RK g r w' ((q : Int) - 1) 0 1 0 [] ∧ wr.heap.size ≤ g ∧ (∀ b, r = some b → wr.heap.size ≤ b) ∧ Below wr.heap.size wr w') := hid (hyes.mono (by
          rintro e w' ⟨h1, hb⟩
          obtain ⟨g, r, us, rfl, hr⟩ := h1.1 [] rfl trivial
          have hus : us = [] := List.eq_nil_of_length_eq_zero hr.ln
          subst hus
          have hrk := hr.rk
          rw [hrl, show ((p : Nat) : Int) = (q : Int) - 1 by omega] at hrk
          exact ⟨g, r, rfl, hrk, hr.b1, hr.b2, hb⟩))
        clear hv hyes hlist hrl hp
        rw [hln] at hrv
        subst hrv
        rw [hln]
        go_upto_region 14 with (first
          | (go_at_call 58; refine HOP.out.mono ?_; rintro e w6 ⟨j, r, rfl, hrk, hj, hr, hb6⟩))
        have HK6 := hid hrk
        have HB6 := hid (HBq.out.next hb6)
        have HNX : Hid (∀ w', Below w6.heap.size w6 w' → Calls Tryz.prog 59 #[.pointer (some ⟨j, 0, none⟩)] w' fun e w'' => e = .returned (.int .i64 1) ∧ ∃ q, w'' = w'.drewN q) := hid (fun w' k => (refNext_j j r ((q : Int) - 1) 0 1 0 [] (by decide) (by decide) w' (HK6.out.below k)).mono (by
          rintro e w'' ⟨rfl, hq⟩
          exact ⟨rfl, hq⟩))
        clear d0 d1 d2 hrk hb6
        obtain ⟨d0, d1, d2⟩ := three_cells ((HB6.out.block _ hg4).trans HX4.out)
        go_cut [14] (fun sv wx => ∃ s, sv = .pointer (some ⟨s, 0, none⟩) ∧ RSt s wx d x q z j (.slice none 0 0) (.slice none 0 0) (.slice none 0 0) 0 ∧ w6.heap.size ≤ s ∧ Below w6.heap.size w6 wx)
        case first =>
          go_region_with (go_at_call 59; refine (HNX.out _ (by exact ⟨rfl, rfl, rfl, Nat.le_refl _, fun _ _ => rfl⟩)).mono ?_; rintro e w7 ⟨rfl, q7, hw⟩; have hw := hw.symm; subst hw)
          all_goals
            go_wp2
            go_meet
            have hw0 : IntKind.i64.wrap 0 = 0 := by decide
            rw [hw0]
            refine ⟨_, rfl, box_at _ _, Nat.le_refl _, ?_⟩
            exact ⟨rfl, rfl, rfl, (below_alloc (w6.drewN (1 + q7)) _).size, fun k hk => Below.heap_alloc (w6.drewN (1 + q7)) _ k hk⟩
        case rest =>
          obtain ⟨s, rfl, hst, hs, hb8⟩ := hcut
          rename World => w8
          have HS8 := hid hst
          have HK8 := hid (HK6.out.below hb8)
          have HB8 := hid ((HB4.out.next HB6.out).next hb8)
          have hz6 := HB6.out.size
          have hz4 := HB4.out.size
          have c4 : w8.cell? ⟨j, 4, none⟩ = some (.slice none 0 0) ∨ ∃ lo lc, w8.cell? ⟨j, 4, none⟩ = some (.slice lo 0 lc) := by
            obtain ⟨Lv, _, k2, k3, _⟩ := HK8.out
            obtain ⟨lo, lc, rfl, _, _⟩ := k3.len
            exact .inr ⟨lo, lc, k2.cells.2.2.2.2⟩
          obtain ⟨lo, lc, c4⟩ : ∃ lo lc, w8.cell? ⟨j, 4, none⟩ = some (.slice lo 0 lc) := by
            rcases c4 with c4 | c4
            · exact ⟨_, _, c4⟩
            · exact c4
          have hjl := HK8.out.lt.1
          have HCH := hid (rcheck_none w8 HS8.out (RRow.nil _) HK8.out)
          clear hst hb8 d0 d1 d2
          go_wp2_with fail
          go_loopw [79] (fun i wx => i = .int .i64 0 ∧ wx = w8) (fun _ _ => 0)
          case atStart => exact ⟨rfl, rfl⟩
          case round =>
            obtain ⟨rfl, rfl⟩ := hrel
            go_wp2_with (first
              | (go_at_call 17; refine HCH.out.mono ?_; rintro e w9 ⟨rfl, hw⟩; have hw := hw.symm; subst hw))
            go_ret2
            exact ⟨s, j, r, rfl, HS8.out, HK8.out, by omega, by omega, (fun b hb => by have := hr b hb; omega), HB8.out⟩
end Go.Proofs.YtopebghandojbaaGreat
