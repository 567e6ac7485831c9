import Derived.Test.YtnoocgodnpjnoaaDoorSj
import Derived.Test.YtnoocgodnpjnoaaDoorSb
import Derived.Test.YtnoocgodnpjnoaaDoorQi
import Derived.Test.YtnoocgodnpjnoaaDoorRe
import Derived.Test.YtnoocgodnpjnoaaDoorOs
namespace Go.Proofs.YtnoocgodnpjnoaaDoor
open Go.RowKit

/-- both tables between the steps -/
structure PQ (w0 : World) (base g r : Nat) (w : World) (D : Nat → Dsc) : Prop where
  ti : TI g w D
  ri : RI base r w (fl D 16)
  pi : PI D
  bel : Below w0.heap.size w0 w
  sz : base ≤ w.heap.size
  lg : w0.heap.size ≤ g ∧ w0.heap.size ≤ r ∧ g < base ∧ r < base ∧ r ≠ g
theorem PQ.below {w0 : World} {base g r : Nat} {w w' : World} {D : Nat → Dsc} (h : PQ w0 base g r w D) (k : Below w.heap.size w w') : PQ w0 base g r w' D :=
  ⟨h.ti.below k, h.ri.below k, h.pi, h.bel.next k, Nat.le_trans h.sz k.size, h.lg⟩
theorem PQ.asks {w0 : World} {base g r : Nat} {w w1 : World} {D : Nat → Dsc} (h : PQ w0 base g r w D) (b : Below w.heap.size w w1) (s : Stp) (hs : s.p.size ≤ 1048576) (hx : SBox w.heap.size w1 s) :
    Calls Tryd.prog 8 #[.pointer (some ⟨g, 0, none⟩), .pointer (some ⟨r, 0, none⟩), .agg #[.int .i64 s.k, .int .i64 s.f, .int .i64 s.m, .int .i64 s.n, .string s.p]] w1 fun e w' => e = .returned (.bool true) ∧ PQ w0 base g r w' (stpD D s) ∧ SBox w.heap.size w' s := by
  obtain ⟨l1, l2, l3, l4, l5⟩ := h.lg
  refine (asks_any (top := w.heap.size) s (h.ti.below b) (h.ri.rt.below b) h.pi b.size h.sz l3 l4 l5 hs).mono fun e w' ⟨he, ht, hr, hj⟩ => ⟨he, ⟨ht, hr, stpD_pi s h.pi, ?_, ?_, h.lg⟩, ?_⟩
  · refine (h.bel.next b).trans ⟨hj.os, hj.tape, hj.output, hj.size, fun k hk => ?_⟩
    have := (h.bel.next b).size
    exact hj.block k (by omega) (by omega) (by omega) (.inl (by omega))
  · have := hj.size
    have := b.size
    have := h.sz
    omega
  · have h1 := h.ti.lt
    have h2 := h.ri.lt
    exact (hj.block _ hx.lt (by omega) (by omega) (.inr (Nat.le_refl _))).trans hx
theorem irow_below {base : Nat} {w w' : World} {v : Value} {l : List Int} (h : IRow base w v l) (k : Below w.heap.size w w') : IRow base w' v l := by
  obtain ⟨e1, e2 | ⟨x, cap, cur, e3, e4, e5, e6⟩⟩ := h
  · exact ⟨e1, .inl e2⟩
  · exact ⟨e1, .inr ⟨x, cap, cur, e3, e4, (k.block x (lt_of_block e5)).trans e5, e6⟩⟩
set_option maxRecDepth 100000 in
set_option maxHeartbeats 4000000 in
theorem steps_walk (ts : List Stp) (w : World) {v : Value} (hT : TLie w v ts) : Calls Tryd.prog 3 #[v] w fun e w' => e = .returned (.bool true) ∧ Below w.heap.size w w' := by
  obtain ⟨ao, cap, rfl, hlc, hcm, hcell⟩ := hT
  unfold maxLen at hcm
  have HC := hid hcell
  clear hcell
  go_enter Tryd.func3, Tryd.ntmps3
  go_wp2_with (go_at_call 7; fail)
  refine (fnew_any _).mono ?_
  rintro e w1 ⟨rfl, t1, b1⟩
  have HT1 := hid t1
  have HB1 := hid b1
  clear t1 b1
  go_upto_region 5 with fail
  obtain ⟨w2, hw2⟩ : ∃ w2, w2 = w1.alloc (.cells #[.slice none 0 0] 28) := ⟨_, rfl⟩
  obtain ⟨g, hg⟩ : ∃ g, g = w.heap.size := ⟨_, rfl⟩
  obtain ⟨r, hr⟩ : ∃ r, r = w1.heap.size := ⟨_, rfl⟩
  have HA : Hid (PQ w w2.heap.size g r w2 D0) := hid (by
    have h1 := HT1.out.lt
    have h2 : w2.heap.size = w1.heap.size + 1 := by rw [hw2]; simp
    have hb2 : Below w1.heap.size w1 w2 := by rw [hw2]; exact below_alloc _ _
    rw [hg, hr]
    refine ⟨HT1.out.below hb2, ?_, D0_pi, HB1.out.next hb2, Nat.le_refl _, by omega, by omega, by omega, by omega, by omega⟩
    exact ⟨_, by rw [hw2]; exact box_at _ _, FRow.nil _ _⟩)
  rw [← hw2, ← hg, ← hr]
  obtain ⟨base, hbs⟩ : ∃ base, base = w2.heap.size := ⟨_, rfl⟩
  rw [← hbs] at HA
  clear HT1 HB1 hw2 hg hr hbs
  go_wp2
  go_loopw [21] (fun i wr => ∃ (j : Nat) (D : Nat → Dsc), i = .int .i64 j ∧ j ≤ ts.length ∧ Hid (PQ w base g r wr D)) (fun i _ => ts.length - (intOf i).toNat)
  case atStart => exact ⟨0, _, rfl, Nat.zero_le _, HA⟩
  case round =>
    obtain ⟨j, D, rfl, hj, HP⟩ := hrel
    rename World => wr
    clear HA
    by_cases hlt : j < ts.length
    · obtain ⟨gb, off, ea, hgb, hat, hps⟩ := HC.out j hlt
      subst ea
      have hgr : gb < wr.heap.size := Nat.lt_of_lt_of_le hgb HP.out.bel.size
      have hblk := HP.out.bel.block gb hgb
      obtain ⟨s, hs⟩ : ∃ s, s = ts[j] := ⟨_, rfl⟩
      rw [← hs] at hat hps
      clear hs
      obtain ⟨sk, sf, sm, sn, sp⟩ := s
      simp only [] at hat hps
      obtain ⟨d0, d1, d2, d3, d4⟩ := hat
      simp only [] at d0 d1 d2 d3 d4
      have cc : ∀ o x, w.cell? ⟨gb, o, none⟩ = some x → wr.cell? ⟨gb, o, none⟩ = some x := fun o x h => by
        simp only [World.cell?] at h ⊢
        rw [hblk]; exact h
      replace d0 := cc _ _ d0
      replace d1 := cc _ _ d1
      replace d2 := cc _ _ d2
      replace d3 := cc _ _ d3
      replace d4 := cc _ _ d4
      clear cc hblk
      go_upto_region 8 with fail
      obtain ⟨w3, hw3⟩ : ∃ w3, w3 = wr.alloc (.cells #[.int .i64 sk, .int .i64 sf, .int .i64 sm, .int .i64 sn, .string sp] 30) := ⟨_, rfl⟩
      obtain ⟨sb, hsb⟩ : ∃ sb, sb = wr.heap.size := ⟨_, rfl⟩
      have HX3 : Hid (SBox sb w3 ⟨sk, sf, sm, sn, sp⟩) := hid (by rw [hw3, hsb]; exact box_at _ _)
      have CA := hid (HP.out.asks (w1 := w3) (by rw [hw3]; exact below_alloc _ _) ⟨sk, sf, sm, sn, sp⟩ hps (by rw [← hsb]; exact HX3.out))
      rw [← hsb] at CA
      simp only at CA
      obtain ⟨D1, hD1⟩ : ∃ D1, D1 = stpD D ⟨sk, sf, sm, sn, sp⟩ := ⟨_, rfl⟩
      rw [← hD1] at CA
      rw [← hw3, ← hsb]
      obtain ⟨x0, x1, x2, x3, x4⟩ := HX3.out.cells
      clear hw3 hsb HP d0 d1 d2 d3 d4 hps hD1 hgr
      go_wp2_with (go_at_call 8; fail)
      refine CA.out.mono ?_
      rintro e w4 ⟨rfl, hp4, hx4⟩
      have HP4 := hid hp4
      have HX4 := hid hx4
      clear CA x0 x1 x2 x3 x4 HX3
      obtain ⟨vk, hkm, hkr⟩ := hp4.ri
      obtain ⟨ko, kc, rfl, hkc1, hkc2⟩ := hkr.len
      have HRR : Hid (∀ i (hi : i < (fl D1 16).length), ∃ gb off, ko = some ⟨gb, off, none⟩ ∧ gb < w4.heap.size ∧ FAt w4 gb (off + i * 3) (fl D1 16)[i]) := hid (by
        obtain ⟨fo, fc, fe, _, _, hfc⟩ := hkr.lie
        injection fe with fe1 fe2 fe3
        subst fe1
        exact hfc)
      have hrl := lt_of_block hkm
      have cr4 : w4.cell? ⟨r, 0, none⟩ = some (.slice ko (fl D1 16).length kc) := by simp [World.cell?, hkm]
      obtain ⟨l, hl⟩ : ∃ l, l = fl D1 16 := ⟨_, rfl⟩
      rw [← hl] at cr4 HRR hkc1
      have hll : l.length ≤ 16 := by rw [hl, fl_len]; exact cnt_le D1 16
      have HLF : Hid (l.map (·.f) = opens D1 16) := hid (by rw [hl]; exact fl_fd D1 16)
      obtain ⟨M, hM⟩ : ∃ M, M = l.length := ⟨_, rfl⟩
      rw [← hM] at cr4 hll hkc1
      replace hM := hid hM
      have CR4 := hid cr4
      have CF := hid (fun (W : World) (k : Below w4.heap.size w4 W) => find_ref sf (HP4.out.ri.below k))
      have CL := hid (fun (W : World) (k : Below w4.heap.size w4 W) => list_any (HP4.out.ti.below k))
      unfold maxLen at hkc2
      clear hkm hkr hp4 hx4 hl
      go_wp2
      go_loopw [7, 35] (fun kv i wx => ∃ (q : Nat), i = .int .i64 q ∧ q ≤ M ∧ Hid (IRow w4.heap.size wx kv ((l.take q).map (fun x : Fil => x.f))) ∧ Hid (Below w4.heap.size w4 wx)) (fun _ i _ => M - (intOf i).toNat)
      case atStart => exact ⟨0, rfl, Nat.zero_le _, hid (IRow.nil _ _), hid (Below.refl _ _)⟩
      case round =>
        obtain ⟨q, rfl, hq, HIR, HB⟩ := hrel
        rename World => wx
        clear cr4
        by_cases hqM : q < M
        · have hq' : q < l.length := by rw [← hM.out]; exact hqM
          obtain ⟨gx, ox, ex, hgx, hax⟩ := HRR.out q hq'
          subst ex
          have HMK : Hid ((l.take (q + 1)).map (fun x : Fil => x.f) = (l.take q).map (fun x : Fil => x.f) ++ [(l[q]'hq').f]) := hid (by rw [List.take_add_one, List.getElem?_eq_getElem hq', List.map_append]; rfl)
          obtain ⟨y, hy⟩ : ∃ y, y = l[q]'hq' := ⟨_, rfl⟩
          rw [← hy] at hax HMK
          clear hy hq'
          obtain ⟨yf, ya, yp⟩ := y
          obtain ⟨a0, a1, a2⟩ := hax
          simp only at a0 a1 a2 HMK
          replace a0 := (HB.out.cell (p := ⟨gx, ox + q * 3, none⟩) hgx).trans a0
          replace a1 := (HB.out.cell (p := ⟨gx, ox + q * 3 + 1, none⟩) hgx).trans a1
          replace a2 := (HB.out.cell (p := ⟨gx, ox + q * 3 + 2, none⟩) hgx).trans a2
          have hgx2 : gx < wx.heap.size := Nat.lt_of_lt_of_le hgx HB.out.size
          have HTL : Hid (((l.take q).map (fun x : Fil => x.f)).length ≤ 2000000) := hid (by simp; omega)
          go_upto_region 14 with fail
          obtain ⟨wy, hwy⟩ : ∃ wy, wy = wx.alloc (.cells #[.int .i64 yf, .int .i64 ya, .string yp] 34) := ⟨_, rfl⟩
          obtain ⟨yb, hyb⟩ : ∃ yb, yb = wx.heap.size := ⟨_, rfl⟩
          have hX3 : wy.heap[yb]? = some (.cells #[.int .i64 yf, .int .i64 ya, .string yp] 34 (0, 0)) := by rw [hwy, hyb]; exact box_at _ _
          have y0 : wy.cell? ⟨yb, 0, none⟩ = some (.int .i64 yf) := by simp [World.cell?, hX3]
          have HI3 : Hid (IRow w4.heap.size wy u7 ((l.take q).map (fun x : Fil => x.f))) := hid (by rw [hwy]; exact irow_below HIR.out (below_alloc _ _))
          have HB3 : Hid (Below w4.heap.size w4 wy) := hid (by rw [hwy]; exact HB.out.next (below_alloc _ _))
          rw [← hwy, ← hyb]
          clear hwy hyb hX3 a0 a1 a2 hgx2
          go_wp2_with (first
            | (at_builtin; refine pushI rfl (.tmp 39) (.tmp 42) rfl w4.heap.size _ u7 (List.map (fun x : Fil => x.f) (l.take q)) yf rfl rfl rfl HI3.out HTL.out HB3.out.size ?_; intro kv' t4 hr4 hb4; have HI4 := hid hr4; have HB4 := hid (HB3.out.trans hb4); clear hr4 hb4))
          go_roundw
          case rel => exact ⟨q + 1, by go_num, by omega, hid (by rw [HMK.out]; exact HI4.out), HB4⟩
          case measure => simp [intOf]; omega
        · have hqe : l.take q = l := by rw [List.take_of_length_le]; rw [← hM.out]; omega
          rw [hqe, HLF.out] at HIR
          have hX5 := HX4.out.below HB.out
          obtain ⟨x0, x1, x2, x3, x4⟩ := hX5.cells
          clear hqe hX5
          cases ho : opn D1 sf with
          | true =>
            obtain ⟨k, rfl, hk, hko⟩ := opn_parts ho
            have CA := hid (fun (W : World) (b : Below w4.heap.size w4 W) => at_yes k (HP4.out.ti.below b) hk hko)
            have hix : idx D1 (k : Int) = ((cnt D1 k : Nat) : Int) := by unfold idx; rw [ho, if_pos rfl, Int.toNat_natCast]
            rw [hix] at CF
            have CRA := hid (fun (W : World) (b : Below w4.heap.size w4 W) => ((HP4.out.ri.below b).rt).at hk hko)
            obtain ⟨c, hc⟩ : ∃ c, c = cnt D1 k := ⟨_, rfl⟩
            obtain ⟨pa, hpa⟩ : ∃ x, x = (D1 k).p := ⟨_, rfl⟩
            obtain ⟨pn, hpn⟩ : ∃ x, x = (D1 k).n := ⟨_, rfl⟩
            rw [← hc] at CF CRA
            rw [← hpa, ← hpn] at CA CRA
            clear hix hc hpa hpn ho hko
            have hc0 : decide ((c : Int) < 0) = false := decide_eq_false (by omega)
            have hc1 : decide (0 ≤ (c : Int)) = true := decide_eq_true (by omega)
            have hnn : (pn != pn) = false := by simp
            go_wp2_with (first
              | (go_at_call 9; refine (CA.out _ HB.out).mono ?_; rintro e w5 ⟨rfl, z5, hw5⟩; have HB5 := hid (HB.out.next (drewN_below _ z5)); have HI5 := hid (irow_below HIR.out (drewN_below _ z5)); rw [← hw5] at HB5 HI5; have x15 : w5.cell? ⟨sb, 1, none⟩ = some (.int .i64 k) := by { rw [hw5]; exact x1 }; clear hw5)
              | (go_at_call 10; refine (CF.out _ HB5.out).mono ?_; rintro e w6 ⟨rfl, b6⟩; have HB6 := hid (HB5.out.next b6); have HI6 := hid (irow_below HI5.out b6); clear b6)
              | (go_at_call 12; refine (CL.out _ HB6.out).mono ?_; rintro e w7 ⟨v7, rfl, r7, b7⟩; have HB7 := hid (HB6.out.next b7); have HI7 := hid (irow_below HI6.out b7); have HR7 := hid r7; clear b7 r7)
              | (go_at_call 11; refine (ints_same HR7.out HI7.out).mono ?_; rintro e w8 ⟨rfl, z8, hw8⟩; have HB8 := hid (HB7.out.next (drewN_below _ z8)); rw [← hw8] at HB8; clear hw8; obtain ⟨xr, nr, cr, k0, k1, k2, k3, _, _, k4, _, _, k5, k6⟩ := CRA.out _ HB8.out))
            go_roundw
            case rel => exact ⟨j + 1, _, by go_num, by omega, hid (HP4.out.below HB8.out)⟩
            case measure => simp [intOf]; omega
          | false =>
            have CA := hid (fun (W : World) (b : Below w4.heap.size w4 W) => at_no sf (HP4.out.ti.below b) ho)
            have hix : idx D1 sf = -1 := by unfold idx; rw [ho]; rfl
            rw [hix] at CF
            clear hix ho
            go_wp2_with (first
              | (go_at_call 9; refine (CA.out _ HB.out).mono ?_; rintro e w5 ⟨rfl, rfl⟩)
              | (go_at_call 10; refine (CF.out _ HB.out).mono ?_; rintro e w6 ⟨rfl, b6⟩; have HB6 := hid (HB.out.next b6); have HI6 := hid (irow_below HIR.out b6); clear b6)
              | (go_at_call 12; refine (CL.out _ HB6.out).mono ?_; rintro e w7 ⟨v7, rfl, r7, b7⟩; have HB7 := hid (HB6.out.next b7); have HI7 := hid (irow_below HI6.out b7); have HR7 := hid r7; clear b7 r7)
              | (go_at_call 11; refine (ints_same HR7.out HI7.out).mono ?_; rintro e w8 ⟨rfl, z8, hw8⟩; have HB8 := hid (HB7.out.next (drewN_below _ z8)); rw [← hw8] at HB8; clear hw8))
            go_roundw
            case rel => exact ⟨j + 1, _, by go_num, by omega, hid (HP4.out.below HB8.out)⟩
            case measure => simp [intOf]; omega
    · have HB := hid HP.out.bel
      clear HP
      go_wp2_with (first
        | (go_at_call 13; refine (speaks_any _).mono ?_; rintro e w3 ⟨rfl, hb3⟩))
      go_ret
      exact ⟨rfl, HB.out.next hb3⟩
end Go.Proofs.YtnoocgodnpjnoaaDoor
