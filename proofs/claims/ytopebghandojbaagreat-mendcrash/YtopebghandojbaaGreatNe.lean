import Derived.Test.YtopebghandojbaaGreatNd
import Derived.Deep.CutBlock
import Derived.Deep.CutRange
import Derived.Deep.DeepCutAuto
import Derived.Deep.LoopGhost
import Derived.Deep.RegionHeld3
import Derived.BigQuiet
namespace Go.Proofs.YtopebghandojbaaGreat
open Go.RowKit Go.Maps

set_option maxRecDepth 100000 in
set_option maxHeartbeats 4000000 in
theorem crash_bad (x y z a0 t0 a1 t1 : Int) (lv pv0 pv1 : Value) (l : List (Value × List Chg)) (h : ¬ Sh.okS x y z) (W : World) (hl : VLie W lv l) :
    Calls Tryz.prog 5 #[.agg #[.int .i64 x, .int .i64 y, .int .i64 z], lv, .agg #[.int .i64 a0, .int .i64 t0, pv0, .int .i64 a1, .int .i64 t1, pv1]] W fun e w' => e = .returned (.bool true) ∧ Below W.heap.size W w' := by
  have HF := hid (fun v w => format_bad x y z h v w)
  have HO := hid open_nilD
  have HS := hid speaks_any
  obtain ⟨ao, cap, rfl, h1, h2, _⟩ := hl
  unfold maxLen at h2
  go_enter Tryz.func5, Tryz.ntmps5
  go_wp2_with (first
    | (go_at_call 8; refine (HF.out _ _).mono ?_; rintro e w1 ⟨rfl, hb1⟩)
    | (go_at_call 11; refine (HO.out _).mono ?_; rintro e w2 ⟨rfl, hb2⟩)
    | (go_at_call 10; refine (HS.out _).mono ?_; rintro e w3 ⟨rfl, hb3⟩))
  go_ret
  exact ⟨rfl, ((((below_alloc _ _).next (below_alloc _ _)).next hb1).next hb2).next hb3⟩
set_option maxRecDepth 100000 in
set_option maxHeartbeats 4000000 in
theorem crash_long (x y z : Nat) (a0 t0 a1 t1 : Int) (lv pv0 pv1 : Value) (l : List (Value × List Chg)) (h : Sh.okS x y z) (h40 : 40 < l.length) (W : World) (hl : VLie W lv l) :
    Calls Tryz.prog 5 #[.agg #[.int .i64 x, .int .i64 y, .int .i64 z], lv, .agg #[.int .i64 a0, .int .i64 t0, pv0, .int .i64 a1, .int .i64 t1, pv1]] W fun e w' => e = .returned (.bool true) ∧ Below W.heap.size W w' := by
  have HF := hid (fun w => format_nil x y z h w)
  have HO := hid (fun w B g N fp (hD : Dv.DIs B g w N ⟨x, fmtL x y z, []⟩ fp) hB => rn_open x y z h (good_format x y z h) w hD hB)
  have HS := hid speaks_any
  obtain ⟨ao, cap, rfl, h1, h2, _⟩ := hl
  unfold maxLen at h2
  clear h
  go_enter Tryz.func5, Tryz.ntmps5
  go_wp2_with (first
    | (go_at_call 8; refine (HF.out _).mono ?_; rintro e w1 ⟨g, fp, rfl, hd1, hb1⟩
       have HD1 := hid hd1
       clear hd1)
    | (go_at_call 11; refine (HO.out _ _ _ _ _ HD1.out (by exact hb1.size)).mono ?_; rintro e w2 ⟨s, j, m, rfl, hr2, hs2, hb2⟩
       have HR2 := hid hr2
       clear hr2)
    | (go_at_call 10; refine (HS.out _).mono ?_; rintro e w3 ⟨rfl, hb3⟩))
  go_ret
  exact ⟨rfl, ((((below_alloc _ _).next (below_alloc _ _)).next hb1).next hb2).next hb3⟩
theorem six_cells {w : World} {g : Nat} {a b c d e f : Value} {t : TypeId} (hh : w.heap[g]? = some (.cells #[a, b, c, d, e, f] t (0, 0))) : w.cell? ⟨g, 0, none⟩ = some a ∧ w.cell? ⟨g, 1, none⟩ = some b ∧ w.cell? ⟨g, 2, none⟩ = some c ∧ w.cell? ⟨g, 3, none⟩ = some d ∧ w.cell? ⟨g, 4, none⟩ = some e ∧ w.cell? ⟨g, 5, none⟩ = some f := by
  refine ⟨?_, ?_, ?_, ?_, ?_, ?_⟩ <;> simp [World.cell?, hh]
theorem CutD.below {B g x y z : Nat} {W2 wx w' : World} {st1 st2 : Nat → ByteArray} (h : CutD B g x y z W2 st1 st2 wx) (k : Below wx.heap.size wx w') (hB : B ≤ W2.heap.size) : CutD B g x y z W2 st1 st2 w' := by
  obtain ⟨hb, σ, fp, hD, h2⟩ := h
  exact ⟨hb.trans (k.mono (by have := hb.size; omega)), σ, fp, hD.below k, h2⟩
set_option maxRecDepth 100000 in
set_option maxHeartbeats 16000000 in
theorem crash_go (x y z : Nat) (a0 t0 a1 t1 : Int) (lv pv0 pv1 : Value) (l : List (Value × List Chg)) (bs0 bs1 : List Bool) (h : Sh.okS x y z) (h40 : l.length ≤ 40) (W : World) (hl : VLie W lv l) (hb0 : BLie W pv0 bs0) (hb1 : BLie W pv1 bs1) :
    Calls Tryz.prog 5 #[.agg #[.int .i64 x, .int .i64 y, .int .i64 z], lv, .agg #[.int .i64 a0, .int .i64 t0, pv0, .int .i64 a1, .int .i64 t1, pv1]] W fun e w' => e = .returned (.bool true) ∧ Below W.heap.size W w' := by
  have HF := hid (fun w => format_nil x y z h w)
  have HO := hid (fun w B g N fp (hD : Dv.DIs B g w N ⟨x, fmtL x y z, []⟩ fp) hB => rn_open x y z h (good_format x y z h) w hD hB)
  have HS := hid speaks_any
  have hx1 : x ≤ 1024 := by have := h.1.1; omega
  have hy1 : y ≤ 1024 := by have := h.2; omega
  have HH := hid h
  have HVL := hid hl
  have HBL0 := hid hb0
  have HPB0 : Hid (bs0 ≠ [] → ∀ b, pv0.ownBlock = some b → b < W.heap.size) := hid hb0.blk
  have HBL1 := hid hb1
  have HPB1 : Hid (bs1 ≠ [] → ∀ b, pv1.ownBlock = some b → b < W.heap.size) := hid hb1.blk
  have HG0 := hid (good_format x y z h)
  obtain ⟨ao, cap, rfl, h1, h2, hcells⟩ := hl
  unfold maxLen at h2
  clear h hb0 hb1 hcells
  obtain ⟨W2, hW2⟩ : ∃ W2, W2 = (W.alloc (.cells #[.int .i64 (x : Int), .int .i64 (y : Int), .int .i64 (z : Int)] 23)).alloc (.cells #[.int .i64 a0, .int .i64 t0, pv0, .int .i64 a1, .int .i64 t1, pv1] 73) := ⟨_, rfl⟩
  have HBW : Hid (Below W.heap.size W W2) := hid (by rw [hW2]; exact (below_alloc _ _).next (below_alloc _ _))
  have hWs : W2.heap.size = W.heap.size + 2 := by rw [hW2]; simp
  have HX : Hid (W2.heap[W.heap.size]? = some (.cells #[.int .i64 (x : Int), .int .i64 (y : Int), .int .i64 (z : Int)] 23 (0, 0)) ∧ W2.heap[W.heap.size + 1]? = some (.cells #[.int .i64 a0, .int .i64 t0, pv0, .int .i64 a1, .int .i64 t1, pv1] 73 (0, 0))) := hid (by
    rw [hW2]
    refine ⟨(Below.heap_alloc _ _ _ (by simp)).trans (box_at W _), ?_⟩
    have := box_at (W.alloc (.cells #[.int .i64 (x : Int), .int .i64 (y : Int), .int .i64 (z : Int)] 23)) (.cells #[.int .i64 a0, .int .i64 t0, pv0, .int .i64 a1, .int .i64 t1, pv1] 73)
    simpa using this)
  have HW2 := hid hW2
  clear hW2
  go_enter Tryz.func5, Tryz.ntmps5
  go_upto_region 5 with (first
    | (go_at_call 8; refine (HF.out _).mono ?_; rintro e w1 ⟨g, fp, rfl, hd1, hb1⟩
       rw [← HW2.out] at hd1 hb1
       have HD1 := hid hd1
       have HB1 := hid hb1
       clear hd1 hb1)
    | (go_at_call 11; refine (HO.out _ _ _ _ _ HD1.out (by exact HB1.out.size)).mono ?_; rintro e w2 ⟨s, j, m, rfl, hr2, hs2, hb2⟩
       have HR2 := hid hr2
       have HB2 := hid (HB1.out.next hb2)
       clear hr2 hb2))
  have HQ0 : Hid (QD W2.heap.size s g x y z j m W2 [] 0 w2) := hid (by
    refine ⟨HB2.out, (fun X hX => by cases hX), fmtL x y z, 0, 1, [], ⟨?_, HG0.out⟩, Nat.le_refl _⟩
    have k := HR2.out
    have e1 : mendA y 0 1 [] = [] := if_pos rfl
    have e2 : (0 + used []) % (y - 1) = 0 := Nat.zero_mod _
    rw [e1, e2] at k
    exact k)
  obtain ⟨d0, _, _⟩ := six_cells ((HB2.out.block _ (by omega)).trans HX.out.2)
  clear HR2 HD1 HB1 hs2
  go_upto_block 0 with fail
  go_cut [11, 13] (fun dv uv wx => ∃ (DL : List (Value × List Chg)) (u : Bool), uv = .bool u ∧ DRow W2.heap.size W wx dv DL ∧ (∀ X ∈ DL.map (·.2), okX y x X) ∧ CutD W2.heap.size g x y z W2 (stD ((DL.map (·.2)).take (DL.length - u.toNat))) (stD (DL.map (·.2))) wx ∧ (u = true → DL ≠ []))
  case first =>
    go_wp2_with fail
    go_loopw [11, 12, 13, 66] (fun dv ac uv i wr => ∃ (DL : List (Value × List Chg)) (q : Nat) (n : Int), uv = .bool false ∧ ac = .int .i64 n ∧ i = .int .i64 q ∧ q ≤ l.length ∧ DL.length ≤ q ∧ DRow W2.heap.size W wr dv DL ∧ QD W2.heap.size s g x y z j m W2 (DL.map (·.2)) q wr) (fun _ _ _ i _ => l.length - (intOf i).toNat)
    case atStart => exact ⟨[], 0, a0, rfl, rfl, rfl, Nat.zero_le _, Nat.zero_le _, DRow.nil _ _ _, HQ0.out⟩
    case round =>
      obtain ⟨DL, q, n, rfl, rfl, rfl, hq, hDq, hdr, hqx⟩ := hrel
      have HQX := hid hqx
      have HDR := hid hdr
      clear hqx d0 hdr
      by_cases hql : q < l.length
      · have HWr : Hid (Below W.heap.size W wr) := hid (HBW.out.trans (HQX.out.1.mono (by omega)))
        obtain ⟨gb, off, cp, e, hgb, c0, hcl⟩ := HVL.out.at hql
        injection e with e1 e2 e3
        subst e1
        have c1 : wr.cell? ⟨gb, off + q, none⟩ = some l[q].1 := (HWr.out.cell (p := ⟨gb, off + q, none⟩) hgb).trans c0
        have hmem := hcl.blk
        have HCW := hid hcl
        have HCM := hid (HQX.out.commit HH.out (by omega) l[q].1 l[q].2 (hcl.below HWr.out) (fun hL0 b hb => by have := hmem hL0 b hb; omega) (Nat.le_refl _))
        obtain ⟨p, hp⟩ : ∃ p, p = l[q] := ⟨_, rfl⟩
        rw [← hp] at c1 HCM HCW
        obtain ⟨vq, Lq⟩ := p
        clear hp hmem hcl c0 e3 e2
        obtain ⟨lo, lc, rfl, _⟩ : ∃ ao cap, vq = .slice ao Lq.length cap ∧ True := by obtain ⟨ao, cap, e, _⟩ := HCW.out; exact ⟨ao, cap, e, trivial⟩
        go_wp2_with (first
          | (go_at_call 14; refine HCM.out.mono ?_; rintro e w3 (⟨rfl, k, hg3⟩ | ⟨n3, rfl, h31, h5, hq3⟩)
             all_goals skip)
          | (go_at_call 33; fail)
          | (at_builtin; refine pushD (w0 := w3) rfl (.tmp 86) (.tmp 88) rfl w3.heap.size _ DL (.slice lo Lq.length lc) Lq rfl HCW.out rfl rfl rfl hg3.out.1.1.size (HDR.out.keep hg3.out.2.1) (by omega) ?_; intro v7 w7 hR7 hg7; have HR7 := hid hR7; have HG7 : Hid (GoD W2.heap.size s g x y z j m W2 (DL.map (·.2)) Lq (q + 1) k w7) := hid (HDR.out.grow hg7 (fun w'' b cs k1 k2 k3 => hg3.out.2.2 w'' b cs k1 k2 k3) (fun kb => hg3.out.1.below kb (Nat.le_refl _))); clear hR7 hg7))
        · go_loopg [12] k (fun kk ac wx => ∃ n : Int, ac = .int .i64 n ∧ GoD W2.heap.size s g x y z j m W2 (DL.map (·.2)) Lq (q + 1) kk wx ∧ DRow W2.heap.size W wx v7 (DL ++ [(.slice lo Lq.length lc, Lq)]))
          case atStart => exact ⟨n, rfl, HG7.out, HR7.out⟩
          case round =>
            obtain ⟨n', rfl, hgo, hdr⟩ := hrel
            have HGO := hid hgo
            have HD7 := hid hdr
            clear hgo hdr c1
            have HBU := hid HGO.out.busy
            by_cases hk : gk = 0
            · subst hk
              rw [decide_eq_false (show ¬ 0 < 0 by omega)] at HBU
              go_wp2_with (first
                | (go_at_call 21; refine HBU.out.mono ?_; rintro e w4 ⟨rfl, hw⟩; have hw := hw.symm; subst hw))
              go_roundw
              case rel => exact ⟨DL ++ [(.slice lo Lq.length lc, Lq)], q + 1, n', rfl, rfl, by go_num, by omega, by simp; omega, HD7.out, by rw [List.map_append]; exact HGO.out.fin⟩
              case measure => simp only [intOf] at *; omega
            · rw [decide_eq_true (show 0 < gk by omega)] at HBU
              by_cases hn : 0 < n'
              · obtain ⟨k', rfl⟩ : ∃ k', gk = k' + 1 := ⟨gk - 1, by omega⟩
                have HST := hid (HGO.out.step (Nat.le_refl _))
                go_wp2_with (first
                  | (go_at_call 21; refine HBU.out.mono ?_; rintro e w4 ⟨rfl, hw⟩; have hw := hw.symm; subst hw)
                  | (go_at_call 18; refine HST.out.mono ?_; rintro e w4 ⟨⟨b4, rfl⟩, hg4⟩))
                go_roundg k'
                case measure => omega
                case rel => exact ⟨_, rfl, hg4.out.1, HD7.out.keep hg4.out.2⟩
              · go_wp2_with (first
                  | (go_at_call 21; refine HBU.out.mono ?_; rintro e w4 ⟨rfl, hw⟩; have hw := hw.symm; subst hw))
                go_meet
                refine ⟨DL ++ [(.slice lo Lq.length lc, Lq)], true, rfl, HD7.out, ?_, ?_, fun _ => by simp⟩
                · rw [List.map_append]; exact HGO.out.2.1
                · have hc := HGO.out.cut
                  have e : ((DL ++ [((.slice lo Lq.length lc : Value), Lq)]).map (·.2)).take ((DL ++ [((.slice lo Lq.length lc : Value), Lq)]).length - (true).toNat) = DL.map (·.2) := by simp
                  rw [e, List.map_append]
                  exact hc
        · have HQ3 := hid hq3.out.1
          have HK3 := hid hq3.out.2
          clear hq3 c1 HCM
          have HB3 : Hid (Below W.heap.size W w3) := hid (HBW.out.trans (HQ3.out.1.mono (by omega)))
          have HR3 := hid (right_any (.slice lo Lq.length lc) Lq w3 (HCW.out.below HB3.out))
          have fin : ∀ w', Below w3.heap.size w3 w' → DRow W2.heap.size W w' u11 DL ∧ QD W2.heap.size s g x y z j m W2 (DL.map (·.2)) (q + 1) w' := fun w' kb => ⟨HDR.out.keep (HK3.out.trans (K24.of kb)), HQ3.out.below kb (Nat.le_refl _)⟩
          have HFIN := hid fin
          clear fin
          by_cases hr : right Lq = true
          · rw [hr] at HR3
            have HR4 : Hid (∀ w', Below w3.heap.size w3 w' → Calls Tryz.prog 34 #[.agg #[.int .i64 x, .int .i64 y, .int .i64 z], .slice lo Lq.length lc] w' fun e w'' => e = .returned (.bool (r9 x y (-1) Lq)) ∧ Below w'.heap.size w' w'') := hid (fun w' kb => right9_any x y z _ Lq w' (HCW.out.below (HB3.out.trans (kb.mono (by have := HB3.out.size; omega)))))
            by_cases h9 : r9 x y (-1) Lq = true
            · rw [h9] at HR4
              obtain rfl : n3 = 5 := by
                rcases h5 with h5 | ⟨_, h5⟩
                · exact h5
                · exact absurd ⟨hr, r9_within x y Lq _ h9⟩ h5
              clear h5 h31 hr h9
              go_wp2_with (first
                | (go_at_call 33; refine HR3.out.mono ?_; rintro e w4 ⟨rfl, hb4⟩
                   have HB4 := hid hb4
                   obtain ⟨e0, e1, e2⟩ := three_cells (((HQ3.out.1.trans (hb4.mono HQ3.out.1.size)).block _ (by omega)).trans HX.out.1)
                   clear hb4)
                | (go_at_call 34; refine (HR4.out _ HB4.out).mono ?_; rintro e w5 ⟨rfl, hb5⟩))
              go_roundw
              case rel =>
                obtain ⟨f1, f2⟩ := HFIN.out _ (HB4.out.next hb5)
                exact ⟨DL, q + 1, n, rfl, rfl, by go_num, by omega, by omega, f1, f2⟩
              case measure => simp only [intOf] at *; omega
            · rw [Bool.not_eq_true] at h9
              rw [h9] at HR4
              clear h5 hr h9
              go_wp2_with (first
                | (go_at_call 33; refine HR3.out.mono ?_; rintro e w4 ⟨rfl, hb4⟩
                   have HB4 := hid hb4
                   obtain ⟨e0, e1, e2⟩ := three_cells (((HQ3.out.1.trans (hb4.mono HQ3.out.1.size)).block _ (by omega)).trans HX.out.1)
                   clear hb4)
                | (go_at_call 34; refine (HR4.out _ HB4.out).mono ?_; rintro e w5 ⟨rfl, hb5⟩))
              go_roundw
              case rel =>
                obtain ⟨f1, f2⟩ := HFIN.out _ (HB4.out.next hb5)
                exact ⟨DL, q + 1, n, rfl, rfl, by go_num, by omega, by omega, f1, f2⟩
              case measure => simp only [intOf] at *; omega
          · rw [Bool.not_eq_true] at hr
            rw [hr] at HR3
            clear h5 hr
            go_wp2_with (first
              | (go_at_call 33; refine HR3.out.mono ?_; rintro e w4 ⟨rfl, hb4⟩
                 have HB4 := hid hb4
                 clear hb4))
            go_roundw
            case rel =>
              obtain ⟨f1, f2⟩ := HFIN.out _ HB4.out
              exact ⟨DL, q + 1, n, rfl, rfl, by go_num, by omega, by omega, f1, f2⟩
            case measure => simp only [intOf] at *; omega
      · go_wp2_with fail
        go_meet
        refine ⟨DL, false, rfl, HDR.out, HQX.out.2.1, ?_, fun e => by cases e⟩
        have e : (DL.map (·.2)).take (DL.length - (false).toNat) = DL.map (·.2) := List.take_of_length_le (by simp)
        rw [e]
        exact HQX.out.cut
  case rest =>
    obtain ⟨DL, u, rfl, hdr, hok, hcd, hne⟩ := hcut
    rename World => w5
    obtain ⟨dao, dcap, rfl, hdl, hdc⟩ := hdr.len
    unfold maxLen at hdc
    have HDR := hid hdr
    have HCU := hid hcd
    have HOKD := hid hok
    clear hdr hcd hok d0 HQ0
    have hD40 := HDR.out.2.1
    have hsz5 := HCU.out.1.size
    have HB5 : Hid (Below W.heap.size W w5) := hid (HBW.out.trans (HCU.out.1.mono (by omega)))
    obtain ⟨d0, d1, d2, d3, d4, d5⟩ := six_cells ((HCU.out.1.block _ (by omega)).trans HX.out.2)
    obtain ⟨sn, hsn⟩ : ∃ sn, sn = DL.length - u.toNat := ⟨_, rfl⟩
    have hsv : (if u = true then (DL.length : Int) - 1 else DL.length) = (sn : Int) := by
      cases u
      · simp [hsn]
      · have := List.length_pos_iff.2 (hne rfl)
        simp [hsn]; omega
    have hsl : sn ≤ DL.length := by omega
    rw [← hsn] at HCU
    clear hsn
    obtain ⟨st1, hst1⟩ : ∃ st1, st1 = stD ((DL.map (·.2)).take sn) := ⟨_, rfl⟩
    obtain ⟨st2, hst2⟩ : ∃ st2, st2 = stD (DL.map (·.2)) := ⟨_, rfl⟩
    rw [← hst1, ← hst2] at HCU
    have HT1 := hid hst1
    have HT2 := hid hst2
    clear hst1 hst2
    have HCR : Hid (∀ w', Below w5.heap.size w5 w' → Calls Tryz.prog 35 #[.pointer (some ⟨g, 0, none⟩), pv0, .int .i64 (clipN t0)] w' fun e w'' => e = .returned (.int .i64 0) ∧ Hid ((CrD W2.heap.size g x y z W2 st1 w'' ∨ CrD W2.heap.size g x y z W2 st2 w'') ∧ K24 w' w'')) :=
      hid (fun w' hb => (HCU.out.below hb (Nat.le_refl _)).crash pv0 bs0 (clipN t0) (clipN_le t0) (HBL0.out.belowW (HB5.out.trans (hb.mono (by omega)))) (fun h0 b hb => by have := HPB0.out h0 b hb; omega))
    go_upto_region 22 with fail
    go_cut [112] (fun cv wx => cv = .bool false ∧ DRow W2.heap.size W wx (.slice dao DL.length dcap) DL ∧ Below W2.heap.size W2 wx ∧ ∃ st, (st = st1 ∨ st = st2) ∧ CrD W2.heap.size g x y z W2 st wx)
    case first =>
      go_region_held3 (fun w' => w'.cell? ⟨W.heap.size + 1, 1, none⟩ = some (.int .i64 t0) ∧ w'.cell? ⟨W.heap.size + 1, 2, none⟩ = some pv0) (first | exact ⟨d1, d2⟩ | exact d7 | go_keep) (first
        | (go_at_call 36; refine (clip_any t0 _).mono ?_; rintro e w6 ⟨rfl, hw⟩; have hw := hw.symm; subst hw)
        | (go_at_call 35; refine (HCR.out _ (by exact ⟨rfl, rfl, rfl, Nat.le_refl _, fun _ _ => rfl⟩)).mono ?_; rintro e w7 ⟨rfl, h7⟩
           have hb7 : Below W2.heap.size W2 w7 := by rcases h7.out.1 with h | h <;> exact h.1
           have d7 : w7.cell? ⟨W.heap.size + 1, 1, none⟩ = some (.int .i64 t0) ∧ w7.cell? ⟨W.heap.size + 1, 2, none⟩ = some pv0 := by obtain ⟨_, q1, q2, _⟩ := six_cells ((hb7.block _ (by omega)).trans HX.out.2); exact ⟨q1, q2⟩))
      all_goals
        go_wp2
        go_meet
        refine ⟨rfl, HDR.out.keep (K24.trans (fun _ _ e => e) h7.out.2), hb7, ?_⟩
        rcases h7.out.1 with h | h
        · exact ⟨_, .inl rfl, h⟩
        · exact ⟨_, .inr rfl, h⟩
    case rest =>
      obtain ⟨rfl, hdr8, hb8, hcr8⟩ := hcut
      rename World => w8
      have HD8 := hid hdr8
      have HB8 := hid hb8
      have HC8 := hid hcr8
      clear hdr8 hb8 hcr8 d0 d1 d2 d3 d4 d5 HCR HCU
      clear HDR
      go_upto_if 115 with fail
      go_cut [17] (fun sv wx => sv = .int .i64 sn ∧ wx = w8)
      case first =>
        cases u
        all_goals
          simp at hsv
          go_wp2_with fail
          go_meet
          exact ⟨by rw [← hsv], rfl⟩
      case rest =>
        obtain ⟨rfl, rfl⟩ := hcut
        clear hsv hne
        go_wp2_with fail
        go_loopw [18] (fun kv wx => ∃ kk : Nat, kv = .int .i64 kk ∧ kk ≤ 2 ∧ DRow W2.heap.size W wx (.slice dao DL.length dcap) DL ∧ Below W2.heap.size W2 wx ∧ (kk < 2 → ∃ st, (st = st1 ∨ st = st2) ∧ CrD W2.heap.size g x y z W2 st wx)) (fun kv _ => 2 - (intOf kv).toNat)
        case atStart => exact ⟨0, rfl, by omega, HD8.out, HB8.out, fun _ => HC8.out⟩
        case round =>
          clear HD8 HB8 HC8
          obtain ⟨kk, rfl, hkk, hdr, hbw, hcr⟩ := hrel
          have HDk := hid hdr
          have HBk := hid hbw
          have HCk := hid hcr
          clear hdr hbw hcr
          by_cases hk2 : kk < 2
          · obtain ⟨st, hst, hc⟩ := HCk.out hk2
            have HSTE := hid hst
            have HOP := hid (hc.open HH.out (Nat.le_refl _))
            clear HCk hst hc
            go_upto_region 33 with (first
              | (go_at_call 11; refine HOP.out.mono ?_; rintro e w9 ⟨s5, j5, m5, k5, rfl, hm9⟩))
            have HM9 := hid hm9.out.1
            have HD9 := hid (HDk.out.keep hm9.out.2)
            have hk5 : k5 ≤ 1000 := by obtain ⟨_, _, _, _, _, _, _, _, _, h, _⟩ := HM9.out; exact h
            clear HOP hm9 HDk HBk
            have HBn : Hid (Below W2.heap.size W2 w9) := hid HM9.out.1
            obtain ⟨d0, d1, d2⟩ := three_cells ((HBn.out.block _ (by omega)).trans HX.out.1)
            have HBWn : Hid (Below W.heap.size W w9) := hid (HBW.out.trans (HBn.out.mono (by omega)))
            obtain ⟨T, hT⟩ : ∃ T : Nat → (Nat → ByteArray), T = fun n => stD ((DL.map (·.2)).take n) := ⟨_, rfl⟩
            have HST : Hid (∀ (n : Nat) w', n ≤ DL.length → Below w9.heap.size w9 w' → Calls Tryz.prog 38 #[.agg #[.int .i64 x, .int .i64 y, .int .i64 z], (.slice dao DL.length dcap), .int .i64 (n : Int)] w' fun e w'' => ∃ gb, e = .returned (.slice (some ⟨gb, 0, none⟩) x x) ∧ Fis gb x x w'' (T n) ∧ Below w'.heap.size w' w'') := hid (fun n w' hn kb => by
              rw [hT]
              refine (state_any x y z n hx1 _ DL hn HOKD.out w' ((HD9.out.keep (K24.of kb)).lie (HBWn.out.trans (kb.mono HBWn.out.size)))).mono ?_
              rintro e w'' ⟨gb, q1, q2, q3, _⟩
              exact ⟨gb, q1, q2, q3⟩)
            obtain ⟨b, hb⟩ : ∃ b : Nat → Bool, b = fun n => isB x y st (T n) := ⟨_, rfl⟩
            have HIS : Hid (∀ (n gb : Nat) (c : Bool) w', Below w9.heap.size w9 w' → Fis gb x x w' (T n) → b n = c → Calls Tryz.prog 37 #[.pointer (some ⟨s5, 0, none⟩), .agg #[.int .i64 x, .int .i64 y, .int .i64 z], .slice (some ⟨gb, 0, none⟩) x x] w' fun e w'' => e = .returned (.bool c) ∧ Below w'.heap.size w' w'') := hid (fun n gb c w' kb hF hc => by
              rw [← hc, hb]
              exact is_any hx1 hy1 w' (HM9.out.below kb (Nat.le_refl _)) (Nat.le_refl _) hF)
            have hor : b sn = true ∨ (b sn = false ∧ b DL.length = true) := by
              have e1 : T sn = st1 := by rw [hT]; exact HT1.out.symm
              have e2 : T DL.length = st2 := by rw [hT, HT2.out]; show stD ((DL.map (·.2)).take DL.length) = _; rw [List.take_of_length_le (by simp)]
              rcases HSTE.out with e | e
              · left; rw [hb]; show isB x y st (T sn) = true; rw [e1, e]; exact isB_self x y _
              · cases hbs : b sn with
                | true => exact .inl rfl
                | false => refine .inr ⟨rfl, ?_⟩; rw [hb]; show isB x y st (T DL.length) = true; rw [e2, e]; exact isB_self x y _
            clear hT hb
            go_cut [151] (fun cv wx => cv = .bool false ∧ Below w9.heap.size w9 wx)
            case first =>
              have bcur : Below w9.heap.size w9 w9 := Below.refl _ _
              have dcur : (w9.cell? ⟨W.heap.size, 0, none⟩ = some (.int .i64 x) ∧ w9.cell? ⟨W.heap.size, 1, none⟩ = some (.int .i64 y) ∧ w9.cell? ⟨W.heap.size, 2, none⟩ = some (.int .i64 z)) := ⟨d0, d1, d2⟩
              clear d0 d1 d2
              rcases hor with hs1 | ⟨hs1, hs2⟩
              · refine wp_region_held_drew (S := fun w' => (w'.cell? ⟨W.heap.size, 0, none⟩ = some (.int .i64 x) ∧ w'.cell? ⟨W.heap.size, 1, none⟩ = some (.int .i64 y) ∧ w'.cell? ⟨W.heap.size, 2, none⟩ = some (.int .i64 z))) (by kernel_rfl) (by exact dcur) (fun _ => ?_)
                refine wpAnyH_take (i := 0) (v := ?_) rfl (by kernel_rfl) (by kernel_rfl) (by kernel_rfl) (fun _ _ _ h => h) (Or.inl ⟨by rfl, ?_⟩) (by exact dcur) ?_
                rotate_left
                · intro w hSw
                  try dsimp only at hSw
                  go_simp
                  all_goals with_reducible rfl
                try simp only [Act.put, List.setIfInBounds_toArray]
                refine wpAnyH_take (i := 1) (v := ?_) rfl (by kernel_rfl) (by kernel_rfl) (by kernel_rfl) (fun _ _ _ h => h) (Or.inl ⟨by rfl, ?_⟩) (by exact dcur) ?_
                rotate_left
                · intro w hSw
                  try dsimp only at hSw
                  go_simp
                  all_goals with_reducible rfl
                try simp only [Act.put]
                refine wpAnyH_take (i := 2) (v := ?_) rfl (by kernel_rfl) (by kernel_rfl) (by kernel_rfl) (fun _ _ _ h => h) (Or.inl ⟨by rfl, ?_⟩) (by exact dcur) ?_
                rotate_left
                · intro w hSw
                  try dsimp only at hSw
                  go_simp
                  all_goals with_reducible rfl
                try simp only [Act.put]
                refine wpAnyH_take (i := 3) (v := ?_) rfl (by kernel_rfl) (by kernel_rfl) (by kernel_rfl) (fun _ _ _ h => h) (Or.inl ⟨by rfl, ?_⟩) (by exact dcur) ?_
                rotate_left
                · intro w hSw
                  try dsimp only at hSw
                  go_simp
                  all_goals with_reducible rfl
                try simp only [Act.put]
                refine wpAnyH_take (i := 4) (v := ?_) rfl (by kernel_rfl) (by kernel_rfl) (by kernel_rfl) (fun _ _ _ h => h) (Or.inl ⟨by rfl, ?_⟩) (by exact dcur) ?_
                rotate_left
                · intro w hSw
                  try dsimp only at hSw
                  go_simp
                  all_goals with_reducible rfl
                try simp only [Act.put]
                refine wpAnyH_ready (rs := [5]) (by kernel_rfl) (by simp) ?_
                refine AllReadyH.cons rfl (fun K hK => ?_) AllReadyH.nil
                go_simp
                (go_at_call 38; refine (HST.out _ _ (by omega) (by exact ⟨bcur.os, bcur.tape, bcur.output, bcur.size, bcur.block⟩)).mono ?_; rintro e wa ⟨gb, rfl, hF, hba⟩; have bn : Below w9.heap.size w9 wa := bcur.next ⟨hba.os, hba.tape, hba.output, hba.size, hba.block⟩; have dn := three_cells (((HBn.out.trans (bn.mono HBn.out.size)).block _ (by omega)).trans HX.out.1); clear bcur dcur hba; have bcur := bn; have dcur := dn; clear bn dn)
                refine hK.out _ _ (by exact dcur) (fun _ => ?_)
                clear hK K
                try simp only [Act.put, List.setIfInBounds_toArray, List.set_cons_zero, List.set_cons_succ]
                refine wpAnyH_ready (rs := [6]) (by kernel_rfl) (by simp) ?_
                refine AllReadyH.cons rfl (fun K hK => ?_) AllReadyH.nil
                go_simp
                (go_at_call 37; refine (HIS.out _ _ _ _ (by exact ⟨bcur.os, bcur.tape, bcur.output, bcur.size, bcur.block⟩) (by exact hF) (by first | exact hs1 | exact hs2)).mono ?_; rintro e wa ⟨rfl, hba⟩; have bn : Below w9.heap.size w9 wa := bcur.next ⟨hba.os, hba.tape, hba.output, hba.size, hba.block⟩; have dn := three_cells (((HBn.out.trans (bn.mono HBn.out.size)).block _ (by omega)).trans HX.out.1); clear bcur dcur hba hF; have bcur := bn; have dcur := dn; clear bn dn)
                refine hK.out _ _ (by exact dcur) (fun _ => ?_)
                clear hK K
                try simp only [Act.put, List.setIfInBounds_toArray, List.set_cons_zero, List.set_cons_succ]
                refine wpAnyH_take (i := 7) (v := ?_) rfl (by kernel_rfl) (by kernel_rfl) (by kernel_rfl) (fun _ _ _ h => h) (Or.inl ⟨by rfl, ?_⟩) (by exact dcur) ?_
                rotate_left
                · intro w hSw
                  try dsimp only at hSw
                  go_simp
                  all_goals with_reducible rfl
                try simp only [Act.put, List.setIfInBounds_toArray]
                refine wpAnyH_take (i := 8) (v := ?_) rfl (by kernel_rfl) (by kernel_rfl) (by kernel_rfl) (fun _ _ _ h => h) (Or.inl ⟨by rfl, ?_⟩) (by exact dcur) ?_
                rotate_left
                · intro w hSw
                  try dsimp only at hSw
                  go_simp
                  all_goals with_reducible rfl
                try simp only [Act.put]
                refine wpAnyH_take (i := 9) (v := undef) rfl (by kernel_rfl) (by kernel_rfl) (by kernel_rfl) (fun _ _ _ h => h) (Or.inr ⟨by rfl, rfl⟩) (by exact dcur) ?_
                try simp only [Act.put]
                refine wpAnyH_take (i := 10) (v := undef) rfl (by kernel_rfl) (by kernel_rfl) (by kernel_rfl) (fun _ _ _ h => h) (Or.inr ⟨by rfl, rfl⟩) (by exact dcur) ?_
                try simp only [Act.put]
                refine wpAnyH_take (i := 11) (v := undef) rfl (by kernel_rfl) (by kernel_rfl) (by kernel_rfl) (fun _ _ _ h => h) (Or.inr ⟨by rfl, rfl⟩) (by exact dcur) ?_
                try simp only [Act.put]
                refine wpAnyH_take (i := 12) (v := undef) rfl (by kernel_rfl) (by kernel_rfl) (by kernel_rfl) (fun _ _ _ h => h) (Or.inr ⟨by rfl, rfl⟩) (by exact dcur) ?_
                try simp only [Act.put]
                refine wpAnyH_take (i := 13) (v := undef) rfl (by kernel_rfl) (by kernel_rfl) (by kernel_rfl) (fun _ _ _ h => h) (Or.inr ⟨by rfl, rfl⟩) (by exact dcur) ?_
                try simp only [Act.put]
                refine wpAnyH_ready (rs := [14]) (by kernel_rfl) (by simp) ?_
                refine AllReadyH.cons rfl (fun K hK => ?_) AllReadyH.nil
                go_simp
                skip
                refine hK.out _ _ (by exact dcur) (fun _ => ?_)
                clear hK K
                try simp only [Act.put, List.setIfInBounds_toArray, List.set_cons_zero, List.set_cons_succ]
                refine wpAnyH_ready (rs := [15]) (by kernel_rfl) (by simp) ?_
                refine AllReadyH.cons rfl (fun K hK => ?_) AllReadyH.nil
                go_simp
                skip
                refine hK.out _ _ (by exact dcur) (fun _ => ?_)
                clear hK K
                try simp only [Act.put, List.setIfInBounds_toArray, List.set_cons_zero, List.set_cons_succ]
                refine wpAnyH_ready (rs := [16]) (by kernel_rfl) (by simp) ?_
                refine AllReadyH.cons rfl (fun K hK => ?_) AllReadyH.nil
                go_simp
                skip
                refine hK.out _ _ (by exact dcur) (fun _ => ?_)
                clear hK K
                try simp only [Act.put, List.setIfInBounds_toArray, List.set_cons_zero, List.set_cons_succ]
                refine wpAnyH_ready (rs := [17]) (by kernel_rfl) (by simp) ?_
                refine AllReadyH.cons rfl (fun K hK => ?_) AllReadyH.nil
                go_simp
                skip
                refine hK.out _ _ (by exact dcur) (fun _ => ?_)
                clear hK K
                try simp only [Act.put, List.setIfInBounds_toArray, List.set_cons_zero, List.set_cons_succ]
                refine wpAnyH_ready (rs := [18]) (by kernel_rfl) (by simp) ?_
                refine AllReadyH.cons rfl (fun K hK => ?_) AllReadyH.nil
                go_simp
                skip
                refine hK.out _ _ (by exact dcur) (fun _ => ?_)
                clear hK K
                try simp only [Act.put, List.setIfInBounds_toArray, List.set_cons_zero, List.set_cons_succ]
                refine wpAnyH_done (by kernel_rfl) ?_ _
                go_wp2
                go_meet
                exact ⟨rfl, bcur.os, bcur.tape, bcur.output, bcur.size, bcur.block⟩
              · first | go_region_held3 (fun w' => (w'.cell? ⟨W.heap.size, 0, none⟩ = some (.int .i64 x) ∧ w'.cell? ⟨W.heap.size, 1, none⟩ = some (.int .i64 y) ∧ w'.cell? ⟨W.heap.size, 2, none⟩ = some (.int .i64 z))) (first | exact dcur | go_keep) (first
                  | (go_at_call 38; refine (HST.out _ _ (by omega) (by exact ⟨bcur.os, bcur.tape, bcur.output, bcur.size, bcur.block⟩)).mono ?_; rintro e wa ⟨gb, rfl, hF, hba⟩
                     have bn : Below w9.heap.size w9 wa := bcur.next ⟨hba.os, hba.tape, hba.output, hba.size, hba.block⟩
                     have dn := three_cells (((HBn.out.trans (bn.mono HBn.out.size)).block _ (by omega)).trans HX.out.1)
                     clear bcur dcur hba
                     have bcur := bn
                     have dcur := dn
                     clear bn dn)
                  | (go_at_call 37; refine (HIS.out _ _ _ _ (by exact ⟨bcur.os, bcur.tape, bcur.output, bcur.size, bcur.block⟩) (by exact hF) (by first | exact hs1 | exact hs2)).mono ?_; rintro e wa ⟨rfl, hba⟩
                     have bn : Below w9.heap.size w9 wa := bcur.next ⟨hba.os, hba.tape, hba.output, hba.size, hba.block⟩
                     have dn := three_cells (((HBn.out.trans (bn.mono HBn.out.size)).block _ (by omega)).trans HX.out.1)
                     clear bcur dcur hba hF
                     have bcur := bn
                     have dcur := dn
                     clear bn dn)) | fail
                all_goals
                  go_wp2
                  go_meet
                  exact ⟨rfl, bcur.os, bcur.tape, bcur.output, bcur.size, bcur.block⟩
            case rest =>
              rename World => w10
              obtain ⟨rfl, hcut⟩ := hcut
              have HM10 := hid (HM9.out.below hcut (Nat.le_refl _))
              have HD10 := hid (HD9.out.keep (K24.of hcut))
              clear hcut HM9 HD9 d0 d1 d2 HBn HBWn HST HIS hor
              go_upto_block 6 with fail
              go_cut [] (fun wx => DRow W2.heap.size W wx (.slice dao DL.length dcap) DL ∧ ∃ kq, MendD W2.heap.size s5 g x y z j5 m5 W2 st kq wx)
              case first =>
                go_wp2_with fail
                go_loopg [21] k5 (fun kq nv wx => ∃ n : Nat, nv = .int .i64 n ∧ n + kq = k5 ∧ MendD W2.heap.size s5 g x y z j5 m5 W2 st kq wx ∧ DRow W2.heap.size W wx (.slice dao DL.length dcap) DL)
                case atStart => exact ⟨0, rfl, by omega, HM10.out, HD10.out⟩
                case round =>
                  obtain ⟨n, rfl, hn, hm, hd⟩ := hrel
                  have HMq := hid hm
                  have HDq := hid hd
                  clear hm hd
                  have HBU := hid HMq.out.busy
                  by_cases hk : gk = 0
                  · subst hk
                    rw [decide_eq_false (show ¬ 0 < 0 by omega)] at HBU
                    go_wp2_with (first
                      | (go_at_call 21; refine HBU.out.mono ?_; rintro e w4 ⟨rfl, hw⟩; have hw := hw.symm; subst hw))
                    go_meet
                    exact ⟨HDq.out, 0, HMq.out⟩
                  · rw [decide_eq_true (show 0 < gk by omega)] at HBU
                    obtain ⟨k', rfl⟩ : ∃ k', gk = k' + 1 := ⟨gk - 1, by omega⟩
                    have HSP := hid (HMq.out.step (Nat.le_refl _))
                    obtain ⟨_, _, _, d3, _, _⟩ := six_cells ((HMq.out.1.block _ (by omega)).trans HX.out.2)
                    by_cases hk1 : kk = 1
                    · have e1 : ((kk : Int) == 1) = true := by simp [hk1]
                      clear hk1
                      go_wp2_with (first
                        | (go_at_call 21; refine HBU.out.mono ?_; rintro e w4 ⟨rfl, hw⟩; have hw := hw.symm; subst hw)
                        | (go_at_call 18; refine HSP.out.mono ?_; rintro e w4 ⟨⟨b4, rfl⟩, hg4⟩))
                      go_roundg k'
                      case measure => omega
                      case rel => exact ⟨n + 1, by go_num, by omega, hg4.out.1, HDq.out.keep hg4.out.2⟩
                    · have e1 : ((kk : Int) == 1) = false := by simp; omega
                      clear hk1
                      by_cases ha : (n : Int) < a1
                      · go_wp2_with (first
                          | (go_at_call 21; refine HBU.out.mono ?_; rintro e w4 ⟨rfl, hw⟩; have hw := hw.symm; subst hw)
                          | (go_at_call 18; refine HSP.out.mono ?_; rintro e w4 ⟨⟨b4, rfl⟩, hg4⟩))
                        go_roundg k'
                        case measure => omega
                        case rel => exact ⟨n + 1, by go_num, by omega, hg4.out.1, HDq.out.keep hg4.out.2⟩
                      · go_wp2_with (first
                          | (go_at_call 21; refine HBU.out.mono ?_; rintro e w4 ⟨rfl, hw⟩; have hw := hw.symm; subst hw))
                        go_meet
                        exact ⟨HDq.out, _, HMq.out⟩
              case rest =>
                obtain ⟨hd11, kq, hm11⟩ := hcut
                rename World => w11
                have HD11 := hid hd11
                have HM11 := hid hm11
                clear hd11 hm11 HM10 HD10 T b
                go_upto_region 39 with fail
                have HBn : Hid (Below W2.heap.size W2 w11) := hid HM11.out.1
                obtain ⟨d0, d1, d2⟩ := three_cells ((HBn.out.block _ (by omega)).trans HX.out.1)
                have HBWn : Hid (Below W.heap.size W w11) := hid (HBW.out.trans (HBn.out.mono (by omega)))
                obtain ⟨T, hT⟩ : ∃ T : Nat → (Nat → ByteArray), T = fun n => stD ((DL.map (·.2)).take n) := ⟨_, rfl⟩
                have HST : Hid (∀ (n : Nat) w', n ≤ DL.length → Below w11.heap.size w11 w' → Calls Tryz.prog 38 #[.agg #[.int .i64 x, .int .i64 y, .int .i64 z], (.slice dao DL.length dcap), .int .i64 (n : Int)] w' fun e w'' => ∃ gb, e = .returned (.slice (some ⟨gb, 0, none⟩) x x) ∧ Fis gb x x w'' (T n) ∧ Below w'.heap.size w' w'') := hid (fun n w' hn kb => by
                  rw [hT]
                  refine (state_any x y z n hx1 _ DL hn HOKD.out w' ((HD11.out.keep (K24.of kb)).lie (HBWn.out.trans (kb.mono HBWn.out.size)))).mono ?_
                  rintro e w'' ⟨gb, q1, q2, q3, _⟩
                  exact ⟨gb, q1, q2, q3⟩)
                obtain ⟨b, hb⟩ : ∃ b : Nat → Bool, b = fun n => isB x y st (T n) := ⟨_, rfl⟩
                have HIS : Hid (∀ (n gb : Nat) (c : Bool) w', Below w11.heap.size w11 w' → Fis gb x x w' (T n) → b n = c → Calls Tryz.prog 37 #[.pointer (some ⟨s5, 0, none⟩), .agg #[.int .i64 x, .int .i64 y, .int .i64 z], .slice (some ⟨gb, 0, none⟩) x x] w' fun e w'' => e = .returned (.bool c) ∧ Below w'.heap.size w' w'') := hid (fun n gb c w' kb hF hc => by
                  rw [← hc, hb]
                  exact is_any hx1 hy1 w' (HM11.out.below kb (Nat.le_refl _)) (Nat.le_refl _) hF)
                have hor : b sn = true ∨ (b sn = false ∧ b DL.length = true) := by
                  have e1 : T sn = st1 := by rw [hT]; exact HT1.out.symm
                  have e2 : T DL.length = st2 := by rw [hT, HT2.out]; show stD ((DL.map (·.2)).take DL.length) = _; rw [List.take_of_length_le (by simp)]
                  rcases HSTE.out with e | e
                  · left; rw [hb]; show isB x y st (T sn) = true; rw [e1, e]; exact isB_self x y _
                  · cases hbs : b sn with
                    | true => exact .inl rfl
                    | false => refine .inr ⟨rfl, ?_⟩; rw [hb]; show isB x y st (T DL.length) = true; rw [e2, e]; exact isB_self x y _
                clear hT hb
                go_cut [187] (fun cv wx => cv = .bool false ∧ Below w11.heap.size w11 wx)
                case first =>
                  have bcur : Below w11.heap.size w11 w11 := Below.refl _ _
                  have dcur : (w11.cell? ⟨W.heap.size, 0, none⟩ = some (.int .i64 x) ∧ w11.cell? ⟨W.heap.size, 1, none⟩ = some (.int .i64 y) ∧ w11.cell? ⟨W.heap.size, 2, none⟩ = some (.int .i64 z)) := ⟨d0, d1, d2⟩
                  clear d0 d1 d2
                  rcases hor with hs1 | ⟨hs1, hs2⟩
                  · refine wp_region_held_drew (S := fun w' => (w'.cell? ⟨W.heap.size, 0, none⟩ = some (.int .i64 x) ∧ w'.cell? ⟨W.heap.size, 1, none⟩ = some (.int .i64 y) ∧ w'.cell? ⟨W.heap.size, 2, none⟩ = some (.int .i64 z))) (by kernel_rfl) (by exact dcur) (fun _ => ?_)
                    refine wpAnyH_take (i := 0) (v := ?_) rfl (by kernel_rfl) (by kernel_rfl) (by kernel_rfl) (fun _ _ _ h => h) (Or.inl ⟨by rfl, ?_⟩) (by exact dcur) ?_
                    rotate_left
                    · intro w hSw
                      try dsimp only at hSw
                      go_simp
                      all_goals with_reducible rfl
                    try simp only [Act.put, List.setIfInBounds_toArray]
                    refine wpAnyH_take (i := 1) (v := ?_) rfl (by kernel_rfl) (by kernel_rfl) (by kernel_rfl) (fun _ _ _ h => h) (Or.inl ⟨by rfl, ?_⟩) (by exact dcur) ?_
                    rotate_left
                    · intro w hSw
                      try dsimp only at hSw
                      go_simp
                      all_goals with_reducible rfl
                    try simp only [Act.put]
                    refine wpAnyH_take (i := 2) (v := ?_) rfl (by kernel_rfl) (by kernel_rfl) (by kernel_rfl) (fun _ _ _ h => h) (Or.inl ⟨by rfl, ?_⟩) (by exact dcur) ?_
                    rotate_left
                    · intro w hSw
                      try dsimp only at hSw
                      go_simp
                      all_goals with_reducible rfl
                    try simp only [Act.put]
                    refine wpAnyH_take (i := 3) (v := ?_) rfl (by kernel_rfl) (by kernel_rfl) (by kernel_rfl) (fun _ _ _ h => h) (Or.inl ⟨by rfl, ?_⟩) (by exact dcur) ?_
                    rotate_left
                    · intro w hSw
                      try dsimp only at hSw
                      go_simp
                      all_goals with_reducible rfl
                    try simp only [Act.put]
                    refine wpAnyH_take (i := 4) (v := ?_) rfl (by kernel_rfl) (by kernel_rfl) (by kernel_rfl) (fun _ _ _ h => h) (Or.inl ⟨by rfl, ?_⟩) (by exact dcur) ?_
                    rotate_left
                    · intro w hSw
                      try dsimp only at hSw
                      go_simp
                      all_goals with_reducible rfl
                    try simp only [Act.put]
                    refine wpAnyH_ready (rs := [5]) (by kernel_rfl) (by simp) ?_
                    refine AllReadyH.cons rfl (fun K hK => ?_) AllReadyH.nil
                    go_simp
                    (go_at_call 38; refine (HST.out _ _ (by omega) (by exact ⟨bcur.os, bcur.tape, bcur.output, bcur.size, bcur.block⟩)).mono ?_; rintro e wa ⟨gb, rfl, hF, hba⟩; have bn : Below w11.heap.size w11 wa := bcur.next ⟨hba.os, hba.tape, hba.output, hba.size, hba.block⟩; have dn := three_cells (((HBn.out.trans (bn.mono HBn.out.size)).block _ (by omega)).trans HX.out.1); clear bcur dcur hba; have bcur := bn; have dcur := dn; clear bn dn)
                    refine hK.out _ _ (by exact dcur) (fun _ => ?_)
                    clear hK K
                    try simp only [Act.put, List.setIfInBounds_toArray, List.set_cons_zero, List.set_cons_succ]
                    refine wpAnyH_ready (rs := [6]) (by kernel_rfl) (by simp) ?_
                    refine AllReadyH.cons rfl (fun K hK => ?_) AllReadyH.nil
                    go_simp
                    (go_at_call 37; refine (HIS.out _ _ _ _ (by exact ⟨bcur.os, bcur.tape, bcur.output, bcur.size, bcur.block⟩) (by exact hF) (by first | exact hs1 | exact hs2)).mono ?_; rintro e wa ⟨rfl, hba⟩; have bn : Below w11.heap.size w11 wa := bcur.next ⟨hba.os, hba.tape, hba.output, hba.size, hba.block⟩; have dn := three_cells (((HBn.out.trans (bn.mono HBn.out.size)).block _ (by omega)).trans HX.out.1); clear bcur dcur hba hF; have bcur := bn; have dcur := dn; clear bn dn)
                    refine hK.out _ _ (by exact dcur) (fun _ => ?_)
                    clear hK K
                    try simp only [Act.put, List.setIfInBounds_toArray, List.set_cons_zero, List.set_cons_succ]
                    refine wpAnyH_take (i := 7) (v := ?_) rfl (by kernel_rfl) (by kernel_rfl) (by kernel_rfl) (fun _ _ _ h => h) (Or.inl ⟨by rfl, ?_⟩) (by exact dcur) ?_
                    rotate_left
                    · intro w hSw
                      try dsimp only at hSw
                      go_simp
                      all_goals with_reducible rfl
                    try simp only [Act.put, List.setIfInBounds_toArray]
                    refine wpAnyH_take (i := 8) (v := ?_) rfl (by kernel_rfl) (by kernel_rfl) (by kernel_rfl) (fun _ _ _ h => h) (Or.inl ⟨by rfl, ?_⟩) (by exact dcur) ?_
                    rotate_left
                    · intro w hSw
                      try dsimp only at hSw
                      go_simp
                      all_goals with_reducible rfl
                    try simp only [Act.put]
                    refine wpAnyH_take (i := 9) (v := undef) rfl (by kernel_rfl) (by kernel_rfl) (by kernel_rfl) (fun _ _ _ h => h) (Or.inr ⟨by rfl, rfl⟩) (by exact dcur) ?_
                    try simp only [Act.put]
                    refine wpAnyH_take (i := 10) (v := undef) rfl (by kernel_rfl) (by kernel_rfl) (by kernel_rfl) (fun _ _ _ h => h) (Or.inr ⟨by rfl, rfl⟩) (by exact dcur) ?_
                    try simp only [Act.put]
                    refine wpAnyH_take (i := 11) (v := undef) rfl (by kernel_rfl) (by kernel_rfl) (by kernel_rfl) (fun _ _ _ h => h) (Or.inr ⟨by rfl, rfl⟩) (by exact dcur) ?_
                    try simp only [Act.put]
                    refine wpAnyH_take (i := 12) (v := undef) rfl (by kernel_rfl) (by kernel_rfl) (by kernel_rfl) (fun _ _ _ h => h) (Or.inr ⟨by rfl, rfl⟩) (by exact dcur) ?_
                    try simp only [Act.put]
                    refine wpAnyH_take (i := 13) (v := undef) rfl (by kernel_rfl) (by kernel_rfl) (by kernel_rfl) (fun _ _ _ h => h) (Or.inr ⟨by rfl, rfl⟩) (by exact dcur) ?_
                    try simp only [Act.put]
                    refine wpAnyH_ready (rs := [14]) (by kernel_rfl) (by simp) ?_
                    refine AllReadyH.cons rfl (fun K hK => ?_) AllReadyH.nil
                    go_simp
                    skip
                    refine hK.out _ _ (by exact dcur) (fun _ => ?_)
                    clear hK K
                    try simp only [Act.put, List.setIfInBounds_toArray, List.set_cons_zero, List.set_cons_succ]
                    refine wpAnyH_ready (rs := [15]) (by kernel_rfl) (by simp) ?_
                    refine AllReadyH.cons rfl (fun K hK => ?_) AllReadyH.nil
                    go_simp
                    skip
                    refine hK.out _ _ (by exact dcur) (fun _ => ?_)
                    clear hK K
                    try simp only [Act.put, List.setIfInBounds_toArray, List.set_cons_zero, List.set_cons_succ]
                    refine wpAnyH_ready (rs := [16]) (by kernel_rfl) (by simp) ?_
                    refine AllReadyH.cons rfl (fun K hK => ?_) AllReadyH.nil
                    go_simp
                    skip
                    refine hK.out _ _ (by exact dcur) (fun _ => ?_)
                    clear hK K
                    try simp only [Act.put, List.setIfInBounds_toArray, List.set_cons_zero, List.set_cons_succ]
                    refine wpAnyH_ready (rs := [17]) (by kernel_rfl) (by simp) ?_
                    refine AllReadyH.cons rfl (fun K hK => ?_) AllReadyH.nil
                    go_simp
                    skip
                    refine hK.out _ _ (by exact dcur) (fun _ => ?_)
                    clear hK K
                    try simp only [Act.put, List.setIfInBounds_toArray, List.set_cons_zero, List.set_cons_succ]
                    refine wpAnyH_ready (rs := [18]) (by kernel_rfl) (by simp) ?_
                    refine AllReadyH.cons rfl (fun K hK => ?_) AllReadyH.nil
                    go_simp
                    skip
                    refine hK.out _ _ (by exact dcur) (fun _ => ?_)
                    clear hK K
                    try simp only [Act.put, List.setIfInBounds_toArray, List.set_cons_zero, List.set_cons_succ]
                    refine wpAnyH_done (by kernel_rfl) ?_ _
                    go_wp2
                    go_meet
                    exact ⟨rfl, bcur.os, bcur.tape, bcur.output, bcur.size, bcur.block⟩
                  · first | go_region_held3 (fun w' => (w'.cell? ⟨W.heap.size, 0, none⟩ = some (.int .i64 x) ∧ w'.cell? ⟨W.heap.size, 1, none⟩ = some (.int .i64 y) ∧ w'.cell? ⟨W.heap.size, 2, none⟩ = some (.int .i64 z))) (first | exact dcur | go_keep) (first
                      | (go_at_call 38; refine (HST.out _ _ (by omega) (by exact ⟨bcur.os, bcur.tape, bcur.output, bcur.size, bcur.block⟩)).mono ?_; rintro e wa ⟨gb, rfl, hF, hba⟩
                         have bn : Below w11.heap.size w11 wa := bcur.next ⟨hba.os, hba.tape, hba.output, hba.size, hba.block⟩
                         have dn := three_cells (((HBn.out.trans (bn.mono HBn.out.size)).block _ (by omega)).trans HX.out.1)
                         clear bcur dcur hba
                         have bcur := bn
                         have dcur := dn
                         clear bn dn)
                      | (go_at_call 37; refine (HIS.out _ _ _ _ (by exact ⟨bcur.os, bcur.tape, bcur.output, bcur.size, bcur.block⟩) (by exact hF) (by first | exact hs1 | exact hs2)).mono ?_; rintro e wa ⟨rfl, hba⟩
                         have bn : Below w11.heap.size w11 wa := bcur.next ⟨hba.os, hba.tape, hba.output, hba.size, hba.block⟩
                         have dn := three_cells (((HBn.out.trans (bn.mono HBn.out.size)).block _ (by omega)).trans HX.out.1)
                         clear bcur dcur hba hF
                         have bcur := bn
                         have dcur := dn
                         clear bn dn)) | fail
                    all_goals
                      go_wp2
                      go_meet
                      exact ⟨rfl, bcur.os, bcur.tape, bcur.output, bcur.size, bcur.block⟩
                case rest =>
                  rename World => w12
                  obtain ⟨rfl, hcut⟩ := hcut
                  have HM12 := hid (HM11.out.below hcut (Nat.le_refl _))
                  have HD12 := hid (HD11.out.keep (K24.of hcut))
                  clear hcut HM11 HD11 d0 d1 d2 HBn HBWn HST HIS hor
                  go_upto_region 41 with fail
                  go_cut [201] (fun cv wx => cv = .bool false ∧ DRow W2.heap.size W wx (.slice dao DL.length dcap) DL ∧ Below W2.heap.size W2 wx ∧ (kk + 1 < 2 → ∃ st, (st = st1 ∨ st = st2) ∧ CrD W2.heap.size g x y z W2 st wx))
                  case first =>
                    have hsz12 := HM12.out.1.size
                    obtain ⟨_, _, _, _, d4, d5⟩ := six_cells ((HM12.out.1.block _ (by omega)).trans HX.out.2)
                    have HB12 : Hid (Below W.heap.size W w12) := hid (HBW.out.trans (HM12.out.1.mono (by omega)))
                    have HC12 : Hid (∀ w', Below w12.heap.size w12 w' → Calls Tryz.prog 35 #[.pointer (some ⟨g, 0, none⟩), pv1, .int .i64 (clipN t1)] w' fun e w'' => e = .returned (.int .i64 0) ∧ Hid ((CrD W2.heap.size g x y z W2 st w'' ∨ CrD W2.heap.size g x y z W2 st w'') ∧ K24 w' w'')) :=
                      hid (fun w' hb => (HM12.out.cut.below hb (Nat.le_refl _)).crash pv1 bs1 (clipN t1) (clipN_le t1) (HBL1.out.belowW (HB12.out.trans (hb.mono (by omega)))) (fun h0 b hb => by have := HPB1.out h0 b hb; omega))
                    have hk01 : kk = 0 ∨ kk = 1 := by omega
                    rcases hk01 with rfl | rfl
                    · have e1 : (((0 : Nat) : Int) == 0) = true := rfl
                      go_region_held3 (fun w' => w'.cell? ⟨W.heap.size + 1, 4, none⟩ = some (.int .i64 t1) ∧ w'.cell? ⟨W.heap.size + 1, 5, none⟩ = some pv1) (first | exact ⟨d4, d5⟩ | exact d7 | go_keep) (first
                        | (go_at_call 36; refine (clip_any t1 _).mono ?_; rintro e w6 ⟨rfl, hw⟩; have hw := hw.symm; subst hw)
                        | (go_at_call 35; refine (HC12.out _ (by exact ⟨rfl, rfl, rfl, Nat.le_refl _, fun _ _ => rfl⟩)).mono ?_; rintro e w7 ⟨rfl, h7⟩
                           have hb7 : Below W2.heap.size W2 w7 := by rcases h7.out.1 with h | h <;> exact h.1
                           have d7 : w7.cell? ⟨W.heap.size + 1, 4, none⟩ = some (.int .i64 t1) ∧ w7.cell? ⟨W.heap.size + 1, 5, none⟩ = some pv1 := by obtain ⟨_, _, _, _, q1, q2⟩ := six_cells ((hb7.block _ (by omega)).trans HX.out.2); exact ⟨q1, q2⟩))
                      all_goals
                        go_wp2
                        go_meet
                        refine ⟨rfl, HD12.out.keep (K24.trans (fun _ _ e => e) h7.out.2), hb7, fun _ => ⟨st, HSTE.out, ?_⟩⟩
                        rcases h7.out.1 with h | h <;> exact h
                    · have e1 : (((1 : Nat) : Int) == 0) = false := rfl
                      go_quiet (fail)
                      all_goals
                        go_wp2
                        go_meet
                        exact ⟨rfl, HD12.out.keep (fun _ _ e => e), ⟨HM12.out.1.os, HM12.out.1.tape, HM12.out.1.output, HM12.out.1.size, HM12.out.1.block⟩, fun h => by omega⟩
                  case rest =>
                    obtain ⟨rfl, q1, q2, q3⟩ := hcut
                    go_wp2_with fail
                    go_roundw
                    case rel => exact ⟨kk + 1, by go_num, by omega, q1, q2, q3⟩
                    case measure => simp only [intOf] at *; omega
          · go_wp2_with (first
              | (go_at_call 10; refine (HS.out _).mono ?_; rintro e w13 ⟨rfl, hb13⟩))
            go_ret
            exact ⟨rfl, (HBW.out.trans (HBk.out.mono (by omega))).next hb13⟩
end Go.Proofs.YtopebghandojbaaGreat
