import Derived.Test.YtopebghandojbaaGreatYi
namespace Go.Proofs.YtopebghandojbaaGreat
open Go.RowKit Go.Maps

theorem CF.trans {s j : Nat} {r : Option Nat} {w w1 w2 : World} (h : CF s j r w w1) (k : CF s j r w1 w2) : CF s j r w w2 :=
  ⟨k.os.trans h.os, k.tape.trans h.tape, k.output.trans h.output, Nat.le_trans h.size k.size, fun i hi h1 h2 h3 => (k.block i (Nat.lt_of_lt_of_le hi h.size) h1 h2 h3).trans (h.block i hi h1 h2 h3)⟩
theorem CF.lieE {s j : Nat} {r : Option Nat} {w w' : World} {v : Value} {L : List Chg} (h : CF s j r w w') (hL : CLie w v L) (hv : L ≠ [] → ∀ a, v.ownBlock = some a → a ≠ s ∧ a ≠ j ∧ some a ≠ r) : CLie w' v L := by
  by_cases h0 : L = []
  · subst h0
    obtain ⟨ao, cap, rfl, h1, h2, _⟩ := hL
    exact ⟨ao, cap, rfl, h1, h2, fun i hi => by simp at hi⟩
  · exact h.lie hL (hv h0)
set_option maxRecDepth 100000 in
set_option maxHeartbeats 4000000 in
theorem commit_room {s g x y z j m N : Nat} {ao : Option Addr} {uv : Value} {c : Int} {r : Option Nat} {T F : Nat} {l : List Int} {M : List Chg} (v : Value) (L : List Chg) (hok : Sh.okS x y z) (hr : right L = true) (hwi : withinB (1 + y) x L = true) (hT : (T : Int) < (y : Int) - 1) (hF0 : 1 ≤ F) (hF : F + l.length ≤ 1099511627776) (hl : l.length ≤ 299) (hn : ∀ x ∈ l, 0 ≤ x) (hpl : (L.length : Int) + 1 ≤ (y : Int) - 1) (hsum : sumI l + L.length + 1 ≤ (y : Int) - 1) (w : World) (hst : StIs s w g x y z j (.slice ao 0 0) m uv c) (hj : JS j r w ((y : Int) - 1) T F l.length l) (_ : Um.MIs m w N M) (hL : CLie w v L) (hsj : s ≠ j) (hsr : some s ≠ r) (_ : m ≠ s) (hva : L ≠ [] → ∀ a, v.ownBlock = some a → a ≠ s ∧ a ≠ j ∧ some a ≠ r) :
    Calls Tryz.prog 14 #[.pointer (some ⟨s, 0, none⟩), v] w fun e w' => e = .returned (.int .i64 0) ∧ ∃ B1 uv' r', w.heap.size ≤ B1 ∧ Q.SA B1 s w' g x y z j m uv' c (([] : List AT) ++ (actsL (wrL ((y : Int) - 1) (T + sumI l) (encL (F + l.length) L)) ++ [⟨1, 0, ByteArray.empty⟩, ⟨0, 1, hdB T F (F + (l.length + 1))⟩, ⟨3, 0, ByteArray.empty⟩])) ∧ CLie w' uv' L ∧ (∀ a, uv'.ownBlock = some a → w.heap.size ≤ a ∧ a < w'.heap.size) ∧
      JS j r' w' ((y : Int) - 1) T F (l.length + 1) (l ++ [(L.length : Int) + 1]) ∧ New w r r' ∧ CF s j r w w' := by
  have h48 := right_len hr
  have hs0 := sumI_nn hn
  have hy := hok.1.2.1
  have hx := hok.1.1
  have HCK := hid (check_any v L w hL)
  rw [hr] at HCK
  simp only [if_true] at HCK
  have HNO := hid (fun w (h : StIs s w g x y z j (.slice ao 0 0) m uv c) => snone_any w h)
  have HBU := hid (fun w (h : StIs s w g x y z j (.slice ao 0 0) m uv c) => busy_any w h)
  have HWI := hid (fun w (h : CLie w v L) (r2 r3 r4 : Int) => within_any v L x y z 1 (1 + y) r2 r3 r4 w h)
  rw [hwi] at HWI
  have HNX := hid (fun w h => jnext j r ((y : Int) - 1) T F l.length l (by omega) (by omega) (by omega) w h)
  have HFR := hid (fun w h => jfree j r ((y : Int) - 1) T F l.length l (by omega) (by omega) hn (by omega) w h)
  have hT1 := hT
  have HAP := hid (fun w h hL => jappend2 j r ((y : Int) - 1) T F l.length l v L (by omega) (by omega) (by omega) hF0 (by omega) (by omega) hn (by omega) hr w h hL)
  have hcl := hL
  obtain ⟨ao1, cap, hve, hlc, hcm, _⟩ := hL
  have HL := hid hcl
  have HST := hid hst
  have HJ := hid hj
  have HVA := hid hva
  clear hcl hva hj
  have hsl := hst.lt
  have c1 : w.cell? ⟨s, 1, none⟩ = some (.int .i64 x) := (hst.cell 1).trans rfl
  have c2 : w.cell? ⟨s, 2, none⟩ = some (.int .i64 y) := (hst.cell 2).trans rfl
  have c3 : w.cell? ⟨s, 3, none⟩ = some (.int .i64 z) := (hst.cell 3).trans rfl
  have c4 : w.cell? ⟨s, 4, none⟩ = some (.int .i64 1) := (hst.cell 4).trans rfl
  have c5 : w.cell? ⟨s, 5, none⟩ = some (.int .i64 (1 + (y : Int))) := (hst.cell 5).trans rfl
  have c6 : w.cell? ⟨s, 6, none⟩ = some (.int .i64 (2 + (y : Int))) := (hst.cell 6).trans rfl
  have c7 : w.cell? ⟨s, 7, none⟩ = some (.int .i64 (2 + (y : Int) + ((z : Int) + 3) / 4)) := (hst.cell 7).trans rfl
  have c8 : w.cell? ⟨s, 8, none⟩ = some (.int .i64 ((x : Int) - (2 + (y : Int) + ((z : Int) + 3) / 4))) := (hst.cell 8).trans rfl
  clear hst
  have hF1 : F + l.length ≤ 1099511627776 := by omega
  have hA0l : (([] : List AT)).length ≤ 1910 := by simp
  obtain ⟨A0, hA0⟩ : ∃ A0, A0 = ([] : List AT) := ⟨_, rfl⟩
  have HA0 := hid hA0
  rw [← hA0] at hA0l
  clear hn
  obtain ⟨W, hW⟩ : ∃ W, W = wrL ((y : Int) - 1) (T + sumI l) (encL (F + l.length) L) := ⟨_, rfl⟩
  have hWl : W.length = L.length + 1 := by rw [hW, wrL_len, encL_len]
  have HWB : Hid (∀ c ∈ W, 0 ≤ c.b ∧ c.b ≤ 1024) := hid (fun c hc => by
    have := wrL_bound ((y : Int) - 1) (by omega) _ _ c (by rw [← hW]; exact hc)
    exact ⟨this.1, by omega⟩)
  have HWW := hid hW
  rw [← hW] at HAP
  clear hW
  subst hve
  go_enter Tryz.func14, Tryz.ntmps14
  go_upto_region 8 with (first
    | (go_at_call 63; refine HCK.out.mono ?_; rintro e w1 ⟨rfl, hb1⟩; have HB1 := hid hb1; clear hb1)
    | (go_at_call 62; refine (HNO.out _ (HST.out.below HB1.out)).mono ?_; rintro e w1' ⟨rfl, hw⟩; have hw := hw.symm; subst hw))
  replace c1 := (HB1.out.cell (p := ⟨s, 1, none⟩) hsl).trans c1
  replace c2 := (HB1.out.cell (p := ⟨s, 2, none⟩) hsl).trans c2
  replace c3 := (HB1.out.cell (p := ⟨s, 3, none⟩) hsl).trans c3
  replace c4 := (HB1.out.cell (p := ⟨s, 4, none⟩) hsl).trans c4
  replace c5 := (HB1.out.cell (p := ⟨s, 5, none⟩) hsl).trans c5
  replace c6 := (HB1.out.cell (p := ⟨s, 6, none⟩) hsl).trans c6
  replace c7 := (HB1.out.cell (p := ⟨s, 7, none⟩) hsl).trans c7
  replace c8 := (HB1.out.cell (p := ⟨s, 8, none⟩) hsl).trans c8
  have hsl1 : s < w1.heap.size := Nat.lt_of_lt_of_le hsl HB1.out.size
  go_cut [30] (fun v30 wx => v30 = .bool false ∧ Below w.heap.size w wx)
  case first =>
    go_region_held3 (fun w' => w'.cell? ⟨s, 1, none⟩ = some (.int .i64 x) ∧ w'.cell? ⟨s, 2, none⟩ = some (.int .i64 y) ∧ w'.cell? ⟨s, 3, none⟩ = some (.int .i64 z) ∧ w'.cell? ⟨s, 4, none⟩ = some (.int .i64 1) ∧ w'.cell? ⟨s, 5, none⟩ = some (.int .i64 (1 + (y : Int))) ∧ w'.cell? ⟨s, 6, none⟩ = some (.int .i64 (2 + (y : Int))) ∧ w'.cell? ⟨s, 7, none⟩ = some (.int .i64 (2 + (y : Int) + ((z : Int) + 3) / 4)) ∧ w'.cell? ⟨s, 8, none⟩ = some (.int .i64 ((x : Int) - (2 + (y : Int) + ((z : Int) + 3) / 4)))) (first | exact ⟨c1, c2, c3, c4, c5, c6, c7, c8⟩ | exact d2 | go_keep) (first
      | (go_at_call 42; refine (HWI.out _ (by exact HL.out.below (HB1.out.next ⟨rfl, rfl, rfl, Nat.le_refl _, fun _ _ => rfl⟩)) _ _ _).mono ?_; rintro e w2 ⟨rfl, hb2⟩
         have hb2 : Below w1.heap.size w1 w2 := ⟨hb2.os, hb2.tape, hb2.output, hb2.size, hb2.block⟩
         have HB2 := hid (HB1.out.next hb2)
         have d2 : w2.cell? ⟨s, 1, none⟩ = some (.int .i64 x) ∧ w2.cell? ⟨s, 2, none⟩ = some (.int .i64 y) ∧ w2.cell? ⟨s, 3, none⟩ = some (.int .i64 z) ∧ w2.cell? ⟨s, 4, none⟩ = some (.int .i64 1) ∧ w2.cell? ⟨s, 5, none⟩ = some (.int .i64 (1 + (y : Int))) ∧ w2.cell? ⟨s, 6, none⟩ = some (.int .i64 (2 + (y : Int))) ∧ w2.cell? ⟨s, 7, none⟩ = some (.int .i64 (2 + (y : Int) + ((z : Int) + 3) / 4)) ∧ w2.cell? ⟨s, 8, none⟩ = some (.int .i64 ((x : Int) - (2 + (y : Int) + ((z : Int) + 3) / 4))) := ⟨(hb2.cell (p := ⟨s, 1, none⟩) hsl1).trans c1, (hb2.cell (p := ⟨s, 2, none⟩) hsl1).trans c2, (hb2.cell (p := ⟨s, 3, none⟩) hsl1).trans c3, (hb2.cell (p := ⟨s, 4, none⟩) hsl1).trans c4, (hb2.cell (p := ⟨s, 5, none⟩) hsl1).trans c5, (hb2.cell (p := ⟨s, 6, none⟩) hsl1).trans c6, (hb2.cell (p := ⟨s, 7, none⟩) hsl1).trans c7, (hb2.cell (p := ⟨s, 8, none⟩) hsl1).trans c8⟩
         clear hb2))
    all_goals
      go_wp2
      go_meet
      exact ⟨rfl, HB2.out⟩
  case rest =>
    obtain ⟨rfl, hb3⟩ := hcut
    rename World => w3
    have HB3 := hid hb3
    clear hb3 c1 c3 c4 c5 c6 c7 c8 HWI HCK
    have c9 : w3.cell? ⟨s, 9, none⟩ = some (.pointer (some ⟨j, 0, none⟩)) := ((HST.out.below HB3.out).cell 9).trans rfl
    have e2 : w3.cell? ⟨s, 2, none⟩ = some (.int .i64 y) := ((HST.out.below HB3.out).cell 2).trans rfl
    go_upto_region 17 with (first
      | (go_at_call 21; refine (HBU.out _ (by exact HST.out.below HB3.out)).mono ?_; rintro e w4 ⟨rfl, hw⟩; have hw := hw.symm; subst hw)
      | (go_at_call 54; refine (HNX.out _ (by exact HJ.out.below HB3.out)).mono ?_; rintro e w4 ⟨rfl, q4, hw⟩; have hw := hw.symm; subst hw)
      | (go_at_call 64; refine (HFR.out _ (by exact HJ.out.below (HB3.out.next ⟨rfl, rfl, rfl, Nat.le_refl _, fun _ _ => rfl⟩))).mono ?_; rintro e w4 ⟨rfl, q5, hw⟩; have hw := hw.symm; subst hw))
    have HB4 : Hid (Below w.heap.size w (w3.drewN (q4 + q5))) := hid (HB3.out.next ⟨rfl, rfl, rfl, Nat.le_refl _, fun _ _ => rfl⟩)
    obtain ⟨w4, hw4⟩ : ∃ w4, w4 = w3.drewN (q4 + q5) := ⟨_, rfl⟩
    rw [← hw4] at HB4 ⊢
    clear hw4 c9 e2 HNX HFR HBU HNO
    have hB4 : w.heap.size ≤ w4.heap.size := HB4.out.size
    have hB44 : w4.heap.size ≤ w4.heap.size := Nat.le_refl _
    have HS4 : Hid (Q.SA w4.heap.size s w4 g x y z j m uv c A0) := hid (by rw [HA0.out]; exact ⟨⟨_, HST.out.below HB4.out, Q.ARow.none _ _ _⟩, by omega, Nat.le_refl _⟩)
    have HJ4 : Hid (JS j r w4 ((y : Int) - 1) T F l.length l) := hid (HJ.out.below HB4.out)
    have HC4 : Hid (CF s j r w w4) := hid (CF.of_below HB4.out)
    obtain ⟨B4, hB4e⟩ : ∃ B4, B4 = w4.heap.size := ⟨_, rfl⟩
    rw [← hB4e] at HS4 hB4 hB44
    clear hB4e
    have c9 : w4.cell? ⟨s, 9, none⟩ = some (.pointer (some ⟨j, 0, none⟩)) := by
      obtain ⟨av, k, _⟩ := HS4.out.ex
      exact (k.cell 9).trans rfl
    go_wp2_with (first
      | (go_at_call 65; refine (HAP.out _ (by exact HJ4.out) (by exact HC4.out.lieE HL.out HVA.out)).mono ?_; rintro e w6 ⟨wb, r', rfl, hwb, hwr, hcw, hty, hj6, hn6, hf6⟩
         have HCW := hid hcw
         have HTY := hid hty
         have HJ6 := hid hj6
         have HN6 := hid hn6
         have HF6 := hid hf6
         clear hcw hty hj6 hn6 hf6))
    have h46 := HF6.out.size
    have hs4w : s < w4.heap.size := Nat.lt_of_lt_of_le hsl HC4.out.size
    have HS6 : Hid (Q.SA B4 s w6 g x y z j m uv c A0) := hid (HS4.out.jfr2 HJ4.out HF6.out hsj hsr)
    have HC6 : Hid (CF s j r w w6) := hid (HC4.out.jfr (.inl rfl) HF6.out)
    have hsr' : some s ≠ r' := by
      rcases HN6.out with e | ⟨k, e, hk⟩
      · rw [e]; exact hsr
      · rw [e]; intro e; cases e; omega
    have HNW : Hid (New w r r') := by
      rcases HN6.out with e | ⟨k, e, hk⟩
      · exact .inl e
      · exact .inr ⟨k, e, Nat.le_trans HC4.out.size hk⟩
    have HWC : Hid (wb < w6.heap.size ∧ (∀ cur, w6.heap[wb]? ≠ some (.cells cur 133 (0, 0))) ∧ ∀ i (hi : i < W.length), w6.cell? ⟨wb, i * 2, none⟩ = some (.int .i64 W[i].b) ∧ w6.cell? ⟨wb, i * 2 + 1, none⟩ = some (.string W[i].d)) := by
      obtain ⟨ao', cap', e, _, _, hcell⟩ := HCW.out
      injection e with e1 _ _
      subst e1
      obtain ⟨cur, hcu⟩ := HTY.out
      refine ⟨lt_of_block hcu, fun cur' e => by rw [hcu] at e; simp at e, fun i hi => ?_⟩
      obtain ⟨gb, off, e, hg, k0, k1⟩ := hcell i hi
      cases e
      rw [Nat.zero_add] at k0 k1
      exact ⟨k0, k1⟩
    have hwbs : wb ≠ s := by omega
    clear c9 HAP
    go_loopw [72] (fun i wr => ∃ q : Nat, i = .int .i64 q ∧ q ≤ W.length ∧ Q.SA B4 s wr g x y z j m uv c (A0 ++ (actsL W).take q) ∧ AF B4 s w6 wr) (fun i _ => W.length - (intOf i).toNat)
    case atStart => exact ⟨0, rfl, Nat.zero_le _, by rw [List.take_zero, List.append_nil]; exact HS6.out, AF.refl _ _ _⟩
    case round =>
      obtain ⟨q, rfl, hq, hsq, haq⟩ := hrel
      have HSq := hid hsq
      have HAq := hid haq
      clear hsq haq
      by_cases hqw : q < W.length
      · obtain ⟨k0, k1⟩ := HWC.out.2.2 q hqw
        have hbe := HAq.out.block wb HWC.out.1 hwbs (.inr HWC.out.2.1)
        have g0 : wr.cell? ⟨wb, q * 2, none⟩ = some (.int .i64 W[q].b) := by
          simp only [World.cell?] at k0 ⊢
          rw [hbe]; exact k0
        have g1 : wr.cell? ⟨wb, q * 2 + 1, none⟩ = some (.string W[q].d) := by
          simp only [World.cell?] at k1 ⊢
          rw [hbe]; exact k1
        have HTK := hid (actsL_take W q hqw)
        have hcb := HWB.out W[q] (List.getElem_mem hqw)
        obtain ⟨cq, hcq⟩ : ∃ cq, cq = W[q] := ⟨_, rfl⟩
        rw [← hcq] at g0 g1 HTK hcb
        have HLG := hid (fun w (h : Q.SA B4 s w g x y z j m uv c (A0 ++ (actsL W).take q)) => Q.slog cq.b hcb cq.d (by rw [List.length_append, List.length_take, actsL_len]; omega) w h)
        have hwbr : wb < wr.heap.size := Nat.lt_of_lt_of_le HWC.out.1 HAq.out.size
        clear k0 k1 hbe hcq hcb
        go_wp2_with (first
          | (go_at_call 66; refine (HLG.out _ (by exact HSq.out.below (below_alloc _ _))).mono ?_; rintro e w7 ⟨rfl, hs7, ha7⟩))
        go_roundw
        case rel =>
          refine ⟨q + 1, by go_num, by omega, ?_, (HAq.out.trans (AF.of_below (below_alloc _ _))).trans ha7⟩
          rw [HTK.out, ← List.append_assoc]; exact hs7
        case measure => simp only [intOf] at *; omega
      · have hqe : q = W.length := by omega
        have HS7 : Hid (Q.SA B4 s wr g x y z j m uv c (A0 ++ actsL W)) := by
          have k := HSq.out
          rw [hqe, List.take_of_length_le (by rw [actsL_len]; omega)] at k
          exact hid k
        subst hqe
        have HFL1 := hid (fun w (h : Q.SA B4 s w g x y z j m uv c (A0 ++ actsL W)) => Q.sflush 1 (by rw [List.length_append, actsL_len]; omega) w h)
        have HSE := hid (fun w (h : JS j r' w ((y : Int) - 1) T F l.length (l ++ [(L.length : Int) + 1])) => jseal j r' ((y : Int) - 1) T F l.length (l ++ [(L.length : Int) + 1]) (by omega) (by omega) (by rw [List.length_append]; show F + (l.length + 1) ≤ _; omega) w h)
        rw [List.length_append] at HSE
        have HLG := hid (fun w (h : Q.SA B4 s w g x y z j m uv c (A0 ++ actsL W ++ [⟨1, 0, ByteArray.empty⟩])) => Q.slog 0 ⟨by decide, by decide⟩ (hdB T F (F + (l.length + 1))) (by rw [List.length_append, List.length_append, actsL_len]; show A0.length + W.length + 1 ≤ _; omega) w h)
        have HFL3 := hid (fun w (h : Q.SA B4 s w g x y z j m uv c (A0 ++ actsL W ++ [⟨1, 0, ByteArray.empty⟩] ++ [⟨0, 1 + 0, hdB T F (F + (l.length + 1))⟩])) => Q.sflush 3 (by rw [List.length_append, List.length_append, List.length_append, actsL_len]; show A0.length + W.length + 1 + 1 ≤ _; omega) w h)
        have HCL := hid (fun w h => clone_all (.slice ao1 L.length cap) L (by omega) w h)
        obtain ⟨hdr, hhdr⟩ : ∃ hdr, hdr = hdB T F (F + (l.length + 1)) := ⟨_, rfl⟩
        have HSE' : Hid (∀ w, JS j r' w ((y : Int) - 1) T F l.length (l ++ [(L.length : Int) + 1]) → Calls Tryz.prog 68 #[.pointer (some ⟨j, 0, none⟩)] w fun e w' => e = .returned (.agg #[.int .i64 0, .string hdr]) ∧ JS j r' w' ((y : Int) - 1) T F (l.length + 1) (l ++ [(L.length : Int) + 1]) ∧ JFr j r' w w') := by
          rw [hhdr]; exact HSE
        rw [← hhdr] at HLG HFL3
        have HHD := hid hhdr
        clear HSE hhdr
        have g9 : wr.cell? ⟨s, 9, none⟩ = some (.pointer (some ⟨j, 0, none⟩)) := by
          obtain ⟨av, k, _⟩ := HS7.out.ex
          exact (k.cell 9).trans rfl
        go_wp2_with (first
          | (go_at_call 69; refine (HCL.out _ (by exact HC11.out.lieE HL.out HVA.out)).mono ?_; rintro e w12 ⟨v12, rfl, hc12, ho12, ⟨a12, p12, rfl⟩, hb12⟩
             have HS12 := hid (HS11.out.below hb12)
             have HC12 := hid (HC11.out.bel hb12)
             have HCL12 := hid hc12
             have HO12 := hid ho12
             have HJ12 := hid (HJ11.out.below hb12)
             have HZ12 := hid (HC11.out.size)
             clear hc12 ho12 hb12
             obtain ⟨u12, t12, f12⟩ : ∃ u, w12.cell? ⟨s, 12, none⟩ = some u ∧ w12.frozen? ⟨s, 12, none⟩ = false := by
               obtain ⟨av, k, _⟩ := HS12.out.ex
               exact ⟨uv, (k.cell 12).trans rfl, k.free 12⟩)
          | (go_at_call 67; have hk := HS10; clear hk; refine (HFL3.out _ (by exact HS10.out)).mono ?_; rintro e w11 ⟨rfl, hs11, ha11⟩
             have HS11 := hid hs11
             have HC11 := hid (HC10.out.af ha11 hB4)
             have HJ11 := hid (HJ10.out.af2 ha11 (Ne.symm hsj) (Ne.symm hsr'))
             clear hs11 ha11)
          | (go_at_call 66; refine (HLG.out _ (by exact HS9.out)).mono ?_; rintro e w10 ⟨rfl, hs10, ha10⟩
             have HS10 := hid hs10
             have HC10 := hid (HC9.out.af ha10 hB4)
             have HJ10 := hid (HJ9.out.af2 ha10 (Ne.symm hsj) (Ne.symm hsr'))
             clear hs10 ha10)
          | (go_at_call 68; refine (HSE'.out _ (by exact HJ8.out)).mono ?_; rintro e w9 ⟨rfl, hj9, hf9⟩
             have HJ9 := hid hj9
             have HS9 := hid (HS8.out.jfr2 HJ8.out hf9 hsj hsr')
             have HC9 := hid (HC8.out.jfr HNW.out hf9)
             clear hj9 hf9)
          | (go_at_call 67; refine (HFL1.out _ (by exact HS7.out)).mono ?_; rintro e w8 ⟨rfl, hs8, ha8⟩
             have HS8 := hid hs8
             have HC8 := hid ((HC6.out.af HAq.out hB4).af ha8 hB4)
             have HJ8 := hid (HJ6.out.af2 (HAq.out.trans ha8) (Ne.symm hsj) (Ne.symm hsr'))
             have g9 : w8.cell? ⟨s, 9, none⟩ = some (.pointer (some ⟨j, 0, none⟩)) := by
               obtain ⟨av, k, _⟩ := HS8.out.ex
               exact (k.cell 9).trans rfl
             clear hs8 ha8))
        go_ret
        refine ⟨rfl, B4, .slice a12 L.length p12, r', hB4, ?_, ?_, ?_, HJ12.out.set hsj hsr' _ _, HNW.out, HC12.out.set 12 _⟩
        · have k := HS12.out.under (.slice a12 L.length p12)
          rw [List.append_assoc, List.append_assoc, List.append_assoc, HHD.out, HA0.out, HWW.out] at k
          exact k
        · refine HCL12.out.same (by show _ ≤ (w12.heap.modify s _).size; rw [Array.size_modify]; exact Nat.le_refl _) fun a ha => Below.heap_setCell _ _ _ _ ?_
          have k1 := (HO12.out a ha).1
          have k2 := HZ12.out
          show a ≠ s
          omega
        · intro a ha
          have k1 := HO12.out a ha
          have k2 := HZ12.out
          refine ⟨by omega, ?_⟩
          show a < (w12.heap.modify s _).size
          rw [Array.size_modify]
          exact k1.2
set_option maxRecDepth 100000 in
set_option maxHeartbeats 4000000 in
theorem commit_lay {s g x y z j m N : Nat} {ao : Option Addr} {uv : Value} {c : Int} {r : Option Nat} {T F T' : Nat} {l : List Int} {M : List Chg} (v : Value) (L : List Chg) (hok : Sh.okS x y z) (hr : right L = true) (hwi : withinB (1 + y) x L = true) (hT : (T : Int) < (y : Int) - 1) (hF0 : 1 ≤ F) (hF : F + l.length ≤ 1099511627776) (hl : l.length ≤ 299) (hn : ∀ x ∈ l, 0 ≤ x) (hpl : (L.length : Int) + 1 ≤ (y : Int) - 1) (hs : sumI l ≤ (y : Int) - 1) (hfull : (y : Int) - 1 < sumI l + L.length + 1) (hT' : (T' : Int) = ((T : Int) + sumI l) % ((y : Int) - 1)) (hMl : M.length ≤ 1900) (w : World) (hst : StIs s w g x y z j (.slice ao 0 0) m uv c) (hj : JS j r w ((y : Int) - 1) T F l.length l) (hM : Um.MIs m w N M) (hL : CLie w v L) (hsj : s ≠ j) (hsr : some s ≠ r) (hms : m ≠ s) (hva : L ≠ [] → ∀ a, v.ownBlock = some a → a ≠ s ∧ a ≠ j ∧ some a ≠ r) :
    Calls Tryz.prog 14 #[.pointer (some ⟨s, 0, none⟩), v] w fun e w' => e = .returned (.int .i64 0) ∧ ∃ B1 uv' r', w.heap.size ≤ B1 ∧ Q.SA B1 s w' g x y z j m uv' c (layA M (hdB T' (F + l.length) (F + l.length)) ++ (actsL (wrL ((y : Int) - 1) (T' + sumI ([] : List Int)) (encL ((F + l.length) + ([] : List Int).length) L)) ++ [⟨1, 0, ByteArray.empty⟩, ⟨0, 1, hdB T' (F + l.length) ((F + l.length) + (([] : List Int).length + 1))⟩, ⟨3, 0, ByteArray.empty⟩])) ∧ CLie w' uv' L ∧ (∀ a, uv'.ownBlock = some a → w.heap.size ≤ a ∧ a < w'.heap.size) ∧
      JS j r' w' ((y : Int) - 1) T' (F + l.length) (([] : List Int).length + 1) (([] : List Int) ++ [(L.length : Int) + 1]) ∧ New w r r' ∧ CF s j r w w' := by
  have h48 := right_len hr
  have hs0 := sumI_nn hn
  have hy := hok.1.2.1
  have hx := hok.1.1
  have HCK := hid (check_any v L w hL)
  rw [hr] at HCK
  simp only [if_true] at HCK
  have HNO := hid (fun w (h : StIs s w g x y z j (.slice ao 0 0) m uv c) => snone_any w h)
  have HBU := hid (fun w (h : StIs s w g x y z j (.slice ao 0 0) m uv c) => busy_any w h)
  have HWI := hid (fun w (h : CLie w v L) (r2 r3 r4 : Int) => within_any v L x y z 1 (1 + y) r2 r3 r4 w h)
  rw [hwi] at HWI
  have HNX := hid (fun w h => jnext j r ((y : Int) - 1) T F l.length l (by omega) (by omega) (by omega) w h)
  have HFR := hid (fun w h => jfree j r ((y : Int) - 1) T F l.length l (by omega) (by omega) hn (by omega) w h)
  have hT1 : (T' : Int) < (y : Int) - 1 := by rw [hT']; exact Int.emod_lt_of_pos _ (by omega)
  have HAP := hid (fun w h hL => jappend2 j r ((y : Int) - 1) T' (F + l.length) 0 [] v L (by omega) (by omega) hT1 (by omega) (by simp; omega) (by simp) (by simp) (by simp [sumI]; omega) hr w h hL)
  have HLY := hid (fun w h1 h2 h3 => lay_some (s := s) (g := g) (x := x) (y := y) (z := z) (j := j) (m := m) (N := N) (ao := ao) (uv := uv) (c := c) (r := r) (P := (y : Int) - 1) (T := T) (F := F) (T' := T') (l := l) (M := M) (by omega) (by omega) hT (by omega) (by intro e; have e2 := List.eq_nil_of_length_eq_zero e; rw [e2] at hfull; simp [sumI] at hfull; omega) (by omega) hn hs hT' hMl w h1 h2 h3 hsj hsr hms)
  have HM := hid hM
  have hcl := hL
  obtain ⟨ao1, cap, hve, hlc, hcm, _⟩ := hL
  have HL := hid hcl
  have HST := hid hst
  have HJ := hid hj
  have HVA := hid hva
  clear hcl hva hj
  have hsl := hst.lt
  have c1 : w.cell? ⟨s, 1, none⟩ = some (.int .i64 x) := (hst.cell 1).trans rfl
  have c2 : w.cell? ⟨s, 2, none⟩ = some (.int .i64 y) := (hst.cell 2).trans rfl
  have c3 : w.cell? ⟨s, 3, none⟩ = some (.int .i64 z) := (hst.cell 3).trans rfl
  have c4 : w.cell? ⟨s, 4, none⟩ = some (.int .i64 1) := (hst.cell 4).trans rfl
  have c5 : w.cell? ⟨s, 5, none⟩ = some (.int .i64 (1 + (y : Int))) := (hst.cell 5).trans rfl
  have c6 : w.cell? ⟨s, 6, none⟩ = some (.int .i64 (2 + (y : Int))) := (hst.cell 6).trans rfl
  have c7 : w.cell? ⟨s, 7, none⟩ = some (.int .i64 (2 + (y : Int) + ((z : Int) + 3) / 4)) := (hst.cell 7).trans rfl
  have c8 : w.cell? ⟨s, 8, none⟩ = some (.int .i64 ((x : Int) - (2 + (y : Int) + ((z : Int) + 3) / 4))) := (hst.cell 8).trans rfl
  clear hst
  have hF1 : (F + l.length) + ([] : List Int).length ≤ 1099511627776 := by simp; omega
  have hA0l : (layA M (hdB T' (F + l.length) (F + l.length))).length ≤ 1910 := by unfold layA; simp; omega
  obtain ⟨A0, hA0⟩ : ∃ A0, A0 = layA M (hdB T' (F + l.length) (F + l.length)) := ⟨_, rfl⟩
  have HA0 := hid hA0
  rw [← hA0] at hA0l
  clear hn
  obtain ⟨W, hW⟩ : ∃ W, W = wrL ((y : Int) - 1) (T' + sumI ([] : List Int)) (encL ((F + l.length) + ([] : List Int).length) L) := ⟨_, rfl⟩
  have hWl : W.length = L.length + 1 := by rw [hW, wrL_len, encL_len]
  have HWB : Hid (∀ c ∈ W, 0 ≤ c.b ∧ c.b ≤ 1024) := hid (fun c hc => by
    have := wrL_bound ((y : Int) - 1) (by omega) _ _ c (by rw [← hW]; exact hc)
    exact ⟨this.1, by omega⟩)
  have HWW := hid hW
  rw [← hW] at HAP
  clear hW
  subst hve
  go_enter Tryz.func14, Tryz.ntmps14
  go_upto_region 8 with (first
    | (go_at_call 63; refine HCK.out.mono ?_; rintro e w1 ⟨rfl, hb1⟩; have HB1 := hid hb1; clear hb1)
    | (go_at_call 62; refine (HNO.out _ (HST.out.below HB1.out)).mono ?_; rintro e w1' ⟨rfl, hw⟩; have hw := hw.symm; subst hw))
  replace c1 := (HB1.out.cell (p := ⟨s, 1, none⟩) hsl).trans c1
  replace c2 := (HB1.out.cell (p := ⟨s, 2, none⟩) hsl).trans c2
  replace c3 := (HB1.out.cell (p := ⟨s, 3, none⟩) hsl).trans c3
  replace c4 := (HB1.out.cell (p := ⟨s, 4, none⟩) hsl).trans c4
  replace c5 := (HB1.out.cell (p := ⟨s, 5, none⟩) hsl).trans c5
  replace c6 := (HB1.out.cell (p := ⟨s, 6, none⟩) hsl).trans c6
  replace c7 := (HB1.out.cell (p := ⟨s, 7, none⟩) hsl).trans c7
  replace c8 := (HB1.out.cell (p := ⟨s, 8, none⟩) hsl).trans c8
  have hsl1 : s < w1.heap.size := Nat.lt_of_lt_of_le hsl HB1.out.size
  go_cut [30] (fun v30 wx => v30 = .bool false ∧ Below w.heap.size w wx)
  case first =>
    go_region_held3 (fun w' => w'.cell? ⟨s, 1, none⟩ = some (.int .i64 x) ∧ w'.cell? ⟨s, 2, none⟩ = some (.int .i64 y) ∧ w'.cell? ⟨s, 3, none⟩ = some (.int .i64 z) ∧ w'.cell? ⟨s, 4, none⟩ = some (.int .i64 1) ∧ w'.cell? ⟨s, 5, none⟩ = some (.int .i64 (1 + (y : Int))) ∧ w'.cell? ⟨s, 6, none⟩ = some (.int .i64 (2 + (y : Int))) ∧ w'.cell? ⟨s, 7, none⟩ = some (.int .i64 (2 + (y : Int) + ((z : Int) + 3) / 4)) ∧ w'.cell? ⟨s, 8, none⟩ = some (.int .i64 ((x : Int) - (2 + (y : Int) + ((z : Int) + 3) / 4)))) (first | exact ⟨c1, c2, c3, c4, c5, c6, c7, c8⟩ | exact d2 | go_keep) (first
      | (go_at_call 42; refine (HWI.out _ (by exact HL.out.below (HB1.out.next ⟨rfl, rfl, rfl, Nat.le_refl _, fun _ _ => rfl⟩)) _ _ _).mono ?_; rintro e w2 ⟨rfl, hb2⟩
         have hb2 : Below w1.heap.size w1 w2 := ⟨hb2.os, hb2.tape, hb2.output, hb2.size, hb2.block⟩
         have HB2 := hid (HB1.out.next hb2)
         have d2 : w2.cell? ⟨s, 1, none⟩ = some (.int .i64 x) ∧ w2.cell? ⟨s, 2, none⟩ = some (.int .i64 y) ∧ w2.cell? ⟨s, 3, none⟩ = some (.int .i64 z) ∧ w2.cell? ⟨s, 4, none⟩ = some (.int .i64 1) ∧ w2.cell? ⟨s, 5, none⟩ = some (.int .i64 (1 + (y : Int))) ∧ w2.cell? ⟨s, 6, none⟩ = some (.int .i64 (2 + (y : Int))) ∧ w2.cell? ⟨s, 7, none⟩ = some (.int .i64 (2 + (y : Int) + ((z : Int) + 3) / 4)) ∧ w2.cell? ⟨s, 8, none⟩ = some (.int .i64 ((x : Int) - (2 + (y : Int) + ((z : Int) + 3) / 4))) := ⟨(hb2.cell (p := ⟨s, 1, none⟩) hsl1).trans c1, (hb2.cell (p := ⟨s, 2, none⟩) hsl1).trans c2, (hb2.cell (p := ⟨s, 3, none⟩) hsl1).trans c3, (hb2.cell (p := ⟨s, 4, none⟩) hsl1).trans c4, (hb2.cell (p := ⟨s, 5, none⟩) hsl1).trans c5, (hb2.cell (p := ⟨s, 6, none⟩) hsl1).trans c6, (hb2.cell (p := ⟨s, 7, none⟩) hsl1).trans c7, (hb2.cell (p := ⟨s, 8, none⟩) hsl1).trans c8⟩
         clear hb2))
    all_goals
      go_wp2
      go_meet
      exact ⟨rfl, HB2.out⟩
  case rest =>
    obtain ⟨rfl, hb3⟩ := hcut
    rename World => w3
    have HB3 := hid hb3
    clear hb3 c1 c3 c4 c5 c6 c7 c8 HWI HCK
    have c9 : w3.cell? ⟨s, 9, none⟩ = some (.pointer (some ⟨j, 0, none⟩)) := ((HST.out.below HB3.out).cell 9).trans rfl
    have e2 : w3.cell? ⟨s, 2, none⟩ = some (.int .i64 y) := ((HST.out.below HB3.out).cell 2).trans rfl
    have hgt : decide ((y : Int) - 1 - sumI l < (1 : Int) + L.length) = true := decide_eq_true (by omega)
    go_upto_region 17 with (first
      | (go_at_call 21; refine (HBU.out _ (by exact HST.out.below HB3.out)).mono ?_; rintro e w4 ⟨rfl, hw⟩; have hw := hw.symm; subst hw)
      | (go_at_call 54; refine (HNX.out _ (by exact HJ.out.below HB3.out)).mono ?_; rintro e w4 ⟨rfl, q4, hw⟩; have hw := hw.symm; subst hw)
      | (go_at_call 64; refine (HFR.out _ (by exact HJ.out.below (HB3.out.next ⟨rfl, rfl, rfl, Nat.le_refl _, fun _ _ => rfl⟩))).mono ?_; rintro e w4 ⟨rfl, q5, hw⟩; have hw := hw.symm; subst hw)
      | (go_at_call 56; refine (HLY.out _ (by exact HST.out.below (HB3.out.next ⟨rfl, rfl, rfl, Nat.le_refl _, fun _ _ => rfl⟩)) (by exact HJ.out.below (HB3.out.next ⟨rfl, rfl, rfl, Nat.le_refl _, fun _ _ => rfl⟩)) (by exact HM.out.same ((HB3.out.next (w2 := w3.drewN (q4 + q5)) ⟨rfl, rfl, rfl, Nat.le_refl _, fun _ _ => rfl⟩).block _ HM.out.lt))).mono ?_; rintro e w4 ⟨rfl, hs4, hj4, hc4⟩
         have HS4 : Hid (Q.SA w3.heap.size s w4 g x y z j m uv c A0) := hid (by rw [HA0.out]; exact hs4)
         have HJ4 : Hid (JS j r w4 ((y : Int) - 1) T' (F + l.length) 0 []) := hid hj4
         have HC4 : Hid (CF s j r w w4) := hid ((CF.of_below (HB3.out.next (w2 := w3.drewN (q4 + q5)) ⟨rfl, rfl, rfl, Nat.le_refl _, fun _ _ => rfl⟩)).trans hc4)
         have hB4 : w.heap.size ≤ w3.heap.size := HB3.out.size
         clear hs4 hj4 hc4))
    have hB44 : w3.heap.size ≤ w4.heap.size := HS4.out.hi
    obtain ⟨B4, hB4e⟩ : ∃ B4, B4 = w3.heap.size := ⟨_, rfl⟩
    rw [← hB4e] at HS4 hB4 hB44
    clear hB4e c9 e2 HNX HFR HBU HNO
    have c9 : w4.cell? ⟨s, 9, none⟩ = some (.pointer (some ⟨j, 0, none⟩)) := by
      obtain ⟨av, k, _⟩ := HS4.out.ex
      exact (k.cell 9).trans rfl
    go_wp2_with (first
      | (go_at_call 65; refine (HAP.out _ (by exact HJ4.out) (by exact HC4.out.lieE HL.out HVA.out)).mono ?_; rintro e w6 ⟨wb, r', rfl, hwb, hwr, hcw, hty, hj6, hn6, hf6⟩
         have HCW := hid hcw
         have HTY := hid hty
         have HJ6 := hid hj6
         have HN6 := hid hn6
         have HF6 := hid hf6
         clear hcw hty hj6 hn6 hf6))
    have h46 := HF6.out.size
    have hs4w : s < w4.heap.size := Nat.lt_of_lt_of_le hsl HC4.out.size
    have HS6 : Hid (Q.SA B4 s w6 g x y z j m uv c A0) := hid (HS4.out.jfr2 HJ4.out HF6.out hsj hsr)
    have HC6 : Hid (CF s j r w w6) := hid (HC4.out.jfr (.inl rfl) HF6.out)
    have hsr' : some s ≠ r' := by
      rcases HN6.out with e | ⟨k, e, hk⟩
      · rw [e]; exact hsr
      · rw [e]; intro e; cases e; omega
    have HNW : Hid (New w r r') := by
      rcases HN6.out with e | ⟨k, e, hk⟩
      · exact .inl e
      · exact .inr ⟨k, e, Nat.le_trans HC4.out.size hk⟩
    have HWC : Hid (wb < w6.heap.size ∧ (∀ cur, w6.heap[wb]? ≠ some (.cells cur 133 (0, 0))) ∧ ∀ i (hi : i < W.length), w6.cell? ⟨wb, i * 2, none⟩ = some (.int .i64 W[i].b) ∧ w6.cell? ⟨wb, i * 2 + 1, none⟩ = some (.string W[i].d)) := by
      obtain ⟨ao', cap', e, _, _, hcell⟩ := HCW.out
      injection e with e1 _ _
      subst e1
      obtain ⟨cur, hcu⟩ := HTY.out
      refine ⟨lt_of_block hcu, fun cur' e => by rw [hcu] at e; simp at e, fun i hi => ?_⟩
      obtain ⟨gb, off, e, hg, k0, k1⟩ := hcell i hi
      cases e
      rw [Nat.zero_add] at k0 k1
      exact ⟨k0, k1⟩
    have hwbs : wb ≠ s := by omega
    clear c9 HAP
    go_loopw [72] (fun i wr => ∃ q : Nat, i = .int .i64 q ∧ q ≤ W.length ∧ Q.SA B4 s wr g x y z j m uv c (A0 ++ (actsL W).take q) ∧ AF B4 s w6 wr) (fun i _ => W.length - (intOf i).toNat)
    case atStart => exact ⟨0, rfl, Nat.zero_le _, by rw [List.take_zero, List.append_nil]; exact HS6.out, AF.refl _ _ _⟩
    case round =>
      obtain ⟨q, rfl, hq, hsq, haq⟩ := hrel
      have HSq := hid hsq
      have HAq := hid haq
      clear hsq haq
      by_cases hqw : q < W.length
      · obtain ⟨k0, k1⟩ := HWC.out.2.2 q hqw
        have hbe := HAq.out.block wb HWC.out.1 hwbs (.inr HWC.out.2.1)
        have g0 : wr.cell? ⟨wb, q * 2, none⟩ = some (.int .i64 W[q].b) := by
          simp only [World.cell?] at k0 ⊢
          rw [hbe]; exact k0
        have g1 : wr.cell? ⟨wb, q * 2 + 1, none⟩ = some (.string W[q].d) := by
          simp only [World.cell?] at k1 ⊢
          rw [hbe]; exact k1
        have HTK := hid (actsL_take W q hqw)
        have hcb := HWB.out W[q] (List.getElem_mem hqw)
        obtain ⟨cq, hcq⟩ : ∃ cq, cq = W[q] := ⟨_, rfl⟩
        rw [← hcq] at g0 g1 HTK hcb
        have HLG := hid (fun w (h : Q.SA B4 s w g x y z j m uv c (A0 ++ (actsL W).take q)) => Q.slog cq.b hcb cq.d (by rw [List.length_append, List.length_take, actsL_len]; omega) w h)
        have hwbr : wb < wr.heap.size := Nat.lt_of_lt_of_le HWC.out.1 HAq.out.size
        clear k0 k1 hbe hcq hcb
        go_wp2_with (first
          | (go_at_call 66; refine (HLG.out _ (by exact HSq.out.below (below_alloc _ _))).mono ?_; rintro e w7 ⟨rfl, hs7, ha7⟩))
        go_roundw
        case rel =>
          refine ⟨q + 1, by go_num, by omega, ?_, (HAq.out.trans (AF.of_below (below_alloc _ _))).trans ha7⟩
          rw [HTK.out, ← List.append_assoc]; exact hs7
        case measure => simp only [intOf] at *; omega
      · have hqe : q = W.length := by omega
        have HS7 : Hid (Q.SA B4 s wr g x y z j m uv c (A0 ++ actsL W)) := by
          have k := HSq.out
          rw [hqe, List.take_of_length_le (by rw [actsL_len]; omega)] at k
          exact hid k
        subst hqe
        have HFL1 := hid (fun w (h : Q.SA B4 s w g x y z j m uv c (A0 ++ actsL W)) => Q.sflush 1 (by rw [List.length_append, actsL_len]; omega) w h)
        have HSE := hid (fun w (h : JS j r' w ((y : Int) - 1) T' (F + l.length) 0 (([] : List Int) ++ [(L.length : Int) + 1])) => jseal j r' ((y : Int) - 1) T' (F + l.length) 0 (([] : List Int) ++ [(L.length : Int) + 1]) (by omega) (by omega) (by rw [List.length_append]; show (F + l.length) + (([] : List Int).length + 1) ≤ _; omega) w h)
        rw [List.length_append] at HSE
        have HLG := hid (fun w (h : Q.SA B4 s w g x y z j m uv c (A0 ++ actsL W ++ [⟨1, 0, ByteArray.empty⟩])) => Q.slog 0 ⟨by decide, by decide⟩ (hdB T' (F + l.length) ((F + l.length) + (([] : List Int).length + 1))) (by rw [List.length_append, List.length_append, actsL_len]; show A0.length + W.length + 1 ≤ _; omega) w h)
        have HFL3 := hid (fun w (h : Q.SA B4 s w g x y z j m uv c (A0 ++ actsL W ++ [⟨1, 0, ByteArray.empty⟩] ++ [⟨0, 1 + 0, hdB T' (F + l.length) ((F + l.length) + (([] : List Int).length + 1))⟩])) => Q.sflush 3 (by rw [List.length_append, List.length_append, List.length_append, actsL_len]; show A0.length + W.length + 1 + 1 ≤ _; omega) w h)
        have HCL := hid (fun w h => clone_all (.slice ao1 L.length cap) L (by omega) w h)
        obtain ⟨hdr, hhdr⟩ : ∃ hdr, hdr = hdB T' (F + l.length) ((F + l.length) + (([] : List Int).length + 1)) := ⟨_, rfl⟩
        have HSE' : Hid (∀ w, JS j r' w ((y : Int) - 1) T' (F + l.length) 0 (([] : List Int) ++ [(L.length : Int) + 1]) → Calls Tryz.prog 68 #[.pointer (some ⟨j, 0, none⟩)] w fun e w' => e = .returned (.agg #[.int .i64 0, .string hdr]) ∧ JS j r' w' ((y : Int) - 1) T' (F + l.length) (([] : List Int).length + 1) (([] : List Int) ++ [(L.length : Int) + 1]) ∧ JFr j r' w w') := by
          rw [hhdr]; exact HSE
        rw [← hhdr] at HLG HFL3
        have HHD := hid hhdr
        clear HSE hhdr
        have g9 : wr.cell? ⟨s, 9, none⟩ = some (.pointer (some ⟨j, 0, none⟩)) := by
          obtain ⟨av, k, _⟩ := HS7.out.ex
          exact (k.cell 9).trans rfl
        go_wp2_with (first
          | (go_at_call 69; refine (HCL.out _ (by exact HC11.out.lieE HL.out HVA.out)).mono ?_; rintro e w12 ⟨v12, rfl, hc12, ho12, ⟨a12, p12, rfl⟩, hb12⟩
             have HS12 := hid (HS11.out.below hb12)
             have HC12 := hid (HC11.out.bel hb12)
             have HCL12 := hid hc12
             have HO12 := hid ho12
             have HJ12 := hid (HJ11.out.below hb12)
             have HZ12 := hid (HC11.out.size)
             clear hc12 ho12 hb12
             obtain ⟨u12, t12, f12⟩ : ∃ u, w12.cell? ⟨s, 12, none⟩ = some u ∧ w12.frozen? ⟨s, 12, none⟩ = false := by
               obtain ⟨av, k, _⟩ := HS12.out.ex
               exact ⟨uv, (k.cell 12).trans rfl, k.free 12⟩)
          | (go_at_call 67; have hk := HS10; clear hk; refine (HFL3.out _ (by exact HS10.out)).mono ?_; rintro e w11 ⟨rfl, hs11, ha11⟩
             have HS11 := hid hs11
             have HC11 := hid (HC10.out.af ha11 hB4)
             have HJ11 := hid (HJ10.out.af2 ha11 (Ne.symm hsj) (Ne.symm hsr'))
             clear hs11 ha11)
          | (go_at_call 66; refine (HLG.out _ (by exact HS9.out)).mono ?_; rintro e w10 ⟨rfl, hs10, ha10⟩
             have HS10 := hid hs10
             have HC10 := hid (HC9.out.af ha10 hB4)
             have HJ10 := hid (HJ9.out.af2 ha10 (Ne.symm hsj) (Ne.symm hsr'))
             clear hs10 ha10)
          | (go_at_call 68; refine (HSE'.out _ (by exact HJ8.out)).mono ?_; rintro e w9 ⟨rfl, hj9, hf9⟩
             have HJ9 := hid hj9
             have HS9 := hid (HS8.out.jfr2 HJ8.out hf9 hsj hsr')
             have HC9 := hid (HC8.out.jfr HNW.out hf9)
             clear hj9 hf9)
          | (go_at_call 67; refine (HFL1.out _ (by exact HS7.out)).mono ?_; rintro e w8 ⟨rfl, hs8, ha8⟩
             have HS8 := hid hs8
             have HC8 := hid ((HC6.out.af HAq.out hB4).af ha8 hB4)
             have HJ8 := hid (HJ6.out.af2 (HAq.out.trans ha8) (Ne.symm hsj) (Ne.symm hsr'))
             have g9 : w8.cell? ⟨s, 9, none⟩ = some (.pointer (some ⟨j, 0, none⟩)) := by
               obtain ⟨av, k, _⟩ := HS8.out.ex
               exact (k.cell 9).trans rfl
             clear hs8 ha8))
        go_ret
        refine ⟨rfl, B4, .slice a12 L.length p12, r', hB4, ?_, ?_, ?_, HJ12.out.set hsj hsr' _ _, HNW.out, HC12.out.set 12 _⟩
        · have k := HS12.out.under (.slice a12 L.length p12)
          rw [List.append_assoc, List.append_assoc, List.append_assoc, HHD.out, HA0.out, HWW.out] at k
          exact k
        · refine HCL12.out.same (by show _ ≤ (w12.heap.modify s _).size; rw [Array.size_modify]; exact Nat.le_refl _) fun a ha => Below.heap_setCell _ _ _ _ ?_
          have k1 := (HO12.out a ha).1
          have k2 := HZ12.out
          show a ≠ s
          omega
        · intro a ha
          have k1 := HO12.out a ha
          have k2 := HZ12.out
          refine ⟨by omega, ?_⟩
          show a < (w12.heap.modify s _).size
          rw [Array.size_modify]
          exact k1.2
end Go.Proofs.YtopebghandojbaaGreat
namespace Go.Proofs.YtopebghandojbaaGreat
open Go.RowKit Go.Maps

set_option maxRecDepth 100000 in
set_option maxHeartbeats 1000000 in
/-- Commit of changes that are not right -/
theorem commit_bad {s g x y z j m : Nat} {av uv : Value} {c : Int} (v : Value) (L : List Chg) (hr : right L = false) (w : World) (hst : StIs s w g x y z j av m uv c) (hL : CLie w v L) :
    Calls Tryz.prog 14 #[.pointer (some ⟨s, 0, none⟩), v] w fun e w' => e = .returned (.int .i64 70) ∧ Below w.heap.size w w' := by
  have HCK := hid (check_any v L w hL)
  rw [hr] at HCK
  obtain ⟨ao1, cap, hve, _, _, _⟩ := hL
  subst hve
  have hsl := hst.lt
  clear hst
  go_enter Tryz.func14, Tryz.ntmps14
  go_wp2_with (first
    | (go_at_call 63; refine HCK.out.mono ?_; rintro e w1 ⟨rfl, hb1⟩; have HB1 := hid hb1; clear hb1))
  go_ret
  exact ⟨rfl, HB1.out⟩
set_option maxRecDepth 100000 in
set_option maxHeartbeats 4000000 in
/-- Commit of changes of which one is of no home block -/
theorem commit_out {s g x y z j m : Nat} {av uv : Value} {c : Int} (v : Value) (L : List Chg) (hr : right L = true) (hwi : withinB (1 + y) x L = false) (w : World) (hst : StIs s w g x y z j av m uv c) (hL : CLie w v L) :
    Calls Tryz.prog 14 #[.pointer (some ⟨s, 0, none⟩), v] w fun e w' => e = .returned (.int .i64 70) ∧ Below w.heap.size w w' := by
  have HCK := hid (check_any v L w hL)
  rw [hr] at HCK
  simp only [if_true] at HCK
  have HNO := hid (fun w (h : StIs s w g x y z j av m uv c) => snone_any w h)
  have HWI := hid (fun w (h : CLie w v L) (r2 r3 r4 : Int) => within_any v L x y z 1 (1 + y) r2 r3 r4 w h)
  rw [hwi] at HWI
  have HL := hid hL
  have HST := hid hst
  obtain ⟨ao1, cap, hve, _, _, _⟩ := hL
  subst hve
  have hsl := hst.lt
  have c1 : w.cell? ⟨s, 1, none⟩ = some (.int .i64 x) := (hst.cell 1).trans rfl
  have c2 : w.cell? ⟨s, 2, none⟩ = some (.int .i64 y) := (hst.cell 2).trans rfl
  have c3 : w.cell? ⟨s, 3, none⟩ = some (.int .i64 z) := (hst.cell 3).trans rfl
  have c4 : w.cell? ⟨s, 4, none⟩ = some (.int .i64 1) := (hst.cell 4).trans rfl
  have c5 : w.cell? ⟨s, 5, none⟩ = some (.int .i64 (1 + (y : Int))) := (hst.cell 5).trans rfl
  have c6 : w.cell? ⟨s, 6, none⟩ = some (.int .i64 (2 + (y : Int))) := (hst.cell 6).trans rfl
  have c7 : w.cell? ⟨s, 7, none⟩ = some (.int .i64 (2 + (y : Int) + ((z : Int) + 3) / 4)) := (hst.cell 7).trans rfl
  have c8 : w.cell? ⟨s, 8, none⟩ = some (.int .i64 ((x : Int) - (2 + (y : Int) + ((z : Int) + 3) / 4))) := (hst.cell 8).trans rfl
  clear hst
  go_enter Tryz.func14, Tryz.ntmps14
  go_upto_region 8 with (first
    | (go_at_call 63; refine HCK.out.mono ?_; rintro e w1 ⟨rfl, hb1⟩; have HB1 := hid hb1; clear hb1)
    | (go_at_call 62; refine (HNO.out _ (HST.out.below HB1.out)).mono ?_; rintro e w1' ⟨rfl, hw⟩; have hw := hw.symm; subst hw))
  replace c1 := (HB1.out.cell (p := ⟨s, 1, none⟩) hsl).trans c1
  replace c2 := (HB1.out.cell (p := ⟨s, 2, none⟩) hsl).trans c2
  replace c3 := (HB1.out.cell (p := ⟨s, 3, none⟩) hsl).trans c3
  replace c4 := (HB1.out.cell (p := ⟨s, 4, none⟩) hsl).trans c4
  replace c5 := (HB1.out.cell (p := ⟨s, 5, none⟩) hsl).trans c5
  replace c6 := (HB1.out.cell (p := ⟨s, 6, none⟩) hsl).trans c6
  replace c7 := (HB1.out.cell (p := ⟨s, 7, none⟩) hsl).trans c7
  replace c8 := (HB1.out.cell (p := ⟨s, 8, none⟩) hsl).trans c8
  have hsl1 : s < w1.heap.size := Nat.lt_of_lt_of_le hsl HB1.out.size
  go_cut [30] (fun v30 wx => v30 = .bool true ∧ Below w.heap.size w wx)
  case first =>
    go_region_held3 (fun w' => w'.cell? ⟨s, 1, none⟩ = some (.int .i64 x) ∧ w'.cell? ⟨s, 2, none⟩ = some (.int .i64 y) ∧ w'.cell? ⟨s, 3, none⟩ = some (.int .i64 z) ∧ w'.cell? ⟨s, 4, none⟩ = some (.int .i64 1) ∧ w'.cell? ⟨s, 5, none⟩ = some (.int .i64 (1 + (y : Int))) ∧ w'.cell? ⟨s, 6, none⟩ = some (.int .i64 (2 + (y : Int))) ∧ w'.cell? ⟨s, 7, none⟩ = some (.int .i64 (2 + (y : Int) + ((z : Int) + 3) / 4)) ∧ w'.cell? ⟨s, 8, none⟩ = some (.int .i64 ((x : Int) - (2 + (y : Int) + ((z : Int) + 3) / 4)))) (first | exact ⟨c1, c2, c3, c4, c5, c6, c7, c8⟩ | exact d2 | go_keep) (first
      | (go_at_call 42; refine (HWI.out _ (by exact HL.out.below (HB1.out.next ⟨rfl, rfl, rfl, Nat.le_refl _, fun _ _ => rfl⟩)) _ _ _).mono ?_; rintro e w2 ⟨rfl, hb2⟩
         have hb2 : Below w1.heap.size w1 w2 := ⟨hb2.os, hb2.tape, hb2.output, hb2.size, hb2.block⟩
         have HB2 := hid (HB1.out.next hb2)
         have d2 : w2.cell? ⟨s, 1, none⟩ = some (.int .i64 x) ∧ w2.cell? ⟨s, 2, none⟩ = some (.int .i64 y) ∧ w2.cell? ⟨s, 3, none⟩ = some (.int .i64 z) ∧ w2.cell? ⟨s, 4, none⟩ = some (.int .i64 1) ∧ w2.cell? ⟨s, 5, none⟩ = some (.int .i64 (1 + (y : Int))) ∧ w2.cell? ⟨s, 6, none⟩ = some (.int .i64 (2 + (y : Int))) ∧ w2.cell? ⟨s, 7, none⟩ = some (.int .i64 (2 + (y : Int) + ((z : Int) + 3) / 4)) ∧ w2.cell? ⟨s, 8, none⟩ = some (.int .i64 ((x : Int) - (2 + (y : Int) + ((z : Int) + 3) / 4))) := ⟨(hb2.cell (p := ⟨s, 1, none⟩) hsl1).trans c1, (hb2.cell (p := ⟨s, 2, none⟩) hsl1).trans c2, (hb2.cell (p := ⟨s, 3, none⟩) hsl1).trans c3, (hb2.cell (p := ⟨s, 4, none⟩) hsl1).trans c4, (hb2.cell (p := ⟨s, 5, none⟩) hsl1).trans c5, (hb2.cell (p := ⟨s, 6, none⟩) hsl1).trans c6, (hb2.cell (p := ⟨s, 7, none⟩) hsl1).trans c7, (hb2.cell (p := ⟨s, 8, none⟩) hsl1).trans c8⟩
         clear hb2))
    all_goals
      go_wp2
      go_meet
      exact ⟨rfl, HB2.out⟩
  case rest =>
    obtain ⟨rfl, hb3⟩ := hcut
    rename World => w3
    go_wp2
    go_ret
    exact ⟨rfl, hb3⟩
set_option maxRecDepth 100000 in
set_option maxHeartbeats 4000000 in
/-- Commit of changes that no journal of its size can hold -/
theorem commit_full {s g x y z j m : Nat} {ao : Option Addr} {uv : Value} {c : Int} (v : Value) (L : List Chg) (hr : right L = true) (hwi : withinB (1 + y) x L = true) (hpl : (y : Int) - 1 < (L.length : Int) + 1) (hy : y ≤ 1000) (w : World) (hst : StIs s w g x y z j (.slice ao 0 0) m uv c) (hL : CLie w v L) :
    Calls Tryz.prog 14 #[.pointer (some ⟨s, 0, none⟩), v] w fun e w' => e = .returned (.int .i64 5) ∧ Below w.heap.size w w' := by
  have HCK := hid (check_any v L w hL)
  rw [hr] at HCK
  simp only [if_true] at HCK
  have h48 := right_len hr
  have HBU := hid (fun w (h : StIs s w g x y z j (.slice ao 0 0) m uv c) => busy_any w h)
  have HNO := hid (fun w (h : StIs s w g x y z j (.slice ao 0 0) m uv c) => snone_any w h)
  have HWI := hid (fun w (h : CLie w v L) (r2 r3 r4 : Int) => within_any v L x y z 1 (1 + y) r2 r3 r4 w h)
  rw [hwi] at HWI
  have HL := hid hL
  have HST := hid hst
  obtain ⟨ao1, cap, hve, _, _, _⟩ := hL
  subst hve
  have hsl := hst.lt
  have c1 : w.cell? ⟨s, 1, none⟩ = some (.int .i64 x) := (hst.cell 1).trans rfl
  have c2 : w.cell? ⟨s, 2, none⟩ = some (.int .i64 y) := (hst.cell 2).trans rfl
  have c3 : w.cell? ⟨s, 3, none⟩ = some (.int .i64 z) := (hst.cell 3).trans rfl
  have c4 : w.cell? ⟨s, 4, none⟩ = some (.int .i64 1) := (hst.cell 4).trans rfl
  have c5 : w.cell? ⟨s, 5, none⟩ = some (.int .i64 (1 + (y : Int))) := (hst.cell 5).trans rfl
  have c6 : w.cell? ⟨s, 6, none⟩ = some (.int .i64 (2 + (y : Int))) := (hst.cell 6).trans rfl
  have c7 : w.cell? ⟨s, 7, none⟩ = some (.int .i64 (2 + (y : Int) + ((z : Int) + 3) / 4)) := (hst.cell 7).trans rfl
  have c8 : w.cell? ⟨s, 8, none⟩ = some (.int .i64 ((x : Int) - (2 + (y : Int) + ((z : Int) + 3) / 4))) := (hst.cell 8).trans rfl
  clear hst
  go_enter Tryz.func14, Tryz.ntmps14
  go_upto_region 8 with (first
    | (go_at_call 63; refine HCK.out.mono ?_; rintro e w1 ⟨rfl, hb1⟩; have HB1 := hid hb1; clear hb1)
    | (go_at_call 62; refine (HNO.out _ (HST.out.below HB1.out)).mono ?_; rintro e w1' ⟨rfl, hw⟩; have hw := hw.symm; subst hw))
  replace c1 := (HB1.out.cell (p := ⟨s, 1, none⟩) hsl).trans c1
  replace c2 := (HB1.out.cell (p := ⟨s, 2, none⟩) hsl).trans c2
  replace c3 := (HB1.out.cell (p := ⟨s, 3, none⟩) hsl).trans c3
  replace c4 := (HB1.out.cell (p := ⟨s, 4, none⟩) hsl).trans c4
  replace c5 := (HB1.out.cell (p := ⟨s, 5, none⟩) hsl).trans c5
  replace c6 := (HB1.out.cell (p := ⟨s, 6, none⟩) hsl).trans c6
  replace c7 := (HB1.out.cell (p := ⟨s, 7, none⟩) hsl).trans c7
  replace c8 := (HB1.out.cell (p := ⟨s, 8, none⟩) hsl).trans c8
  have hsl1 : s < w1.heap.size := Nat.lt_of_lt_of_le hsl HB1.out.size
  go_cut [30] (fun v30 wx => v30 = .bool false ∧ Below w.heap.size w wx)
  case first =>
    go_region_held3 (fun w' => w'.cell? ⟨s, 1, none⟩ = some (.int .i64 x) ∧ w'.cell? ⟨s, 2, none⟩ = some (.int .i64 y) ∧ w'.cell? ⟨s, 3, none⟩ = some (.int .i64 z) ∧ w'.cell? ⟨s, 4, none⟩ = some (.int .i64 1) ∧ w'.cell? ⟨s, 5, none⟩ = some (.int .i64 (1 + (y : Int))) ∧ w'.cell? ⟨s, 6, none⟩ = some (.int .i64 (2 + (y : Int))) ∧ w'.cell? ⟨s, 7, none⟩ = some (.int .i64 (2 + (y : Int) + ((z : Int) + 3) / 4)) ∧ w'.cell? ⟨s, 8, none⟩ = some (.int .i64 ((x : Int) - (2 + (y : Int) + ((z : Int) + 3) / 4)))) (first | exact ⟨c1, c2, c3, c4, c5, c6, c7, c8⟩ | exact d2 | go_keep) (first
      | (go_at_call 42; refine (HWI.out _ (by exact HL.out.below (HB1.out.next ⟨rfl, rfl, rfl, Nat.le_refl _, fun _ _ => rfl⟩)) _ _ _).mono ?_; rintro e w2 ⟨rfl, hb2⟩
         have hb2 : Below w1.heap.size w1 w2 := ⟨hb2.os, hb2.tape, hb2.output, hb2.size, hb2.block⟩
         have HB2 := hid (HB1.out.next hb2)
         have d2 : w2.cell? ⟨s, 1, none⟩ = some (.int .i64 x) ∧ w2.cell? ⟨s, 2, none⟩ = some (.int .i64 y) ∧ w2.cell? ⟨s, 3, none⟩ = some (.int .i64 z) ∧ w2.cell? ⟨s, 4, none⟩ = some (.int .i64 1) ∧ w2.cell? ⟨s, 5, none⟩ = some (.int .i64 (1 + (y : Int))) ∧ w2.cell? ⟨s, 6, none⟩ = some (.int .i64 (2 + (y : Int))) ∧ w2.cell? ⟨s, 7, none⟩ = some (.int .i64 (2 + (y : Int) + ((z : Int) + 3) / 4)) ∧ w2.cell? ⟨s, 8, none⟩ = some (.int .i64 ((x : Int) - (2 + (y : Int) + ((z : Int) + 3) / 4))) := ⟨(hb2.cell (p := ⟨s, 1, none⟩) hsl1).trans c1, (hb2.cell (p := ⟨s, 2, none⟩) hsl1).trans c2, (hb2.cell (p := ⟨s, 3, none⟩) hsl1).trans c3, (hb2.cell (p := ⟨s, 4, none⟩) hsl1).trans c4, (hb2.cell (p := ⟨s, 5, none⟩) hsl1).trans c5, (hb2.cell (p := ⟨s, 6, none⟩) hsl1).trans c6, (hb2.cell (p := ⟨s, 7, none⟩) hsl1).trans c7, (hb2.cell (p := ⟨s, 8, none⟩) hsl1).trans c8⟩
         clear hb2))
    all_goals
      go_wp2
      go_meet
      exact ⟨rfl, HB2.out⟩
  case rest =>
    obtain ⟨rfl, hb3⟩ := hcut
    rename World => w3
    have HB3 := hid hb3
    clear hb3 c1 c2 c3 c4 c5 c6 c7 c8 HWI HCK
    have e2 : w3.cell? ⟨s, 2, none⟩ = some (.int .i64 y) := ((HST.out.below HB3.out).cell 2).trans rfl
    go_wp2_with (first
      | (go_at_call 21; refine (HBU.out _ (by exact HST.out.below HB3.out)).mono ?_; rintro e w4 ⟨rfl, hw⟩; have hw := hw.symm; subst hw))
    go_ret
    exact ⟨rfl, HB3.out⟩
end Go.Proofs.YtopebghandojbaaGreat
