import Derived.Test.YtopebghandojbaaGreatTq
namespace Go.Proofs.YtopebghandojbaaGreat
open Go.RowKit
/-- what Decode answers, its head being right and blocks enough: in new memory -/
def DQ (B seq : Nat) (ps : List Int) (D : List ByteArray) (sm : Nat) (e : Ending) (w' : World) : Prop :=
  (blocksB D = true ∧ crc (allD D) = sm → ∃ v', e = .returned (.tuple #[.int .i64 seq, v', .int .i64 (1 + (ps.length : Int)), .int .i64 0]) ∧ CLie w' v' (zipC ps D) ∧ ∀ x, v'.ownBlock = some x → B ≤ x ∧ x < w'.heap.size) ∧
  (¬ (blocksB D = true ∧ crc (allD D) = sm) → e = .returned (.tuple #[.int .i64 0, .slice none 0 0, .int .i64 0, .int .i64 4]))
set_option maxRecDepth 100000 in
set_option maxHeartbeats 4000000 in
theorem decode_fresh (v : Value) (b : ByteArray) (bl : List ByteArray) (w : World) (h : SLie w v (b :: bl)) (hb : b.size ≤ 150000000000000) (seq : Nat) (ps : List Int) (sm : Nat) (hh : isHead b seq ps sm) (hs : ps.length ≤ bl.length) :
    Calls Tryz.prog 101 #[v] w fun e w' => DQ w.heap.size seq ps (bl.take ps.length) sm e w' ∧ Below w.heap.size w w' := by
  obtain ⟨ao, cap, rfl, hlc, hcm, hcell⟩ := h
  obtain ⟨gb, off, rfl, hg, c0⟩ := hcell 0 (by simp)
  have hpl : ps.length ≤ 48 := (placesB_iff.1 hh.2.2.2.1).2
  have HH := hid (fun w => head_yes b hb seq ps sm hh w)
  rw [List.getElem_cons_zero, Nat.add_zero] at c0
  rw [List.length_cons] at hlc
  have hDl : (bl.take ps.length).length = ps.length := by rw [List.length_take]; omega
  obtain ⟨hA, hBB⟩ := SLie.tail (n := ps.length) hg hs hlc hcm hcell
  unfold maxLen at hcm
  obtain ⟨D, hD⟩ : ∃ D, D = bl.take ps.length := ⟨_, rfl⟩
  rw [← hD] at hA hBB hDl ⊢
  have HA := hid hA
  have HBB := hid hBB
  rw [List.length_cons]
  clear hcell hh hD hA hBB
  go_enter Tryz.func101, Tryz.ntmps101
  go_wp2_with (go_at_call 130; fail)
  refine (HH.out _).mono ?_
  rintro e w1 ⟨pv, rfl, hl1, hb1⟩
  have HL1 := hid hl1
  obtain ⟨pao, pcap, rfl, hp1, hp2, hpc⟩ := hl1
  have HPC := hid hpc
  have HB1 := hid hb1
  clear hb1 hpc
  unfold maxLen at hp2
  have HV2 := hid (box_at w1 (.cells #[.int .i64 seq, .slice pao ps.length pcap, .int .i64 sm] 209))
  have HB2 := hid (HB1.out.next (below_alloc w1 (.cells #[.int .i64 seq, .slice pao ps.length pcap, .int .i64 sm] 209)))
  have HL2 := hid (HL1.out.below (below_alloc w1 (.cells #[.int .i64 seq, .slice pao ps.length pcap, .int .i64 sm] 209)))
  have hz2 : (w1.alloc (.cells #[.int .i64 seq, .slice pao ps.length pcap, .int .i64 sm] 209)).heap.size = w1.heap.size + 1 := by simp
  obtain ⟨R, hR⟩ : ∃ R : Bool, R = (!(blocksB D) || ((crc (allD D) : Int) != (sm : Int))) := ⟨_, rfl⟩
  have HR := hid hR
  obtain ⟨bb, hbb⟩ : ∃ bb, bb = blocksB D := ⟨_, rfl⟩
  have HAB := hid (fun V w h => areBlocks_any V D w h)
  rw [← hbb] at HAB
  have HBBD := hid hbb
  clear hR hbb
  by_cases hcap : cap = 1
  all_goals go_upto_region 10 with fail
  all_goals
    obtain ⟨w2, hw2⟩ : ∃ w2, w2 = w1.alloc (.cells #[.int .i64 seq, .slice pao ps.length pcap, .int .i64 sm] 209) := ⟨_, rfl⟩
    rw [← hw2] at HV2 HB2 HL2 hz2 ⊢
    simp only [Nat.add_sub_cancel_left]
    clear hw2
    obtain ⟨q0, q1, q2⟩ := three_cells HV2.out
    have hv2 : w1.heap.size < w2.heap.size := by omega
    go_cut [45] (fun s wx => s = .bool R ∧ Below w2.heap.size w2 wx)
    case first =>
      cases bb with
      | false =>
        first
          | (go_region_with (first
              | (go_at_call 131; refine (HAB.out _ _ (by first | exact HA.out.below (HB2.out.next ⟨rfl, rfl, rfl, Nat.le_refl _, fun _ _ => rfl⟩) | exact (HBB.out (by assumption)).below (HB2.out.next ⟨rfl, rfl, rfl, Nat.le_refl _, fun _ _ => rfl⟩))).mono ?_; rintro e wa ⟨rfl, hw⟩; have hw := hw.symm; subst hw)))
          | fail
        all_goals
          go_wp2
          go_meet
          exact ⟨by rw [HR.out, ← HBBD.out]; rfl, ⟨rfl, rfl, rfl, Nat.le_refl _, fun _ _ => rfl⟩⟩
      | true =>
        have hall : (allD D).length ≤ 140737488355328 := by rw [allD_blocks HBBD.out.symm]; omega
        have HSM := hid (fun V w h => dsum_any V D w h hall (by omega))
        obtain ⟨c, hc⟩ : ∃ c, c = crc (allD D) := ⟨_, rfl⟩
        rw [← hc] at HSM HR
        clear hc hall
        cases hcb : ((c : Int) != (sm : Int))
        all_goals
          rw [hcb] at HR
          go_region_held3 (fun w' => w'.cell? ⟨w1.heap.size, 2, none⟩ = some (.int .i64 sm)) (first | exact q2 | exact hq | go_keep) (first
            | (go_at_call 131; refine (HAB.out _ _ (by first | exact HA.out.below (HB2.out.next ⟨rfl, rfl, rfl, Nat.le_refl _, fun _ _ => rfl⟩) | exact (HBB.out (by assumption)).below (HB2.out.next ⟨rfl, rfl, rfl, Nat.le_refl _, fun _ _ => rfl⟩))).mono ?_; rintro e wa ⟨rfl, hw⟩; have hw := hw.symm; subst hw)
            | (go_at_call 132; refine (HSM.out _ _ (by first | exact HA.out.below (HB2.out.next ⟨rfl, rfl, rfl, Nat.le_refl _, fun _ _ => rfl⟩) | exact (HBB.out (by assumption)).below (HB2.out.next ⟨rfl, rfl, rfl, Nat.le_refl _, fun _ _ => rfl⟩))).mono ?_; rintro e wb ⟨rfl, hbb⟩; have hq := (hbb.cell (p := ⟨w1.heap.size, 2, none⟩) hv2).trans q2))
          all_goals
            go_wp2
            go_meet
            exact ⟨by rw [HR.out, ← HBBD.out]; rfl, ⟨hbb.os, hbb.tape, hbb.output, hbb.size, hbb.block⟩⟩
    case rest =>
      obtain ⟨rfl, hbx⟩ := hcut
      rename World => wc
      have HBX := hid hbx
      have HV3 := hid ((hbx.block _ hv2).trans HV2.out)
      clear q0 q1 q2
      obtain ⟨q0, q1, q2⟩ := three_cells HV3.out
      have hv3 := lt_of_block HV3.out
      have HL3 := hid (HL2.out.below hbx)
      have HBW := hid (HB2.out.next hbx)
      clear hbx
      cases R with
      | true =>
        go_wp2
        refine bodyPost_ret (v := .tuple #[.int .i64 0, .slice none 0 0, .int .i64 0, .int .i64 4]) (by simp [results, Tryz.results101, go_sem]) rfl ⟨?_, HBW.out⟩
        have hno : ¬ (blocksB D = true ∧ crc (allD D) = sm) := by
          rintro ⟨k1, k2⟩
          have := HR.out
          rw [k1, k2] at this
          simp at this
        exact ⟨fun h => absurd h hno, fun _ => rfl⟩
      | false =>
        have HG : Hid (blocksB D = true ∧ crc (allD D) = sm) := by
          have := HR.out
          simp at this
          exact ⟨this.1, by omega⟩
        obtain ⟨cs, hmk, hmF⟩ := mkD ps.length (by omega)
        have HMF := hid hmF
        clear hmF
        have hmk1 := hmk wc
        have HF4 := hid (HMF.out wc (zipC ps D))
        have HB4 := hid (below_alloc wc (.cells cs 94))
        go_wp2
        clear hmk1 hmk
        obtain ⟨w4, hw4⟩ : ∃ w4, w4 = wc.alloc (.cells cs 94) := ⟨_, rfl⟩
        rw [← hw4] at HF4 HB4 ⊢
        clear hw4
        have hZl := zipC_len hDl
        have HPL := hid HL3.out
        go_loopw [51] (fun i wr => ∃ q : Nat, i = .int .i64 q ∧ q ≤ ps.length ∧ Fil wc.heap.size ps.length q wr (zipC ps D) ∧ Below wc.heap.size wc wr) (fun i _ => ps.length - (intOf i).toNat)
        case atStart => exact ⟨0, rfl, Nat.zero_le _, HF4.out, HB4.out⟩
        case round =>
          obtain ⟨q, rfl, hq, hFq, hBq⟩ := hrel
          have HFq := hid hFq
          have HBq := hid hBq
          have HVq := hid ((hBq.block _ hv3).trans HV3.out)
          clear hFq hBq q0 q1 q2
          obtain ⟨q0, q1, q2⟩ := three_cells HVq.out
          have hvq := lt_of_block HVq.out
          by_cases hqk : q < ps.length
          · first
            | (exfalso; omega)
            | (obtain ⟨pg, po, e, hpg, pc⟩ : ∃ pg po, pao = some ⟨pg, po, none⟩ ∧ pg < wc.heap.size ∧ wc.cell? ⟨pg, po + q, none⟩ = some (.int .i64 ps[q]) := by
                 obtain ⟨ao', cap', e, _, _, hc⟩ := HL3.out
                 obtain ⟨g', o', e', k1, k2⟩ := hc q hqk
                 injection e with e1 e2 e3
                 exact ⟨g', o', e1.trans e', k1, k2⟩
               subst e
               have dc : w.cell? ⟨gb, off + 1 + q, none⟩ = some (.string (D[q]'(by omega))) := by
                 obtain ⟨ao', cap', e, _, _, hc⟩ := HA.out
                 obtain ⟨g', o', e', k1, k2⟩ := hc q (by omega)
                 injection e with e1 e2 e3
                 have e4 := e1.trans e'
                 injection e4 with e5
                 injection e5 with e6 e7 e8
                 subst e6 e7
                 exact k2
               have hgc : gb < wc.heap.size := Nat.lt_of_lt_of_le hg HBW.out.size
               replace dc := (HBq.out.cell (p := ⟨gb, off + 1 + q, none⟩) hgc).trans ((HBW.out.cell (p := ⟨gb, off + 1 + q, none⟩) hg).trans dc)
               replace pc := (HBq.out.cell (p := ⟨pg, po + q, none⟩) hpg).trans pc
               have hgr : gb < wr.heap.size := Nat.lt_of_lt_of_le hgc HBq.out.size
               have hpr : pg < wr.heap.size := Nat.lt_of_lt_of_le hpg HBq.out.size
               obtain ⟨x0, hx0⟩ := HFq.out.get (q * 2) (by omega)
               obtain ⟨x1, hx1⟩ := HFq.out.get (q * 2 + 1) (by omega)
               have hf0 := HFq.out.free (q * 2)
               have hf1 := HFq.out.free (q * 2 + 1)
               have HS := hid (HFq.out.set hZl hqk)
               rw [zipC_get q (by omega) hqk (by omega)] at HS
               obtain ⟨p, hp⟩ : ∃ p, p = ps[q] := ⟨_, rfl⟩
               obtain ⟨d, hd⟩ : ∃ d, d = D[q]'(by omega) := ⟨_, rfl⟩
               rw [← hp] at pc HS
               rw [← hd] at dc HS
               clear hp hd
               have hwl : wc.heap.size < wr.heap.size := by
                 obtain ⟨cur, k, _⟩ := HFq.out
                 exact lt_of_block k
               go_wp2
               go_roundw
               case rel => exact ⟨q + 1, by go_num, by omega, HS.out, (HBq.out.setCell (Nat.le_refl _) _).setCell (Nat.le_refl _) _⟩
               case measure => simp [intOf]; omega)
          · have hqe : q = ps.length := by omega
            subst hqe
            have hwlt : wc.heap.size < wr.heap.size := by
              obtain ⟨cur, k, _⟩ := HFq.out
              exact lt_of_block k
            go_wp2
            refine bodyPost_ret (v := .tuple #[.int .i64 seq, .slice (some ⟨wc.heap.size, 0, none⟩) ps.length ps.length, .int .i64 (1 + (ps.length : Int)), .int .i64 0]) (by simp [results, Tryz.results101, go_sem]) rfl ⟨?_, HBW.out.next HBq.out⟩
            exact ⟨fun _ => ⟨_, rfl, HFq.out.lie hZl (by omega), fun x hx => by cases hx; exact ⟨HBW.out.size, hwlt⟩⟩, fun h => absurd HG.out h⟩
end Go.Proofs.YtopebghandojbaaGreat
