import Derived.Test.YtogiiefaakejlaaSp
namespace Go.Proofs.Ytogiiefaakejlaa
open Go.RowKit Go.Maps

/-- which numbers came, as a row of bools -/
def BFil (g C : Nat) (w : World) (L : List Ck) : Prop := ∃ cur : Array Value, w.heap[g]? = some (.cells cur 4 (0, 0)) ∧ cur.size = C ∧ ∀ q, q < C → cur[q]? = some (.bool (hasN L (q : Int)))
theorem BFil.lt {g C : Nat} {w : World} {L : List Ck} (h : BFil g C w L) : g < w.heap.size := by
  obtain ⟨cur, h1, _⟩ := h
  exact lt_of_block h1
theorem BFil.get {g C : Nat} {w : World} {L : List Ck} (h : BFil g C w L) (q : Nat) (hq : q < C) : w.cell? ⟨g, q, none⟩ = some (.bool (hasN L (q : Int))) := by
  obtain ⟨cur, h1, h2, h3⟩ := h
  simp [World.cell?, h1, h3 q hq]
theorem BFil.free {g C : Nat} {w : World} {L : List Ck} (h : BFil g C w L) (q : Nat) : w.frozen? ⟨g, q, none⟩ = false := by
  obtain ⟨cur, h1, _⟩ := h
  simp [World.frozen?, h1]
theorem BFil.same {g C : Nat} {w w' : World} {L : List Ck} (h : BFil g C w L) (k : w'.heap[g]? = w.heap[g]?) : BFil g C w' L := by
  obtain ⟨cur, h1, h2⟩ := h
  exact ⟨cur, k.trans h1, h2⟩
theorem BFil.cfr {g x C : Nat} {w w' : World} {L : List Ck} (h : BFil g C w L) (k : CFr x w w') (hx : g ≠ x) : BFil g C w' L := by
  refine h.same (k.block g h.lt hx (fun es c => ?_))
  obtain ⟨cur, h1, _⟩ := h
  rw [h1]
  simp
theorem hasN_snoc (L : List Ck) (c : Ck) (n : Int) : hasN (L ++ [c]) n = (hasN L n || c.num == n) := by
  unfold hasN
  rw [List.any_append]
  simp
theorem BFil.set {g C : Nat} {w : World} {L : List Ck} (h : BFil g C w L) (c : Ck) (q : Nat) (hq : q < C) (hc : c.num = (q : Int)) : BFil g C (w.setCell ⟨g, q, none⟩ (.bool true)) (L ++ [c]) := by
  obtain ⟨cur, h1, h2, h3⟩ := h
  refine ⟨_, cells_set h1 _, by simp [h2], fun i hi => ?_⟩
  rw [Array.set!_eq_setIfInBounds, hasN_snoc, hc]
  by_cases e : i = q
  · subst e
    rw [Array.getElem?_setIfInBounds_self_of_lt (by omega)]
    simp
  · rw [Array.getElem?_setIfInBounds_ne (by omega), h3 i hi]
    have : ((q : Int) == (i : Int)) = false := by simp; omega
    rw [this, Bool.or_false]
theorem Try.infoB4 : (Try.prog.info? 4).map (fun i => (i.zero, i.size, i.bytes)) = some (some (.bool false), 1, 1) := by kernel_rfl
theorem mkB (n : Nat) (hn : n ≤ 1000) : ∃ cs, (∀ w : World, (Instr.makeSlice 56 (.int .i64 (n : Int)) (.int .i64 (n : Int))).run Try.prog w = .ok (.slice (some ⟨w.heap.size, 0, none⟩) n n) (w.alloc (.cells cs 4))) ∧ ∀ (w : World), BFil w.heap.size n (w.alloc (.cells cs 4)) [] := by
  obtain ⟨i0, hi, hz0, hz1, hz2⟩ := info_parts Try.infoB4
  refine ⟨madeCells (Value.bool false).cells n, fun w => ?_, fun w => ⟨_, box_at _ _, by simp [size_madeCells], fun q hq => ?_⟩⟩
  · have := run_makeSlice (P := Try.prog) w 56 4 i0 (.bool false) Try.underlying56 hi hz0 .i64 .i64 (n : Int) (n : Int) (by omega) (by omega) (by rw [hz1]; omega) (by rw [hz2]; omega) (by omega)
    have e1 : (n : Int).toNat = n := by omega
    rw [e1, hz1, Nat.mul_one] at this
    exact this
  · simp [madeCells, Value.cells, hq, hasN]
    rw [Nat.mod_one]
    rfl
theorem BFil.congr {g C : Nat} {w : World} {L L' : List Ck} (h : BFil g C w L) (k : ∀ q : Nat, q < C → hasN L' (q : Int) = hasN L (q : Int)) : BFil g C w L' := by
  obtain ⟨cur, h1, h2, h3⟩ := h
  exact ⟨cur, h1, h2, fun q hq => by rw [k q hq]; exact h3 q hq⟩
/-- one that came again, or anew -/
theorem of_step {l : List ByteArray} {L : List Ck} (hs : Snap l) (h : Of l L) {i : Nat} (hi : i * 8 < l.length) : (addL L (chunkL l i)).length = (if hasN L (i : Int) then L.length else L.length + 1) ∧ addL L (chunkL l i) ≠ [] ∧ ∀ n, hasN (addL L (chunkL l i)) n = (hasN L n || n == (i : Int)) := by
  rw [(h.add hs hi).2.2]
  cases hh : hasN L (i : Int) with
  | true =>
    refine ⟨by simp, ?_, fun n => ?_⟩
    · simp only [if_true]
      intro e
      rw [e] at hh
      cases hh
    · simp only [if_true]
      by_cases e : n = (i : Int)
      · subst e; rw [hh]; rfl
      · have : (n == (i : Int)) = false := by simpa using e
        rw [this, Bool.or_false]
  | false =>
    refine ⟨by simp, by simp, fun n => ?_⟩
    simp only [Bool.false_eq_true, if_false]
    rw [hasN_snoc]
    have : ((chunkL l i).num == n) = (n == (i : Int)) := by
      show ((i : Int) == n) = _
      rw [Bool.eq_iff_iff]; simp; omega
    rw [this]
set_option maxRecDepth 100000 in
set_option maxHeartbeats 4000000 in
theorem whole_walk {W : World} {v u : Value} {l : List ByteArray} {o : List Int} (hS : SLie W v l) (hI : ILie W u o) : Calls Try.prog 5 #[v, u] W fun e w' => e = .returned (.bool true) ∧ Below W.heap.size W w' := by
  have HSP := hid speaks_any
  have H := hid hS
  obtain ⟨ao, cap, rfl, hlc, hcm, _⟩ := hS
  obtain ⟨io, icap, rfl, hic, him, hicell⟩ := hI
  have HIC := hid hicell
  unfold maxLen at hcm him
  obtain ⟨n, hn⟩ : ∃ n, n = l.length := ⟨_, rfl⟩
  obtain ⟨lo, hlo⟩ : ∃ lo, lo = o.length := ⟨_, rfl⟩
  rw [← hn] at hlc H ⊢
  rw [← hlo] at hic ⊢
  have HN := hid hn
  have HLO := hid hlo
  clear hicell hn hlo
  by_cases hbig : n > 1100
  · have hd : decide ((n : Int) > 1100) = true := by simp; omega
    go_enter Try.func5, Try.ntmps5
    go_wp2_with (go_at_call 8; refine (HSP.out _).mono ?_; rintro e w6 ⟨rfl, hb6⟩; have HB6 := hid hb6; clear hb6)
    go_ret
    exact ⟨rfl, HB6.out⟩
  have hd1 : decide ((n : Int) > 1100) = false := by simp; omega
  by_cases hbig2 : lo > 300
  · have hd : decide ((lo : Int) > 300) = true := by simp; omega
    go_enter Try.func5, Try.ntmps5
    go_wp2_with (go_at_call 8; refine (HSP.out _).mono ?_; rintro e w6 ⟨rfl, hb6⟩; have HB6 := hid hb6; clear hb6)
    go_ret
    exact ⟨rfl, HB6.out⟩
  have hd2 : decide ((lo : Int) > 300) = false := by simp; omega
  by_cases hE : splE l = 0
  · have hs := snap_of hE
    have HSS := hid hs
    have HSPL := hid (fun (w' : World) (h : SLie w' (.slice ao n cap) l) => split_any h)
    rw [hs.e, hs.k] at HSPL
    obtain ⟨C, hC⟩ : ∃ C, C = (n + 7) / 8 := ⟨_, rfl⟩
    have hLL : (splitL l).length = C := by rw [splitL_len, hC, HN.out]
    have HLL := hid hLL
    have HCC := hid hC
    have hCb : 1 ≤ C ∧ C ≤ 128 := by have := hs.lo; have := hs.hi; have := HN.out; omega
    obtain ⟨cs, hmk, hfil⟩ := mkB C (by omega)
    have HFIL := hid hfil
    clear hE hs hLL hC hfil
    go_enter Try.func5, Try.ntmps5
    go_wp2_with (go_at_call 9; fail)
    refine (HSPL.out _ H.out).mono ?_
    rintro e w1 ⟨kv, rfl, hk1, hb1⟩
    have HB1 := hid hb1
    have HKL := hid hk1
    obtain ⟨ko, kc, rfl, hk1, hk2, hkc⟩ := hk1
    have HKC := hid hkc
    unfold maxLen at hk2
    rw [HLL.out] at hk1 ⊢
    clear hkc hb1
    go_wp2_with (go_at_call 14; fail)
    refine (new_any _).mono ?_
    rintro e w2 ⟨rfl, hw2⟩
    have HC2 := hid (CI.new w1.heap.size w1 (Nat.le_refl _))
    have HB2 : Hid (Below w1.heap.size w1 w2) := by show Below _ _ _; rw [hw2]; exact below_alloc _ _
    rw [← hw2] at HC2
    clear hw2
    obtain ⟨g, hg⟩ : ∃ g, g = w1.heap.size := ⟨_, rfl⟩
    have HG := hid hg
    rw [← hg] at HC2 HB2 ⊢
    have hWg : W.heap.size ≤ g := by rw [hg]; exact HB1.out.size
    have hg2 : g < w2.heap.size := HC2.out.lt
    clear hg
    have hmk2 := hmk w2
    obtain ⟨w3, hw3⟩ : ∃ w3, w3 = w2.alloc (.cells cs 4) := ⟨_, rfl⟩
    have HF3 := hid (HFIL.out w2)
    have HB3 : Hid (Below w2.heap.size w2 w3) := by show Below _ _ _; rw [hw3]; exact below_alloc _ _
    rw [← hw3] at hmk2 HF3
    clear hw3 hmk
    obtain ⟨gc, hgc⟩ : ∃ gc, gc = w2.heap.size := ⟨_, rfl⟩
    rw [← hgc] at hmk2 HF3
    have hgcg : gc ≠ g := by omega
    have hggc : g ≤ gc := by omega
    have HC3 := hid (HC2.out.below HB3.out)
    have HB13 : Hid (Below g w1 w3) := HB2.out.trans (HB3.out.mono (by omega))
    clear hgc
    go_wp2
    go_loopw [9, 10] (fun sn si wr => ∃ (a : Nat) (L : List Ck), a ≤ lo + C ∧ si = .int .i64 a ∧ sn = .int .i64 (L.length : Int) ∧ Hid (Of l L) ∧ Hid (CI g g wr L) ∧ Hid (BFil gc C wr L) ∧ Hid (Below g w1 wr) ∧ Hid (∀ q : Nat, q + lo < a → hasN L (q : Int) = true)) (fun _ i _ => lo + C - (intOf i).toNat)
    case atStart => exact ⟨0, [], Nat.zero_le _, rfl, rfl, Of.nil _, HC3, HF3, HB13, fun q h => by omega⟩
    case round =>
      obtain ⟨a, L, ha, rfl, rfl, HO, HCI, HBF, HBR, HALL⟩ := hrel
      rename World => wr
      clear hmk2
      have hLb : L.length ≤ 128 := HCI.out.ok.len
      by_cases hlt : a < lo + C
      · go_upto_if 60 with fail
        go_cut [11] (fun s wx => wx = wr ∧ ∃ k : Int, s = .int .i64 k ∧ Hid (lo ≤ a → k = (a : Int) - lo))
        case first =>
          by_cases hal : a < lo
          · obtain ⟨ig, ioff, e, hig, ic⟩ := HIC.out a (by rw [← HLO.out]; exact hal)
            subst e
            obtain ⟨x, hx⟩ : ∃ x, x = o[a]'(by rw [← HLO.out]; exact hal) := ⟨_, rfl⟩
            rw [← hx] at ic
            clear hx
            have ic2 : wr.cell? ⟨ig, ioff + a, none⟩ = some (.int .i64 x) := by
              rw [HBR.out.cell (p := ⟨ig, ioff + a, none⟩) (by show ig < g; omega), HB1.out.cell (p := ⟨ig, ioff + a, none⟩) hig]
              exact ic
            go_wp2
            go_meet
            exact ⟨rfl, x, rfl, fun q => by omega⟩
          · go_wp2
            go_meet
            exact ⟨rfl, (a : Int) - lo, rfl, fun _ => rfl⟩
        case rest =>
          obtain ⟨hwx, k, rfl, HKV⟩ := hcut
          subst hwx
          rename World => wr
          by_cases hk : 0 ≤ k ∧ k < C
          · obtain ⟨kk, rfl⟩ : ∃ kk : Nat, k = (kk : Int) := ⟨k.toNat, by omega⟩
            have hd3 : decide ((kk : Int) < 0) = false := by simp
            have hd4 : decide ((kk : Int) ≥ (C : Int)) = false := by simp; omega
            have hkC : kk < C := by omega
            have hk8 : kk * 8 < l.length := by rw [← HN.out]; have := HCC.out; omega
            obtain ⟨gb, off, e, hgb, ck⟩ := HKC.out kk (by rw [HLL.out]; exact hkC)
            subst e
            rw [splitL_get] at ck
            have hadd := HO.out.add HSS.out hk8
            have hst := of_step HSS.out HO.out hk8
            have HOF2 := hid (HO.out.addL HSS.out hk8)
            have hsz : (chunkL l kk).dat.size ≤ maxLen := by show (st _).size ≤ _; rw [st_size, allD_blocks (part_blocks HSS.out.bl kk), part_len]; unfold maxLen; omega
            have HADD := hid (add_any HCI.out (chunkL l kk) hsz (fit_crc _) (Nat.le_of_lt (HCI.out.lt)))
            have hnum : (chunkL l kk).num = (kk : Int) := rfl
            obtain ⟨y, hy⟩ : ∃ y, y = chunkL l kk := ⟨_, rfl⟩
            rw [← hy] at ck hadd hst HOF2 HADD hnum
            obtain ⟨L', hL'⟩ : ∃ L', L' = addL L y := ⟨_, rfl⟩
            unfold AddR at HADD
            rw [hadd.1, hadd.2.1] at HADD
            rw [← hL'] at hst HOF2 HADD
            have hadd3 := hadd.2.2
            rw [← hL'] at hadd3
            have HA3 := hid hadd3
            have HST := hid hst
            obtain ⟨h, hh⟩ : ∃ h, h = hasN L (kk : Int) := ⟨_, rfl⟩
            have HH := hid hh
            rw [← hh] at HADD
            have HNUM := hid hnum
            have hcl : ∀ q, q < 5 → wr.cell? ⟨gb, off + kk * 5 + q, none⟩ = (Ck.cs y)[q]? := fun q hq => (HBR.out.cell (p := ⟨gb, off + kk * 5 + q, none⟩) (by show gb < g; rw [HG.out]; exact hgb)).trans (ck q hq)
            have a0 : wr.cell? ⟨gb, off + kk * 5, none⟩ = some (.int .i64 y.dg) := hcl 0 (by omega)
            have a1 : wr.cell? ⟨gb, off + kk * 5 + 1, none⟩ = some (.int .i64 y.tot) := hcl 1 (by omega)
            have a2 : wr.cell? ⟨gb, off + kk * 5 + 2, none⟩ = some (.int .i64 y.num) := hcl 2 (by omega)
            have a3 : wr.cell? ⟨gb, off + kk * 5 + 3, none⟩ = some (.string y.dat) := hcl 3 (by omega)
            have a4 : wr.cell? ⟨gb, off + kk * 5 + 4, none⟩ = some (.int .i64 y.sm) := hcl 4 (by omega)
            clear ck hadd hst hsz hnum hy hL' hadd3 hh hcl
            go_wp2_with (go_at_call 15; fail)
            refine HADD.out.mono ?_
            rintro e w4 ⟨rfl, hc4, hb4, hf4⟩
            have HC4 := hid hc4
            have HB4 := hid (HBR.out.trans hb4)
            have HF4 := hid (HBF.out.cfr hf4 hgcg)
            have f4 := HF4.out.free kk
            have cc := HF4.out.get kk hkC
            rw [← HH.out] at cc
            clear hc4 hb4 hf4 a0 a1 a2 a3 a4
            have eh : ((!h) == h) = false := by cases h <;> rfl
            cases h
            all_goals
              go_upto_if 96 with fail
              go_cut [9] (fun s wx => s = .int .i64 (L'.length : Int) ∧ BFil gc C wx L' ∧ CI g g wx L' ∧ Below g w1 wx)
              case first =>
                go_wp2
                go_meet
                first
                  | (refine ⟨by rw [HST.out.1, ← HH.out]; simp, ?_, ?_, ?_⟩
                     · rw [HA3.out, ← HH.out]
                       exact HF4.out.set y kk hkC HNUM.out
                     · refine HC4.out.same fun x hx hm => Below.heap_setCell _ _ _ _ ?_
                       rcases hm with hm | ⟨es, cl, hm⟩
                       · show x ≠ gc
                         omega
                       · intro e
                         obtain ⟨cur, hcur, _⟩ := HF4.out
                         rw [show x = gc from e, hcur] at hm
                         cases hm
                     · exact HB4.out.setCell (p := ⟨gc, kk, none⟩) hggc _)
                  | (refine ⟨by rw [HST.out.1, ← HH.out]; simp, ?_, HC4.out, HB4.out⟩
                     refine HF4.out.congr fun q hq => ?_
                     rw [HST.out.2.2]
                     by_cases e : q = kk
                     · subst e; rw [← HH.out]; rfl
                     · have : ((q : Int) == (kk : Int)) = false := by simp; omega
                       rw [this, Bool.or_false])
              case rest =>
                obtain ⟨rfl, hbf5, hci5, hbw5⟩ := hcut
                rename World => w5
                have HF5 := hid hbf5
                have HC5 := hid hci5
                have HB5 := hid hbw5
                have hne : L' ≠ [] := HST.out.2.1
                have hct := (HOF2.out.tot hne).2.2
                rw [← HN.out, ← HCC.out] at hct
                have hml := miss_len hci5.ok hne
                rw [hct] at hml
                have hlc2 := hci5.ok.len_cnt
                rw [hct] at hlc2
                have HML := hid hml
                have HALL2 : Hid (∀ q : Nat, q + lo < a + 1 → hasN L' (q : Int) = true) := by
                  intro q hq
                  rw [HST.out.2.2]
                  by_cases e : q + lo < a
                  · rw [HALL.out q e]; rfl
                  · have e2 := HKV.out (by omega)
                    have e3 : q = kk := by omega
                    subst e3
                    simp
                have HMI := hid (fun (w' : World) (h : CI g g w' L') => miss_any h)
                have HBL := hid (blocks_any hci5)
                clear hbf5 hci5 hbw5 hct hml HC4 HB4 HF4 f4 cc eh HA3 HADD HALL
                by_cases hm : L'.length = C
                · have hw := HOF2.out.whole HSS.out HC5.out.ok (by rw [hm, ← HN.out, HCC.out])
                  rw [hw.1, hw.2] at HBL
                  have HM := hid hm
                  rw [hm] at HML ⊢
                  clear hw hm hlc2
                  go_wp2_with (go_at_call 17; fail)
                  refine HBL.out.mono ?_
                  rintro e w6 ⟨bv, rfl, hs6, hb6⟩
                  have HB6 := hid (HB5.out.trans (hb6.mono (by have := HC5.out.lt; omega)))
                  have HC6 := hid (HC5.out.below hb6)
                  have HF6 := hid (HF5.out.same (hb6.block gc HF5.out.lt))
                  have HT := hid (texts_same hs6 ((H.out.below HB1.out).below (by rw [← HG.out]; exact HB6.out)))
                  clear hs6 hb6
                  go_wp2_with (go_at_call 22; fail)
                  refine HT.out.mono ?_
                  rintro e w7 ⟨rfl, hb7⟩
                  have HB7 := hid (HB6.out.trans (hb7.mono (by have := HC6.out.lt; omega)))
                  have HC7 := hid (HC6.out.below hb7)
                  have HF7 := hid (HF6.out.same (hb7.block gc HF6.out.lt))
                  clear hb7
                  go_wp2_with (go_at_call 20; fail)
                  refine (HMI.out _ HC7.out).mono ?_
                  rintro e w8 ⟨mv, rfl, hi8, hb8⟩
                  obtain ⟨mo, mc, rfl, m1, m2⟩ := hi8.len
                  rw [HML.out] at m1 ⊢
                  unfold maxLen at m2
                  have HB8 := hid (HB7.out.trans (hb8.mono (by have := HC7.out.lt; omega)))
                  have HC8 := hid (HC7.out.below hb8)
                  have HF8 := hid (HF7.out.same (hb8.block gc HF7.out.lt))
                  clear hi8 hb8
                  go_wp2
                  go_roundw
                  case rel => exact ⟨a + 1, L', by omega, by simp, by rw [HM.out], HOF2, HC8, HF8, HB8, HALL2⟩
                  case measure => simp [intOf]; omega
                · have hw := HOF2.out.part (by rw [← HN.out, ← HCC.out]; omega)
                  rw [hw] at HBL
                  obtain ⟨m, hmm⟩ : ∃ m, m = L'.length := ⟨_, rfl⟩
                  have HM := hid hmm
                  rw [← hmm] at hm hlc2 HML ⊢
                  have em : ((m : Int) == (C : Int)) = false := by simp; omega
                  clear hw hmm
                  go_wp2_with (go_at_call 17; fail)
                  refine HBL.out.mono ?_
                  rintro e w6 ⟨bv, rfl, hs6, hb6⟩
                  have HB6 := hid (HB5.out.trans (hb6.mono (by have := HC5.out.lt; omega)))
                  have HC6 := hid (HC5.out.below hb6)
                  have HF6 := hid (HF5.out.same (hb6.block gc HF5.out.lt))
                  clear hs6 hb6
                  go_wp2_with (go_at_call 20; fail)
                  refine (HMI.out _ HC6.out).mono ?_
                  rintro e w8 ⟨mv, rfl, hi8, hb8⟩
                  obtain ⟨mo, mc, rfl, m1, m2⟩ := hi8.len
                  rw [HML.out] at m1 ⊢
                  unfold maxLen at m2
                  have HB8 := hid (HB6.out.trans (hb8.mono (by have := HC6.out.lt; omega)))
                  have HC8 := hid (HC6.out.below hb8)
                  have HF8 := hid (HF6.out.same (hb8.block gc HF6.out.lt))
                  have esub : (((C - m : Nat) : Int) != (C : Int) - (m : Int)) = false := by simp; omega
                  clear hi8 hb8
                  go_wp2
                  go_roundw
                  case rel => exact ⟨a + 1, L', by omega, by simp, by rw [HM.out], HOF2, HC8, HF8, HB8, HALL2⟩
                  case measure => simp [intOf]; omega
          · have HALL2 : Hid (∀ q : Nat, q + lo < a + 1 → hasN L (q : Int) = true) := by
              intro q hq
              by_cases e : q + lo < a
              · exact HALL.out q e
              · have e2 := HKV.out (by omega)
                omega
            by_cases hk0 : k < 0
            · have hd3 : decide (k < 0) = true := by simpa using hk0
              go_wp2
              go_roundw
              case rel => exact ⟨a + 1, L, by omega, by simp, rfl, HO, HCI, HBF, HBR, HALL2⟩
              case measure => simp [intOf]; omega
            · have hd3 : decide (k < 0) = false := by simpa using hk0
              have hd4 : decide (k ≥ (C : Int)) = true := by simp; omega
              go_wp2
              go_roundw
              case rel => exact ⟨a + 1, L, by omega, by simp, rfl, HO, HCI, HBF, HBR, HALL2⟩
              case measure => simp [intOf]; omega
      · have haT : a = lo + C := by omega
        have hfull : L.length = C := by
          have h1 : ∀ q : Nat, q < C → hasN L (q : Int) = true := fun q hq => HALL.out q (by omega)
          have hne : L ≠ [] := by
            intro e
            have := h1 0 (by omega)
            rw [e] at this
            cases this
          have hct := (HO.out.tot hne).2.2
          rw [← HN.out, ← HCC.out] at hct
          have h2 := miss_len HCI.out.ok hne
          have h3 : missL L = [] := by
            unfold missL
            rw [if_neg hne, hct]
            unfold missTo
            rw [List.filter_eq_nil_iff]
            intro x hx
            obtain ⟨i, hi, rfl⟩ := List.mem_map.1 hx
            rw [h1 i (List.mem_range.1 hi)]
            simp
          rw [h3, hct] at h2
          have h4 := HCI.out.ok.len_cnt
          rw [hct] at h4
          simp at h2
          omega
        have hw := HO.out.whole HSS.out HCI.out.ok (by rw [hfull, ← HN.out, HCC.out])
        have HBL := hid (blocks_any HCI.out)
        rw [hw.1, hw.2] at HBL
        clear hw hfull haT
        go_wp2_with (go_at_call 17; fail)
        refine HBL.out.mono ?_
        rintro e w6 ⟨bv, rfl, hs6, hb6⟩
        have HB6 := hid (HBR.out.trans (hb6.mono (by have := HCI.out.lt; omega)))
        have HT := hid (texts_same hs6 ((H.out.below HB1.out).below (by rw [← HG.out]; exact HB6.out)))
        have hs61 : g ≤ w6.heap.size := by have := HCI.out.lt; have := hb6.size; omega
        clear hs6 hb6
        go_wp2_with (go_at_call 22; fail)
        refine HT.out.mono ?_
        rintro e w7 ⟨rfl, hb7⟩
        have HB7 := hid (HB6.out.trans (hb7.mono hs61))
        have hs71 : W.heap.size ≤ w7.heap.size := by have := hb7.size; omega
        clear hb7
        go_wp2_with (go_at_call 8; refine (HSP.out _).mono ?_; rintro e w8 ⟨rfl, hb8⟩; have HB8 := hid (HB1.out.trans ((HB7.out.mono hWg).trans (hb8.mono hs71))); clear hb8)
        go_ret
        exact ⟨rfl, HB8.out⟩
  · have HSPL := hid (fun (w' : World) (h : SLie w' (.slice ao n cap) l) => split_any h)
    have hk : splK l = [] := by
      unfold splK
      split
      · rename_i hh
        exact absurd (by unfold splE; rw [if_pos ⟨hh.1, hh.2.1⟩, hh.2.2]; rfl) hE
      · rfl
    rw [hk] at HSPL
    obtain ⟨E, hEE⟩ : ∃ E, E = splE l := ⟨_, rfl⟩
    rw [← hEE] at HSPL hE
    have hd3 : (E != 0) = true := by simpa using hE
    clear hEE hk
    go_enter Try.func5, Try.ntmps5
    go_wp2_with (go_at_call 9; fail)
    refine (HSPL.out _ H.out).mono ?_
    rintro e w1 ⟨kv, rfl, hk1, hb1⟩
    have HB1 := hid hb1
    obtain ⟨ko, kc, rfl, hk1, hk2, hkc⟩ := hk1
    unfold maxLen at hk2
    rw [List.length_nil] at hk1 ⊢
    clear hkc hb1
    go_wp2_with (go_at_call 8; refine (HSP.out _).mono ?_; rintro e w8 ⟨rfl, hb8⟩; have HB8 := hid (HB1.out.next hb8); clear hb8)
    go_ret
    exact ⟨rfl, HB8.out⟩
end Go.Proofs.Ytogiiefaakejlaa
