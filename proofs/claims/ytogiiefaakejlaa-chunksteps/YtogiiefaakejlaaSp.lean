import Derived.Test.YtogiiefaakejlaaWa
import Derived.Test.YtogiiefaakejlaaCr
import Derived.Test.YtogiiefaakejlaaBy
namespace Go.Proofs.Ytogiiefaakejlaa
open Go.RowKit Go.Maps

theorem IRow.cell {base : Nat} {w : World} {v : Value} {l : List Int} (h : IRow base w v l) : ∃ ao cap, v = .slice ao l.length cap ∧ l.length ≤ cap ∧ cap ≤ maxLen ∧ ∀ i (hi : i < l.length), ∃ gb, ao = some ⟨gb, 0, none⟩ ∧ w.cell? ⟨gb, i, none⟩ = some (.int .i64 l[i]) := by
  rcases h.2 with ⟨rfl, hz⟩ | ⟨gb, cap, cur, rfl, hbase, hgb, r1, r2, r3, r4⟩
  · have : l = [] := List.eq_nil_of_length_eq_zero hz
    subst this
    exact ⟨none, 0, rfl, Nat.le_refl _, by decide, fun i hi => by simp at hi⟩
  · refine ⟨_, cap, rfl, r1, r2, fun i hi => ⟨gb, rfl, ?_⟩⟩
    have e1 : cur.toList[i]? = (l.map (Value.int .i64))[i]? := by rw [← r4, List.getElem?_take_of_lt (by omega)]
    rw [Array.getElem?_toList, List.getElem?_map, List.getElem?_eq_getElem hi] at e1
    simp [World.cell?, hgb, e1]
set_option maxRecDepth 100000 in
/-- two lists of the same numbers -/
theorem ints_same {b1 b2 : Nat} {w : World} {v u : Value} {l : List Int} (h : IRow b1 w v l) (k : IRow b2 w u l) : Calls Try.prog 19 #[v, u] w fun e w' => e = .returned (.bool true) ∧ ∃ q, w' = w.drewN q := by
  obtain ⟨ao, cap, rfl, hlc, hcm, hcell⟩ := h.cell
  obtain ⟨bo, cap2, rfl, hlc2, hcm2, hcell2⟩ := k.cell
  unfold maxLen at hcm hcm2
  have HC := hid hcell
  have HC2 := hid hcell2
  clear hcell hcell2 h k
  go_enter Try.func19, Try.ntmps19
  go_wp2
  go_loopw [13] (fun i wr => ∃ (j q : Nat), i = .int .i64 j ∧ j ≤ l.length ∧ wr = w.drewN q) (fun i _ => l.length - (intOf i).toNat)
  case atStart => exact ⟨0, 0, rfl, Nat.zero_le _, rfl⟩
  case round =>
    obtain ⟨j, q, rfl, hj, rfl⟩ := hrel
    by_cases hlt : j < l.length
    · obtain ⟨gb, rfl, c1⟩ := HC.out j hlt
      obtain ⟨gc, rfl, c2⟩ := HC2.out j hlt
      obtain ⟨x, hx⟩ : ∃ x, x = l[j] := ⟨_, rfl⟩
      rw [← hx] at c1 c2
      clear hx
      go_wp2
      go_quiet (fail)
      go_wp2
      go_roundw
      case rel => exact ⟨j + 1, _, by go_num, by omega, rfl⟩
      case measure => simp [intOf]; omega
    · go_wp2
      go_ret
      exact ⟨rfl, q, rfl⟩
set_option maxRecDepth 100000 in
set_option maxHeartbeats 1000000 in
theorem texts_same {w : World} {v u : Value} {l : List ByteArray} (h : SLie w v l) (k : SLie w u l) : Calls Try.prog 22 #[v, u] w fun e w' => e = .returned (.bool true) ∧ Below w.heap.size w w' := by
  obtain ⟨ao, cap, rfl, h1, h2, h3⟩ := h
  obtain ⟨bo, cap', rfl, k1, k2, k3⟩ := k
  replace h3 := hid h3
  replace k3 := hid k3
  obtain ⟨n, hn⟩ : ∃ n, n = l.length := ⟨_, rfl⟩
  rw [← hn] at h1 k1 ⊢
  have hm : n ≤ 9223372036854775807 := by unfold maxLen at h2; omega
  replace hn := hid hn
  clear h1 k1 h2 k2
  go_enter Try.func22, Try.ntmps22
  go_wp2
  go_loopw [13] (fun i wr => ∃ j : Nat, j ≤ n ∧ i = .int .i64 j ∧ Hid (Below w.heap.size w wr)) (fun i _ => n - (intOf i).toNat)
  case atStart => exact ⟨0, Nat.zero_le _, rfl, hid (Below.refl _ _)⟩
  case round =>
    obtain ⟨j, hj, rfl, HB⟩ := hrel
    by_cases hlt : j < n
    · have hj' : j < l.length := by rw [← hn.out]; exact hlt
      obtain ⟨ga, oa, ea, hga, ca⟩ := h3.out j hj'
      obtain ⟨gc, oc, ec, hgc, cc⟩ := k3.out j hj'
      subst ea ec
      obtain ⟨x, hx⟩ : ∃ x, x = l[j]'hj' := ⟨_, rfl⟩
      rw [← hx] at ca cc
      rw [← HB.out.cell (p := ⟨ga, oa + j, none⟩) hga] at ca
      rw [← HB.out.cell (p := ⟨gc, oc + j, none⟩) hgc] at cc
      clear hx hj'
      go_wp2
      go_quiet (fail)
      go_wp2
      go_roundw
      case rel => exact ⟨j + 1, hlt, by simp, hid (HB.out.dN _)⟩
      case measure => simp [intOf]; omega
    · go_wp2
      go_ret
      exact ⟨rfl, HB.out⟩
/-- a row of numbers stays where only a collector changes -/
theorem IRow.cfr {base g : Nat} {w w' : World} {v : Value} {l : List Int} (h : IRow base w v l) (k : CFr g w w') (hg : ∀ x, v.ownBlock = some x → x ≠ g) : IRow base w' v l := by
  refine h.same fun x hx => ?_
  obtain ⟨hb, cur, hc⟩ := h.own x hx
  exact k.block x (lt_of_block hc) (hg x hx) (fun es c => by rw [hc]; simp)
def Zb : ByteArray := st (List.replicate 128 0)
theorem Zb_size : Zb.size = 128 := by unfold Zb; rw [st_size]; simp
def l10 : List ByteArray := List.replicate 10 Zb
theorem snap10 : Snap l10 := ⟨by simp [l10], by simp [l10], by simp [l10, blocksB, Zb_size]⟩
theorem len10 : l10.length = 10 := by simp [l10]
theorem klie_at {w : World} {v : Value} {l : List Ck} (h : KLie w v l) (i : Nat) (hi : i < l.length) : ∃ gb off cap, v = .slice (some ⟨gb, off, none⟩) l.length cap ∧ l.length ≤ cap ∧ cap ≤ maxLen ∧ gb < w.heap.size ∧ w.cell? ⟨gb, off + i * 5, none⟩ = some (.int .i64 l[i].dg) ∧ w.cell? ⟨gb, off + i * 5 + 1, none⟩ = some (.int .i64 l[i].tot) ∧ w.cell? ⟨gb, off + i * 5 + 2, none⟩ = some (.int .i64 l[i].num) ∧ w.cell? ⟨gb, off + i * 5 + 3, none⟩ = some (.string l[i].dat) ∧ w.cell? ⟨gb, off + i * 5 + 4, none⟩ = some (.int .i64 l[i].sm) := by
  obtain ⟨ao, cap, e, h1, h2, h3⟩ := h
  obtain ⟨gb, off, rfl, hg, hc⟩ := h3 i hi
  exact ⟨gb, off, cap, e, h1, h2, hg, hc 0 (by omega), hc 1 (by omega), hc 2 (by omega), hc 3 (by omega), hc 4 (by omega)⟩
set_option maxRecDepth 100000 in
set_option maxHeartbeats 4000000 in
theorem speaks_any (w : World) : Calls Try.prog 8 #[] w fun e w' => e = .returned (.bool true) ∧ Below w.heap.size w w' := by
  have hmk := mk128
  have HSP := hid (fun (w' : World) (v : Value) (h : SLie w' v l10) => split_any h)
  rw [snap10.e, snap10.k] at HSP
  have HL2 : Hid ((splitL l10).length = 2) := by show _ = _; rw [splitL_len, len10]
  have HK0 : Hid ((splitL l10)[0]'(by rw [HL2.out]; decide) = chunkL l10 0) := splitL_get _ _ _
  have HK1 : Hid ((splitL l10)[1]'(by rw [HL2.out]; decide) = chunkL l10 1) := splitL_get _ _ _
  have ha1 := Of.add snap10 (Of.nil l10) (i := 1) (by rw [len10]; decide)
  have hh0 : hasN [] ((1 : Nat) : Int) = false := rfl
  rw [hh0] at ha1
  have ho1 : Of l10 [chunkL l10 1] := (Of.nil l10).snoc (by rw [len10]; decide)
  have ha0 := Of.add snap10 ho1 (i := 0) (by rw [len10]; decide)
  have hh1 : hasN [chunkL l10 1] ((0 : Nat) : Int) = false := rfl
  rw [hh1] at ha0
  have ho0 : Of l10 [chunkL l10 1, chunkL l10 0] := ho1.snoc (by rw [len10]; decide)
  have hcn : cntN [chunkL l10 1] = 2 := by rw [(ho1.tot (by simp)).2.2, len10]
  have hmi : missL [chunkL l10 1] = [0] := by
    unfold missL
    rw [if_neg (by simp), hcn]
    rfl
  have hb7 : blkE [chunkL l10 1] = 7 := ho1.part (by rw [len10]; decide)
  have hsz : ∀ i, (chunkL l10 i).dat.size ≤ maxLen := fun i => by show (st _).size ≤ _; rw [st_size, allD_blocks (part_blocks snap10.bl i), part_len]; unfold maxLen; omega
  have HA1 : Hid (∀ (b g : Nat) (w' : World), CI b g w' [] → b ≤ w'.heap.size → Calls Try.prog 15 #[.pointer (some ⟨g, 0, none⟩), (chunkL l10 1).v] w' fun e w'' => e = .returned (.tuple #[.bool true, .int .i64 0]) ∧ CI b g w'' [chunkL l10 1] ∧ Below b w' w'' ∧ CFr g w' w'') := by
    intro b g w' h hb
    refine (add_any h _ (hsz 1) (fit_crc _) hb).mono ?_
    rintro e w'' ⟨he, hc, h3, h4⟩
    rw [ha1.1, ha1.2.1] at he
    rw [ha1.2.2] at hc
    exact ⟨he, hc, h3, h4⟩
  have HA0 : Hid (∀ (b g : Nat) (w' : World), CI b g w' [chunkL l10 1] → b ≤ w'.heap.size → Calls Try.prog 15 #[.pointer (some ⟨g, 0, none⟩), (chunkL l10 0).v] w' fun e w'' => e = .returned (.tuple #[.bool true, .int .i64 0]) ∧ CI b g w'' [chunkL l10 1, chunkL l10 0] ∧ Below b w' w'' ∧ CFr g w' w'') := by
    intro b g w' h hb
    refine (add_any h _ (hsz 0) (fit_crc _) hb).mono ?_
    rintro e w'' ⟨he, hc, h3, h4⟩
    rw [ha0.1, ha0.2.1] at he
    rw [ha0.2.2] at hc
    exact ⟨he, hc, h3, h4⟩
  have HMI := hid (fun (b g : Nat) (w' : World) (h : CI b g w' [chunkL l10 1]) => miss_any h)
  rw [hmi] at HMI
  have HB7 := hid (fun (b g : Nat) (w' : World) (h : CI b g w' [chunkL l10 1]) => blocks_any h)
  rw [hb7] at HB7
  have HB0 : Hid (∀ (b g : Nat) (w' : World), CI b g w' [chunkL l10 1, chunkL l10 0] → Calls Try.prog 17 #[.pointer (some ⟨g, 0, none⟩)] w' fun e w'' => ∃ v, e = .returned (.tuple #[v, .int .i64 0]) ∧ SLie w'' v l10 ∧ Below w'.heap.size w' w'') := by
    intro b g w' h
    have hw := ho0.whole snap10 h.ok (by rw [len10]; rfl)
    have := blocks_any h
    rw [hw.1, hw.2] at this
    exact this
  clear ha1 hh0 ho1 ha0 hh1 ho0 hcn hmi hb7 hsz
  go_enter Try.func8, Try.ntmps8
  go_wp2
  go_loopw [1, 2] (fun s i wr => ∃ k : Nat, k ≤ 10 ∧ i = .int .i64 k ∧ Hid (SRow w.heap.size wr s (List.replicate k Zb)) ∧ Hid (Below w.heap.size w wr)) (fun _ i _ => 10 - (intOf i).toNat)
  case atStart => exact ⟨0, Nat.zero_le _, rfl, SRow.nil _ _, Below.refl _ _⟩
  case round =>
    obtain ⟨k, hk, rfl, HR, HB⟩ := hrel
    rename World => wr
    obtain ⟨ao, cap, rfl, hc1, hc2⟩ := HR.out.len
    by_cases hk10 : k < 10
    · have hcv : (convert 59 9 (.slice (some ⟨wr.heap.size, 0, none⟩) 128 128)).run Try.prog (wr.alloc (.cells (bc (List.replicate 128 0)).toArray 5)) = .ok (.string Zb) (wr.alloc (.cells (bc (List.replicate 128 0)).toArray 5)) := by
        have := (CIs.made wr (List.replicate 128 0)).conv 128
        simpa [Zb] using this
      have HR2 := hid (HR.out.below (below_alloc wr (.cells (bc (List.replicate 128 0)).toArray 5)))
      have HB2 := hid (HB.out.next (below_alloc wr (.cells (bc (List.replicate 128 0)).toArray 5)))
      have HSU : Hid (List.replicate (k + 1) Zb = List.replicate k Zb ++ [Zb]) := List.replicate_succ'
      have hsz := HB2.out.size
      have hmk1 := hmk wr
      obtain ⟨wm, hwm⟩ : ∃ wm, wm = wr.alloc (.cells (bc (List.replicate 128 0)).toArray 5) := ⟨_, rfl⟩
      rw [← hwm] at HR2 HB2 hsz hcv hmk1
      clear hwm hmk
      go_wp2_with (at_builtin; refine pushS rfl (.tmp 19) (.tmp 22) rfl w.heap.size _ _ (List.replicate k Zb) Zb rfl rfl rfl HR2.out (by simp; omega) hsz ?_; intro v' w3 hv3 hb3 _; have HV3 := hid hv3; have HB3 := hid hb3; clear hv3 hb3)
      obtain ⟨ao3, cap3, rfl, hd1, hd2⟩ := HV3.out.len
      go_wp2
      go_roundw
      case rel => exact ⟨k + 1, hk10, by simp, hid (by rw [HSU.out]; exact HV3.out), hid (HB2.out.trans HB3.out)⟩
      case measure => simp [intOf]; omega
    · have e : k = 10 := by omega
      subst e
      have HSL : Hid (SLie wr (.slice ao (List.replicate 10 Zb).length cap) l10) := HR.out.lie
      clear hmk HR hc1
      go_wp2_with (go_at_call 9; fail)
      refine (HSP.out _ _ HSL.out).mono ?_
      rintro e w1 ⟨kv, rfl, hkl, hb1⟩
      have HSL1 := hid (HSL.out.below hb1)
      have HB1 := hid (HB.out.next hb1)
      have HKL := hid hkl
      obtain ⟨gb, off, kc, rfl, hk1, hk2, hgb, a0, a1, a2, a3, a4⟩ := klie_at hkl 1 (by rw [HL2.out]; decide)
      obtain ⟨gb', off', kc', e', _, _, _, b0, b1, b2, b3, b4⟩ := klie_at hkl 0 (by rw [HL2.out]; decide)
      cases e'
      rw [HK1.out] at a0 a1 a2 a3 a4
      rw [HK0.out] at b0 b1 b2 b3 b4
      rw [HL2.out] at hk1 ⊢
      have HA := hid (And.intro a0 (And.intro a1 (And.intro a2 (And.intro a3 a4))))
      have HBB := hid (And.intro b0 (And.intro b1 (And.intro b2 (And.intro b3 b4))))
      clear hb1 hkl a0 a1 a2 a3 a4 b0 b1 b2 b3 b4 HSL HB
      go_wp2_with (go_at_call 14; fail)
      refine (new_any _).mono ?_
      rintro e w2 ⟨rfl, hw2⟩
      have HC2 := hid (CI.new w1.heap.size w1 (Nat.le_refl _))
      have HB2 : Hid (Below w1.heap.size w1 w2) := by show Below _ _ _; rw [hw2]; exact below_alloc _ _
      rw [← hw2] at HC2
      clear hw2
      obtain ⟨g, hg⟩ : ∃ g, g = w1.heap.size := ⟨_, rfl⟩
      have HG := hid hg
      rw [← hg] at HC2 HB2 hgb ⊢
      have hwg : w.heap.size ≤ g := by rw [hg]; exact HB1.out.size
      have hg2 : g ≤ w2.heap.size := by rw [hg]; exact HB2.out.size
      have hg1 : g ≤ w1.heap.size := by omega
      clear hg
      have hcl : ∀ (w' : World), Below g w1 w' → ∀ j, w'.cell? ⟨gb, j, none⟩ = w1.cell? ⟨gb, j, none⟩ := fun w' hb j => hb.cell (p := ⟨gb, j, none⟩) hgb
      obtain ⟨a0, a1, a2, a3, a4⟩ := HA.out
      rw [← hcl w2 HB2.out] at a0 a1 a2 a3 a4
      have HCL := hid hcl
      clear hcl
      obtain ⟨q1, hq1⟩ : ∃ q, q = chunkL l10 1 := ⟨_, rfl⟩
      obtain ⟨q0, hq0⟩ : ∃ q, q = chunkL l10 0 := ⟨_, rfl⟩
      rw [← hq1] at a0 a1 a2 a3 a4 HA1 HA0 HMI HB7 HB0
      rw [← hq0] at HA0 HB0 HBB
      clear hq1 hq0
      obtain ⟨D1, T1, N1, S1, M1⟩ := q1
      simp only at a0 a1 a2 a3 a4
      go_wp2_with (go_at_call 15; fail)
      refine (HA1.out _ _ _ HC2.out hg2).mono ?_
      rintro e w3 ⟨rfl, hc3, hb3, _⟩
      have HC3 := hid hc3
      have HB3 := hid (HB2.out.trans hb3)
      clear hc3 hb3 a0 a1 a2 a3 a4
      go_wp2_with (go_at_call 20; fail)
      refine (HMI.out _ _ _ HC3.out).mono ?_
      rintro e w4 ⟨mv, rfl, hi4, hb4⟩
      have HI4 := hid hi4
      have HC4 := hid (HC3.out.below hb4)
      have HB4 := hid (HB3.out.trans (hb4.mono (Nat.le_trans hg1 HB3.out.size)))
      clear hi4 hb4
      go_wp2_with (go_at_call 17; fail)
      refine (HB7.out _ _ _ HC4.out).mono ?_
      rintro e w5 ⟨bv, rfl, _, hb5⟩
      have HI5 := hid (HI4.out.below hb5)
      have HC5 := hid (HC4.out.below hb5)
      have HB5 := hid (HB4.out.trans (hb5.mono (Nat.le_trans hg1 HB4.out.size)))
      clear hb5 HI4
      obtain ⟨b0, b1, b2, b3, b4⟩ := HBB.out
      rw [← HCL.out w5 HB5.out] at b0 b1 b2 b3 b4
      obtain ⟨D0, T0, N0, S0, M0⟩ := q0
      simp only [Nat.zero_mul, Nat.add_zero] at b0 b1 b2 b3 b4
      go_wp2_with (go_at_call 15; fail)
      refine (HA0.out _ _ _ HC5.out (Nat.le_trans hg1 HB5.out.size)).mono ?_
      rintro e w6 ⟨rfl, hc6, hb6, hf6⟩
      have HC6 := hid hc6
      have HB6 := hid (HB5.out.trans hb6)
      have HI6 := hid (HI5.out.cfr hf6 (fun x hx => by
        have h1 := (HI5.out.own x hx).1
        have h2 := HC3.out.lt
        omega))
      clear hc6 hb6 hf6 b0 b1 b2 b3 b4 HI5
      go_wp2_with (go_at_call 17; fail)
      refine (HB0.out _ _ _ HC6.out).mono ?_
      rintro e w7 ⟨rv, rfl, hs7, hb7⟩
      have HS7 := hid hs7
      have HB7' := hid (HB6.out.trans (hb7.mono (Nat.le_trans hg1 HB6.out.size)))
      have HI7 := hid (HI6.out.below hb7)
      have HSL7 := hid (HSL1.out.below (by rw [← HG.out]; exact HB7'.out))
      clear hb7 hs7 HI6
      obtain ⟨mo, mc, rfl, m1, m2, m3⟩ := HI7.out.cell
      obtain ⟨mg, rfl, mcell⟩ := m3 0 (by simp)
      simp only [List.getElem_cons_zero, List.length_cons, List.length_nil, Nat.zero_add] at mcell m1 ⊢
      have HT := hid (texts_same HS7.out HSL7.out)
      clear m3
      go_wp2_with (go_at_call 22; fail)
      refine HT.out.mono ?_
      rintro e w8 ⟨rfl, hb8⟩
      have HB8 := hid (HB1.out.trans (HB7'.out.mono hwg |>.trans (hb8.mono (Nat.le_trans HB1.out.size HB7'.out.size))))
      clear hb8
      go_wp2
      go_ret
      exact ⟨rfl, HB8.out⟩
end Go.Proofs.Ytogiiefaakejlaa
