import Derived.Test.YtogiiefaakejlaaFl
import Derived.Test.YtogiiefaakejlaaRs
namespace Go.Proofs.Ytogiiefaakejlaa
open Go.RowKit Go.Maps

theorem shft (A m : Nat) (hA : (A : Int) ≤ 9223372036854775807) : min (IntKind.u64.wrap ((wrap64 ((A : Int) / (m : Int))).tmod 8)).toNat 8 = A / m % 8 := by
  have h0 : (A : Int) / (m : Int) = ((A / m : Nat) : Int) := by simp
  have h1 : A / m ≤ A := Nat.div_le_self _ _
  rw [h0]
  obtain ⟨q, hq⟩ : ∃ q, q = A / m := ⟨_, rfl⟩
  rw [← hq] at h1 ⊢
  have h2 : wrap64 (q : Int) = (q : Int) := by unfold wrap64; omega
  rw [h2, Int.tmod_eq_emod_of_nonneg (by omega), IntKind.wrap_u64]
  omega
set_option maxRecDepth 100000 in
set_option maxHeartbeats 4000000 in
theorem spoilt_walk {W : World} {v : Value} {l : List ByteArray} (hS : SLie W v l) (a : Int) (ha : inI a) : Calls Try.prog 7 #[v, .int .i64 a] W fun e w' => e = .returned (.bool true) ∧ Below W.heap.size W w' := by
  have HSP := hid speaks_any
  have H := hid hS
  obtain ⟨ao, cap, rfl, hlc, hcm, _⟩ := hS
  unfold maxLen at hcm
  obtain ⟨n, hn⟩ : ∃ n, n = l.length := ⟨_, rfl⟩
  rw [← hn] at hlc H ⊢
  have HN := hid hn
  clear hn
  by_cases hbig : n > 1100
  · have hd : decide ((n : Int) > 1100) = true := by simp; omega
    go_enter Try.func7, Try.ntmps7
    go_wp2_with (go_at_call 8; refine (HSP.out _).mono ?_; rintro e w6 ⟨rfl, hb6⟩; have HB6 := hid hb6; clear hb6)
    go_ret
    exact ⟨rfl, HB6.out⟩
  have hd1 : decide ((n : Int) > 1100) = false := by simp; omega
  by_cases hE : splE l = 0
  · have hs := snap_of hE
    have HSS := hid hs
    have HSPL := hid (fun (w' : World) (h : SLie w' (.slice ao n cap) l) => split_any h)
    rw [hs.e, hs.k] at HSPL
    obtain ⟨C, hC⟩ : ∃ C, C = (n + 7) / 8 := ⟨_, rfl⟩
    have hLL : (splitL l).length = C := by rw [splitL_len, hC, HN.out]
    have HLL := hid hLL
    have HCC := hid hC
    have hCb : 1 ≤ C ∧ C ≤ 128 := by have := hs.lo; have := hs.hi; have := HN.out; omega
    clear hE hs hLL hC
    by_cases ha0 : a < 0
    · have hd2 : decide (a < 0) = true := by simpa using ha0
      go_enter Try.func7, Try.ntmps7
      go_wp2_with (go_at_call 9; fail)
      refine (HSPL.out _ H.out).mono ?_
      rintro e w1 ⟨kv, rfl, hk1, hb1⟩
      have HB1 := hid hb1
      obtain ⟨ko, kc, rfl, hk1, hk2, hkc⟩ := hk1
      clear hkc hb1
      go_wp2_with (go_at_call 8; refine (HSP.out _).mono ?_; rintro e w8 ⟨rfl, hb8⟩; have HB8 := hid (HB1.out.next hb8); clear hb8)
      go_ret
      exact ⟨rfl, HB8.out⟩
    · have hd2 : decide (a < 0) = false := by simpa using ha0
      obtain ⟨A, rfl⟩ : ∃ A : Nat, a = (A : Int) := ⟨a.toNat, by omega⟩
      have hAb : (A : Int) ≤ 9223372036854775807 := ha.2
      go_enter Try.func7, Try.ntmps7
      go_wp2_with (go_at_call 9; fail)
      refine (HSPL.out _ H.out).mono ?_
      rintro e w1 ⟨kv, rfl, hk1, hb1⟩
      have HB1 := hid hb1
      obtain ⟨ko, kc, rfl, hk1, hk2, hkc⟩ := hk1
      have HKC := hid hkc
      unfold maxLen at hk2
      rw [HLL.out] at hk1 ⊢
      clear hkc hb1
      have hC0 : ((C : Int) == 0) = false := by simp; omega
      go_wp2_with (go_at_call 14; fail)
      refine (new_any _).mono ?_
      rintro e w2 ⟨rfl, hw2⟩
      have HC2 := hid (CI.new w1.heap.size w1 (Nat.le_refl _))
      have HB2 : Hid (Below w1.heap.size w1 w2) := by show Below _ _ _; rw [hw2]; exact below_alloc _ _
      rw [← hw2] at HC2
      clear hw2
      obtain ⟨g, hg⟩ : ∃ g, g = w1.heap.size := ⟨_, rfl⟩
      have HG := hid hg
      rw [← hg] at HC2 HB2 ⊢
      have hWg : W.heap.size ≤ g := by rw [hg]; exact HB1.out.size
      clear hg
      go_wp2
      go_loopw [50] (fun i wr => ∃ j : Nat, j ≤ C ∧ i = .int .i64 j ∧ Hid (CI g g wr ((splitL l).take j)) ∧ Hid (Below g w1 wr)) (fun i _ => C - (intOf i).toNat)
      case atStart => exact ⟨0, Nat.zero_le _, rfl, HC2, HB2⟩
      case round =>
        obtain ⟨j, hj, rfl, HCI, HBR⟩ := hrel
        rename World => wr
        by_cases hlt : j < C
        · have hk8 : j * 8 < l.length := by rw [← HN.out]; have := HCC.out; omega
          obtain ⟨gb, off, e, hgb, ck⟩ := HKC.out j (by rw [HLL.out]; exact hlt)
          subst e
          rw [splitL_get] at ck
          have hof := of_take l j (by rw [HLL.out]; omega)
          have hhas := hasN_take l j (by rw [HLL.out]; omega) j (Nat.le_refl _)
          have hadd := hof.add HSS.out hk8
          rw [hhas] at hadd
          have htk := splitL_take l j (by rw [HLL.out]; exact hlt)
          have hsz : (chunkL l j).dat.size ≤ 1024 := by show (st _).size ≤ _; rw [st_size, allD_blocks (part_blocks HSS.out.bl j), part_len]; omega
          have hsz0 : 1 ≤ (chunkL l j).dat.size := by show 1 ≤ (st _).size; rw [st_size, allD_blocks (part_blocks HSS.out.bl j), part_len]; omega
          have hrg := rgt_chunk HSS.out hk8
          have hdg : inI (chunkL l j).dg := fit_crc _
          obtain ⟨y, hy⟩ : ∃ y, y = chunkL l j := ⟨_, rfl⟩
          rw [← hy] at ck hadd htk hsz hsz0 hrg hdg
          obtain ⟨L, hL⟩ : ∃ L, L = (splitL l).take j := ⟨_, rfl⟩
          rw [← hL] at HCI hadd htk
          have HTK := hid htk
          have HADD := hid hadd
          clear hof hhas hadd htk hy hL
          obtain ⟨m, hm⟩ : ∃ m, m = y.dat.size := ⟨_, rfl⟩
          rw [← hm] at hsz hsz0
          have hilt : A % m < y.dat.data.toList.length := by rw [len_list, ← hm]; exact Nat.mod_lt _ (by omega)
          have hj8 : A / m % 8 < 8 := Nat.mod_lt _ (by decide)
          have hbad := flip_bad y hrg (A % m) (A / m % 8) hilt hj8
          obtain ⟨Y, hY⟩ : ∃ Y, Y = flipB y.dat (A % m) (A / m % 8) hilt := ⟨_, rfl⟩
          rw [← hY] at hbad
          have hYs : Y.size = m := by rw [hY, flipB_size, hm]
          have HYL : Hid (Y.data.toList = y.dat.data.toList.set (A % m) (y.dat.data.toList[A % m] ^^^ UInt8.ofNat (2 ^ (A / m % 8)))) := by
            show _ = _
            rw [hY]; unfold flipB; rw [st_list]
          have HADK := hid (fun (w' : World) (h : CI g g w' L) (hb : g ≤ w'.heap.size) => add_any h y (by unfold maxLen; omega) hdg hb)
          have HADB := hid (fun (w' : World) (h : CI g g w' L) (hb : g ≤ w'.heap.size) => add_any h { y with dat := Y } (by show Y.size ≤ _; unfold maxLen; omega) hdg hb)
          have hcl : ∀ q, q < 5 → wr.cell? ⟨gb, off + j * 5 + q, none⟩ = (Ck.cs y)[q]? := fun q hq => (HBR.out.cell (p := ⟨gb, off + j * 5 + q, none⟩) (by show gb < g; rw [HG.out]; exact hgb)).trans (ck q hq)
          have a0 : wr.cell? ⟨gb, off + j * 5, none⟩ = some (.int .i64 y.dg) := hcl 0 (by omega)
          have a1 : wr.cell? ⟨gb, off + j * 5 + 1, none⟩ = some (.int .i64 y.tot) := hcl 1 (by omega)
          have a2 : wr.cell? ⟨gb, off + j * 5 + 2, none⟩ = some (.int .i64 y.num) := hcl 2 (by omega)
          have a3 : wr.cell? ⟨gb, off + j * 5 + 3, none⟩ = some (.string y.dat) := hcl 3 (by omega)
          have a4 : wr.cell? ⟨gb, off + j * 5 + 4, none⟩ = some (.int .i64 y.sm) := hcl 4 (by omega)
          have HBAD := hid hbad
          have HHM := hid hm
          have HRG := hid hrg
          clear ck hcl hY hbad hm hrg
          obtain ⟨xd, xt, xn, xs, xm⟩ := y
          simp only at a0 a1 a2 a3 a4 HHM HYL hilt
          go_upto_region 11 with fail
          obtain ⟨wb, hwb⟩ : ∃ wb, wb = (wr.alloc (.cells #[.int .i64 xd, .int .i64 xt, .int .i64 xn, .string xs, .int .i64 xm] 24)).alloc (.cells #[.int .i64 xd, .int .i64 xt, .int .i64 xn, .string xs, .int .i64 xm] 24) := ⟨_, rfl⟩
          have hbb : Below wr.heap.size wr wb := by rw [hwb]; exact (below_alloc wr _).next (below_alloc _ _)
          have hbs : wb.heap.size = wr.heap.size + 2 := by rw [hwb]; simp
          have hk9 : KBox 24 wr.heap.size wb ⟨xd, xt, xn, xs, xm⟩ := by
            rw [hwb]
            exact KBox.same (KBox.made 24 wr ⟨xd, xt, xn, xs, xm⟩) ((below_alloc _ _).block _ (by simp))
          have hk10 : KBox 24 (wr.heap.size + 1) wb ⟨xd, xt, xn, xs, xm⟩ := by
            rw [hwb]
            have := KBox.made 24 (wr.alloc (.cells #[.int .i64 xd, .int .i64 xt, .int .i64 xn, .string xs, .int .i64 xm] 24)) ⟨xd, xt, xn, xs, xm⟩
            simpa [Ck.cs] using this
          rw [← hwb]
          clear hwb a0 a1 a2 a3 a4
          obtain ⟨tcap, wc, hconv, hBI, hBe⟩ := bytes_new wb xs
          rw [← HHM.out] at hconv
          have HBI := hid hBI
          have HBC := hid (hbb.next hBe)
          have HK9 := hid (KBox.same hk9 (hBe.block _ (KBox.lt hk9)))
          have HK10 := hid (KBox.same hk10 (hBe.block _ (KBox.lt hk10)))
          obtain ⟨gt, hgt⟩ : ∃ gt, gt = wb.heap.size := ⟨_, rfl⟩
          rw [← hgt] at hconv HBI
          have hcell := HBI.out.get (A % m) hilt
          have hfree := HBI.out.free (A % m) hilt
          obtain ⟨x, hx⟩ : ∃ x, x = xs.data.toList[A % m] := ⟨_, rfl⟩
          rw [← hx] at hcell HYL
          have d3 : wb.cell? ⟨wr.heap.size, 3, none⟩ = some (.string xs) := (KBox.cell hk9).2.2.2.1
          have hgtn : gt = wr.heap.size + 2 := by rw [hgt, hbs]
          have HGT := hid hgtn
          clear hx hBI hBe hk9 hk10 hbb hgt hbs hgtn
          have hm0 : ¬ ((m : Int) = 0) := by omega
          have hmlt : A % m < m := Nat.mod_lt _ (by omega)
          have hm0n : ¬ m = 0 := by omega
          go_upto_region 12 with fail
          clear d3 hconv
          have HSH := hid (shft A m hAb)
          go_region
          rw [HSH.out]
          have hxm := xor_m x (A / m % 8)
          rw [hxm]
          obtain ⟨wd, hwd⟩ : ∃ wd, wd = (wc.setCell ⟨gt, A % m, none⟩ (.int .u8 ((x ^^^ UInt8.ofNat (2 ^ (A / m % 8))).toNat : Int))).drew := ⟨_, rfl⟩
          have hBId : BIs gt wd Y.data.toList := by
            rw [HYL.out]
            have := HBI.out.set (A % m) (x ^^^ UInt8.ofNat (2 ^ (A / m % 8))) _ rfl
            obtain ⟨cur, fz, q1, q2⟩ := this
            exact ⟨cur, fz, by rw [hwd]; exact q1, q2⟩
          have hYl : Y.data.toList.length = m := by rw [len_list]; exact hYs
          have hcv := hBId.conv tcap
          rw [hYl, st_toList] at hcv
          have hbd : ∀ q, q ≠ gt → wd.heap[q]? = wc.heap[q]? := fun q hq => by rw [hwd]; exact Below.heap_setCell _ _ _ _ hq
          have hszd : wd.heap.size = wc.heap.size := by rw [hwd]; show (World.setCell _ _ _).heap.size = _; simp [World.setCell]
          have hgtn := HGT.out
          have hk9 : KBox 24 wr.heap.size wd ⟨xd, xt, xn, xs, xm⟩ := KBox.same HK9.out (hbd _ (by omega))
          have hk10 : KBox 24 (wr.heap.size + 1) wd ⟨xd, xt, xn, xs, xm⟩ := KBox.same HK10.out (hbd _ (by omega))
          have HBD : Hid (Below wr.heap.size wr wd) := by
            refine HBC.out.trans ⟨by rw [hwd]; rfl, by rw [hwd]; rfl, by rw [hwd]; rfl, by omega, fun q hq => hbd q (by omega)⟩
          rw [← hwd]
          have HK9D := hid hk9
          have HK10D := hid hk10
          obtain ⟨e0, e1, e2, e3, e4⟩ := KBox.cell hk10
          have ef := frees hk10 3
          simp only at e0 e1 e2 e3 e4
          clear hwd hBId hYl hbd hszd hgtn hxm hcell hfree hk9 hk10
          go_wp2_with (go_at_call 15; fail)
          have hne : CI g g wd L := HCI.out.below HBD.out
          have HBE : Hid (Below wr.heap.size wr (wd.setCell ⟨wr.heap.size + 1, 3, none⟩ (.string Y))) := HBD.out.setCell (p := ⟨wr.heap.size + 1, 3, none⟩) (by show _ ≤ wr.heap.size + 1; omega) _
          have hgr : g ≤ wr.heap.size := by have := HCI.out.lt; omega
          have hA1 := HADB.out _ (HCI.out.below HBE.out) (Nat.le_trans hgr HBE.out.size)
          refine hA1.mono ?_
          rintro e w4 ⟨he, hc4, hb4, hf4⟩
          have hbe : addB L { dg := xd, tot := xt, num := xn, dat := Y, sm := xm } = false ∧ addE L { dg := xd, tot := xt, num := xn, dat := Y, sm := xm } = 4 ∧ addL L { dg := xd, tot := xt, num := xn, dat := Y, sm := xm } = L := by
            have hb := HBAD.out
            unfold addL addE addB
            rw [hb]
            exact ⟨rfl, rfl, rfl⟩
          rw [hbe.1, hbe.2.1] at he
          rw [hbe.2.2] at hc4
          subst he
          have HC4 := hid hc4
          have HB4 := hid (HBR.out.trans ((HBE.out.mono hgr).trans hb4))
          have hk9e : KBox 24 wr.heap.size w4 ⟨xd, xt, xn, xs, xm⟩ := by
            refine KBox.same HK9D.out ((hf4.block _ (Nat.lt_of_lt_of_le HK9D.out.lt (by simp [World.setCell])) (by have := HCI.out.lt; omega) (fun es cl q => ?_)).trans (Below.heap_setCell _ _ _ _ (by show wr.heap.size ≠ wr.heap.size + 1; omega)))
            have q1 : (wd.setCell ⟨wr.heap.size + 1, 3, none⟩ (.string Y)).heap[wr.heap.size]? = wd.heap[wr.heap.size]? := Below.heap_setCell _ _ _ _ (by show wr.heap.size ≠ wr.heap.size + 1; omega)
            rw [q1, HK9D.out] at q
            cases q
          obtain ⟨f0, f1, f2, f3, f4⟩ := KBox.cell hk9e
          simp only at f0 f1 f2 f3 f4
          clear hA1 hne hbe hc4 hb4 hf4 e0 e1 e2 e3 e4 ef hk9e hcv
          go_wp2_with (go_at_call 15; fail)
          refine (HADK.out _ HC4.out (Nat.le_of_lt HC4.out.lt)).mono ?_
          rintro e w5 ⟨he, hc5, hb5, _⟩
          have hadd := HADD.out
          rw [hadd.1, hadd.2.1] at he
          rw [hadd.2.2] at hc5
          simp only [Bool.not_false] at he
          subst he
          have HC5 : Hid (CI g g w5 ((splitL l).take (j + 1))) := by
            show CI _ _ _ _
            rw [HTK.out]
            exact hc5
          have HB5 := hid (HB4.out.trans hb5)
          clear hadd hc5 hb5 f0 f1 f2 f3 f4
          go_wp2
          go_roundw
          case rel => exact ⟨j + 1, hlt, by simp, HC5, HB5⟩
          case measure => simp [intOf]; omega
        · have hjC : j = C := by omega
          subst hjC
          have hw := (of_take l j (by rw [HLL.out]; omega)).whole HSS.out HCI.out.ok (by rw [List.length_take, HLL.out, ← HN.out, ← HCC.out]; omega)
          have HBL := hid (blocks_any HCI.out)
          rw [hw.1, hw.2] at HBL
          clear hw
          go_wp2_with (go_at_call 17; fail)
          refine HBL.out.mono ?_
          rintro e w6 ⟨bv, rfl, hs6, hb6⟩
          have HB6 := hid (HBR.out.trans (hb6.mono (by have := HCI.out.lt; omega)))
          have HT := hid (texts_same hs6 ((H.out.below HB1.out).below (by rw [← HG.out]; exact HB6.out)))
          have hs61 : g ≤ w6.heap.size := by have := HCI.out.lt; have := hb6.size; omega
          clear hs6 hb6
          go_wp2_with (go_at_call 22; fail)
          refine HT.out.mono ?_
          rintro e w7 ⟨rfl, hb7⟩
          have HB7 := hid (HB6.out.trans (hb7.mono hs61))
          have hs71 : W.heap.size ≤ w7.heap.size := by have := hb7.size; omega
          clear hb7
          go_wp2_with (go_at_call 8; refine (HSP.out _).mono ?_; rintro e w8 ⟨rfl, hb8⟩; have HB8 := hid (HB1.out.trans ((HB7.out.mono hWg).trans (hb8.mono hs71))); clear hb8)
          go_ret
          exact ⟨rfl, HB8.out⟩
  · have HSPL := hid (fun (w' : World) (h : SLie w' (.slice ao n cap) l) => split_any h)
    obtain ⟨E, hEE⟩ : ∃ E, E = splE l := ⟨_, rfl⟩
    rw [← hEE] at HSPL hE
    have hd3 : (E != 0) = true := by simpa using hE
    clear hEE
    go_enter Try.func7, Try.ntmps7
    go_wp2_with (go_at_call 9; fail)
    refine (HSPL.out _ H.out).mono ?_
    rintro e w1 ⟨kv, rfl, hk1, hb1⟩
    have HB1 := hid hb1
    obtain ⟨ko, kc, rfl, hk1, hk2, hkc⟩ := hk1
    clear hkc hb1
    go_wp2_with (go_at_call 8; refine (HSP.out _).mono ?_; rintro e w8 ⟨rfl, hb8⟩; have HB8 := hid (HB1.out.next hb8); clear hb8)
    go_ret
    exact ⟨rfl, HB8.out⟩
end Go.Proofs.Ytogiiefaakejlaa
