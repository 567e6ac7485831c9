import Derived.Test.YtogiiefaakejlaaRs
import Derived.Test.YtogiiefaakejlaaSp
import Derived.Test.YtogiiefaakejlaaOc
namespace Go.Proofs.Ytogiiefaakejlaa
open Go.RowKit Go.Maps

set_option maxRecDepth 100000 in
theorem neq35 (c : Ck) (w : World) : (binOp .neq 35 c.v c.v).run Try.prog w = .ok (.bool false) w := by
  have u3 := Try.underlying3
  have a3 := Try.isAgg3
  have z3 := Try.sizeOf3
  have u9 := Try.underlying9
  have a9 := Try.isAgg9
  have z9 := Try.sizeOf9
  have hS : Try.prog.underlying 35 = some (.struct (Try.prog.fieldsOf 35)) := by kernel_rfl
  have hp : Try.prog.stoodInHeld 35 = false := by kernel_rfl
  have h : (Op.equalIn 10000 35 c.v c.v).run Try.prog w = .ok true w := by
    rw [show (10000 : Nat) = 9999 + 1 from rfl, run_equalIn_agg w 9999 35 _ _ hS hp]
    simp only [Program.fieldsOf, Try.underlying35]
    go_simp
  have h2 : (Op.equalIn Op.maxDepth 35 c.v c.v).run Try.prog w = .ok true w := h
  simp [binOp, Op.equal, h2, Result.andThen]
set_option maxRecDepth 100000 in
set_option maxHeartbeats 4000000 in
theorem splits_walk {W : World} {v : Value} {l : List ByteArray} (hS : SLie W v l) (c : Ck) (hc : COk c) : Calls Try.prog 3 #[v, c.v] W fun e w' => e = .returned (.bool true) ∧ Below W.heap.size W w' := by
  have HSP := hid speaks_any
  have hs : c.dat.size ≤ maxLen := by have := hc.dat; unfold maxLen; omega
  have HCK := hid (check_any c hs)
  have HR := hid (right_any c hs)
  have HF := hid ref_any
  have HK := hid (KBox.made 24 W c)
  have HB := hid (below_alloc W (.cells c.cs.toArray 24))
  have H := hid hS
  obtain ⟨ao, cap, rfl, hlc, hcm, _⟩ := hS
  unfold maxLen at hcm
  obtain ⟨z, hz⟩ : ∃ z, z = rgt c := ⟨_, rfl⟩
  rw [← hz] at HCK HR
  obtain ⟨n, hn⟩ : ∃ n, n = l.length := ⟨_, rfl⟩
  rw [← hn] at hlc H ⊢
  have HN := hid hn
  clear hz hs hc hn
  have HC : Hid (∀ w : World, Calls Try.prog 13 #[c.v] w fun e w' => e = .returned c.v ∧ Below w.heap.size w w') := fun w => HF.out c w
  obtain ⟨dg, t, m, d, sm⟩ := c
  simp only [Ck.cs] at HK HB
  by_cases hbig : n > 1100
  · go_enter Try.func3, Try.ntmps3
    go_wp2_with (go_at_call 8; refine (HSP.out _).mono ?_; rintro e w6 ⟨rfl, hb6⟩; have HB6 := hid (HB.out.next hb6); clear hb6)
    go_ret
    exact ⟨rfl, HB6.out⟩
  · go_enter Try.func3, Try.ntmps3
    go_wp2_with (go_at_call 9; fail)
    refine (split_any (H.out.below HB.out)).mono ?_
    rintro e w1 ⟨kv, rfl, hk1, hb1⟩
    have HB1 := hid (HB.out.next hb1)
    have HK1 := hid (KBox.same HK.out (hb1.block _ (by simp)))
    have HKL := hid hk1
    clear hk1 hb1
    go_wp2_with (go_at_call 10; fail)
    refine (rsplit_any (H.out.below HB1.out)).mono ?_
    rintro e w2 ⟨rv, rfl, hr2, hb2⟩
    have HB2 := hid (HB1.out.next hb2)
    have HK2 := hid (KBox.same HK1.out (hb2.block _ HK1.out.lt))
    have HKL2 := hid (HKL.out.below hb2)
    have HRL := hid hr2.lie
    clear hr2 hb2 HK1 HKL HB1
    obtain ⟨E, hE⟩ : ∃ E, E = splE l := ⟨_, rfl⟩
    obtain ⟨K, hK⟩ : ∃ K, K = splK l := ⟨_, rfl⟩
    rw [← hE]
    rw [← hK] at HKL2 HRL
    clear hE hK
    obtain ⟨ko, kc, rfl, hk1, hk2, hkc⟩ := HKL2.out
    obtain ⟨ro, rc, rfl, hr1, hr2, hrc⟩ := HRL.out
    have HKC := hid hkc
    have HRC := hid hrc
    unfold maxLen at hk2 hr2
    obtain ⟨N, hN⟩ : ∃ N, N = K.length := ⟨_, rfl⟩
    rw [← hN] at hk1 hr1 ⊢
    have HNN := hid hN
    clear hkc hrc hN
    have e1 : (E != E) = false := by simp
    have e2 : ((N : Int) != (N : Int)) = false := by simp
    obtain ⟨k0, k1, k2, k3, k4⟩ := KBox.cell HK2.out
    simp only at k0 k1 k2 k3 k4
    go_wp2
    go_cut [42] (fun s wx => s = .bool false ∧ Below w2.heap.size w2 wx)
    case first =>
      cases z
      all_goals
        go_region_held3 (fun w' => w'.cell? ⟨W.heap.size, 0, none⟩ = some (.int .i64 dg) ∧ w'.cell? ⟨W.heap.size, 1, none⟩ = some (.int .i64 t) ∧ w'.cell? ⟨W.heap.size, 2, none⟩ = some (.int .i64 m) ∧ w'.cell? ⟨W.heap.size, 3, none⟩ = some (.string d) ∧ w'.cell? ⟨W.heap.size, 4, none⟩ = some (.int .i64 sm)) (first | exact ⟨k0, k1, k2, k3, k4⟩ | exact KBox.cell kC | exact KBox.cell kB | exact KBox.cell kA | go_keep) (first
          | (go_at_call 11; refine (HCK.out _).mono ?_; rintro e wa ⟨rfl, hbA⟩; have kA : KBox 24 W.heap.size wa ⟨dg, t, m, d, sm⟩ := by first | exact KBox.same kC (hbA.block _ (KBox.lt kC)) | exact KBox.same kB (hbA.block _ (KBox.lt kB)) | exact KBox.same HK2.out (hbA.block _ HK2.out.lt))
          | (go_at_call 13; refine (HC.out _).mono ?_; rintro e wb ⟨rfl, hbB⟩; have kB : KBox 24 W.heap.size wb ⟨dg, t, m, d, sm⟩ := by first | exact KBox.same kA (hbB.block _ (KBox.lt kA)) | exact KBox.same HK2.out (hbB.block _ HK2.out.lt))
          | (go_at_call 12; refine (HR.out _).mono ?_; rintro e wc ⟨rfl, hbC⟩; have kC : KBox 24 W.heap.size wc ⟨dg, t, m, d, sm⟩ := by first | exact KBox.same kA (hbC.block _ (KBox.lt kA)) | exact KBox.same kB (hbC.block _ (KBox.lt kB))))
        all_goals
          go_wp2
          go_meet
          exact ⟨rfl, (((Below.refl w2.heap.size w2).trans (show Below w2.heap.size w2 w2.drew from ⟨rfl, rfl, rfl, Nat.le_refl _, fun _ _ => rfl⟩)).trans hbA).trans ((hbB.mono hbA.size).trans (hbC.mono (Nat.le_trans hbA.size hbB.size)))⟩
    case rest =>
      obtain ⟨rfl, hbx⟩ := hcut
      rename World => wx
      have HBX := hid hbx
      clear hbx k0 k1 k2 k3 k4
      have hne := neq35
      go_wp2
      go_loopw [45] (fun i wr => ∃ j : Nat, j ≤ N ∧ i = .int .i64 j ∧ Hid (Below w2.heap.size w2 wr)) (fun i _ => N - (intOf i).toNat)
      case atStart => exact ⟨0, Nat.zero_le _, rfl, HBX⟩
      case round =>
        obtain ⟨j, hj, rfl, HBR⟩ := hrel
        rename World => wr
        by_cases hlt : j < N
        · have hj' : j < K.length := by rw [← HNN.out]; exact hlt
          obtain ⟨gk, ok, ek, hgk, ck⟩ := HKC.out j hj'
          obtain ⟨gr, og, er, hgr, cr⟩ := HRC.out j hj'
          subst ek er
          obtain ⟨y, hy⟩ : ∃ y, y = K[j]'hj' := ⟨_, rfl⟩
          rw [← hy] at ck cr
          clear hy
          have HCK2 : Hid (∀ w' : World, Below w2.heap.size w2 w' → ∀ q, q < 5 → w'.cell? ⟨gk, ok + j * 5 + q, none⟩ = (Ck.cs y)[q]?) := fun w' hb q hq => (hb.cell (p := ⟨gk, ok + j * 5 + q, none⟩) hgk).trans (ck q hq)
          have HCR2 : Hid (∀ w' : World, Below w2.heap.size w2 w' → ∀ q, q < 5 → w'.cell? ⟨gr, og + j * 5 + q, none⟩ = (Ck.cs y)[q]?) := fun w' hb q hq => (hb.cell (p := ⟨gr, og + j * 5 + q, none⟩) hgr).trans (cr q hq)
          clear ck cr
          have hFy := HF.out y
          obtain ⟨xd, xt, xn, xs, xm⟩ := y
          have HFY := hid hFy
          have HTEN : Hid (∀ w' : World, Below w2.heap.size w2 w' → (w'.cell? ⟨gk, ok + j * 5, none⟩ = some (.int .i64 xd) ∧ w'.cell? ⟨gk, ok + j * 5 + 1, none⟩ = some (.int .i64 xt) ∧ w'.cell? ⟨gk, ok + j * 5 + 2, none⟩ = some (.int .i64 xn) ∧ w'.cell? ⟨gk, ok + j * 5 + 3, none⟩ = some (.string xs) ∧ w'.cell? ⟨gk, ok + j * 5 + 4, none⟩ = some (.int .i64 xm) ∧ w'.cell? ⟨gr, og + j * 5, none⟩ = some (.int .i64 xd) ∧ w'.cell? ⟨gr, og + j * 5 + 1, none⟩ = some (.int .i64 xt) ∧ w'.cell? ⟨gr, og + j * 5 + 2, none⟩ = some (.int .i64 xn) ∧ w'.cell? ⟨gr, og + j * 5 + 3, none⟩ = some (.string xs) ∧ w'.cell? ⟨gr, og + j * 5 + 4, none⟩ = some (.int .i64 xm))) := fun w' hb => ⟨HCK2.out w' hb 0 (by omega), HCK2.out w' hb 1 (by omega), HCK2.out w' hb 2 (by omega), HCK2.out w' hb 3 (by omega), HCK2.out w' hb 4 (by omega), HCR2.out w' hb 0 (by omega), HCR2.out w' hb 1 (by omega), HCR2.out w' hb 2 (by omega), HCR2.out w' hb 3 (by omega), HCR2.out w' hb 4 (by omega)⟩
          have s0 := HTEN.out wr HBR.out
          have hne1 := hne ⟨xd, xt, xn, xs, xm⟩
          clear hne hFy HCK2 HCR2
          go_wp2
          go_region_held3 (fun w' => w'.cell? ⟨gk, ok + j * 5, none⟩ = some (.int .i64 xd) ∧ w'.cell? ⟨gk, ok + j * 5 + 1, none⟩ = some (.int .i64 xt) ∧ w'.cell? ⟨gk, ok + j * 5 + 2, none⟩ = some (.int .i64 xn) ∧ w'.cell? ⟨gk, ok + j * 5 + 3, none⟩ = some (.string xs) ∧ w'.cell? ⟨gk, ok + j * 5 + 4, none⟩ = some (.int .i64 xm) ∧ w'.cell? ⟨gr, og + j * 5, none⟩ = some (.int .i64 xd) ∧ w'.cell? ⟨gr, og + j * 5 + 1, none⟩ = some (.int .i64 xt) ∧ w'.cell? ⟨gr, og + j * 5 + 2, none⟩ = some (.int .i64 xn) ∧ w'.cell? ⟨gr, og + j * 5 + 3, none⟩ = some (.string xs) ∧ w'.cell? ⟨gr, og + j * 5 + 4, none⟩ = some (.int .i64 xm)) (first | exact s0 | exact s1 | go_keep) (first | (go_at_call 13; refine (HFY.out _).mono ?_; rintro e wa ⟨rfl, hbA⟩; have HBA : Hid (Below w2.heap.size w2 wa) := (show Below w2.heap.size w2 wr.drew from ⟨HBR.out.os, HBR.out.tape, HBR.out.output, HBR.out.size, HBR.out.block⟩).trans (hbA.mono HBR.out.size); have s1 := HTEN.out wa HBA.out; clear hbA))
          all_goals
            go_wp2
            go_roundw
            case rel => exact ⟨j + 1, hlt, by simp, HBA⟩
            case measure => simp [intOf]; omega
        · go_wp2_with (go_at_call 8; refine (HSP.out _).mono ?_; rintro e w6 ⟨rfl, hb6⟩; have HB6 := hid (HB2.out.trans ((HBR.out.mono HB2.out.size).trans (hb6.mono (Nat.le_trans HB2.out.size HBR.out.size)))); clear hb6)
          go_ret
          exact ⟨rfl, HB6.out⟩
end Go.Proofs.Ytogiiefaakejlaa
