import Derived.Test.YtogiiefaakejlaaRa
import Derived.Test.YtogiiefaakejlaaCu
namespace Go.Proofs.Ytogiiefaakejlaa
open Go.RowKit Go.Maps

theorem findC_dat (L : List Ck) (n : Int) : (findC L n).dat = datOf L n := by
  unfold findC datOf findE
  rw [List.find?_map]
  have : (L.find? ((fun x : Ent => x.b == n) ∘ entC)) = L.find? (fun c => c.num == n) := rfl
  rw [this]
  cases L.find? (fun c => c.num == n) <;> rfl
theorem many_cnt {L : List Ck} (h : LOk L) (hne : L ≠ []) (k : Nat) : (0 < many (totOf L) (k : Int)) ↔ k < cntN L := by
  obtain ⟨t1, t2, t3, t4, t5⟩ := h.tot hne
  rw [many_pos, t3]
  omega
theorem totOf_cons (x : Ck) (r : List Ck) : totOf (x :: r) = x.tot := rfl
set_option maxRecDepth 100000 in
set_option maxHeartbeats 1000000 in
/-- the document's Missing -/
theorem rmiss_any {base r : Nat} {w : World} {L : List Ck} (h : RI base r w L) (hok : LOk L) : Calls Try.prog 21 #[.pointer (some ⟨r, 0, none⟩)] w fun e w' => ∃ v, e = .returned v ∧ IRow w.heap.size w' v (missL L) ∧ Below w.heap.size w w' := by
  have H := hid h
  obtain ⟨v1, hm1, hr1⟩ := h.mem
  have hrl := lt_of_block hm1
  cases L with
  | nil =>
    obtain ⟨ao1, cap1, hv1, l1, l2⟩ := hr1.len
    subst hv1
    have c0 : w.cell? ⟨r, 0, none⟩ = some (.slice ao1 0 cap1) := by rw [cell_of hm1]; rfl
    clear hr1 hm1 h
    go_enter Try.func21, Try.ntmps21
    go_wp2
    go_ret
    exact ⟨_, rfl, IRow.nil _ _, Below.refl _ _⟩
  | cons x rs =>
    have hne : (x :: rs) ≠ [] := by simp
    obtain ⟨t1, t2, t3, t4, t5⟩ := hok.tot hne
    have HMC := hid (many_cnt hok hne)
    have HML : Hid (missL (x :: rs) = missTo (x :: rs) (cntN (x :: rs))) := if_neg hne
    obtain ⟨gx, cap, rfl, hgx, hcx⟩ := hr1.at (by simp)
    have c0 : w.cell? ⟨r, 0, none⟩ = some (.slice (some ⟨gx, 0, none⟩) (x :: rs).length cap) := by rw [cell_of hm1]; rfl
    have q1 : w.cell? ⟨gx, 1, none⟩ = some (.int .i64 x.tot) := hcx 0 (by simp) 1 (by omega)
    obtain ⟨lc1, lc2⟩ : (x :: rs).length ≤ cap ∧ cap ≤ maxLen := by
      obtain ⟨ao, cp, e, l1, l2⟩ := hr1.len
      cases e
      exact ⟨l1, l2⟩
    unfold maxLen at lc2
    have HMN := hid (fun (k : Int) => many_any (totOf (x :: rs)) k)
    have HHA := hid (fun (w' : World) (h' : RI base r w' (x :: rs)) (k : Int) => rhas_any h' k)
    rw [totOf_cons] at HMN HMC
    obtain ⟨N, hN⟩ : ∃ N, N = (x :: rs).length := ⟨_, rfl⟩
    have hN0 : 0 < N := by rw [hN]; simp
    have eN : ((N : Int) == 0) = false := by simp; omega
    rw [← hN] at c0 lc1
    obtain ⟨t, ht⟩ : ∃ t, t = x.tot := ⟨_, rfl⟩
    rw [← ht] at q1 HMN HMC
    obtain ⟨C, hC⟩ : ∃ C, C = cntN (x :: rs) := ⟨_, rfl⟩
    rw [← hC] at HML HMC t4 t5
    obtain ⟨L, hL⟩ : ∃ L, L = x :: rs := ⟨_, rfl⟩
    rw [← hL] at H HML HHA ⊢
    have HC0 := hid c0
    have HQ1 := hid q1
    clear hm1 hr1 h hcx hN ht hC hL hok hne t1 t2 t3
    go_enter Try.func21, Try.ntmps21
    go_wp2
    go_loopw [3, 4] (fun s i wr => ∃ k : Nat, k ≤ C ∧ i = .int .i64 k ∧ Hid (IRow w.heap.size wr s (missTo L k)) ∧ Hid (Below w.heap.size w wr)) (fun _ i _ => C - (intOf i).toNat)
    case atStart => exact ⟨0, Nat.zero_le _, rfl, IRow.nil _ _, Below.refl _ _⟩
    case round =>
      obtain ⟨k, hk, rfl, HR, HB⟩ := hrel
      rename World => wr
      have e0 : wr.cell? ⟨r, 0, none⟩ = some (.slice (some ⟨gx, 0, none⟩) N cap) := (HB.out.cell (p := ⟨r, 0, none⟩) hrl).trans HC0.out
      have e1 : wr.cell? ⟨gx, 1, none⟩ = some (.int .i64 t) := (HB.out.cell (p := ⟨gx, 1, none⟩) hgx).trans HQ1.out
      obtain ⟨m, hm⟩ : ∃ m, m = many t (k : Int) := ⟨_, rfl⟩
      have HM := hid (HMN.out (k : Int))
      have hmc := HMC.out k
      rw [← hm] at HM hmc
      clear hm c0 q1
      obtain ⟨ao, ic, rfl, hc1, hc2⟩ := HR.out.len
      by_cases hkc : k < C
      · have hm0 : decide (m > 0) = true := by simpa using hmc.2 hkc
        have HH := hid (HHA.out _ (H.out.below HB.out) (k : Int))
        have HSU := hid (missTo_succ L k)
        have hml := missTo_len L k
        generalize findC L (k : Int) = fc at HH
        obtain ⟨fd, ft, fn, fs, fm⟩ := fc
        obtain ⟨z, hz⟩ : ∃ z, z = hasN L (k : Int) := ⟨_, rfl⟩
        rw [← hz] at HH HSU
        clear hz hmc
        cases z with
        | true =>
          go_wp2_with (first
            | (go_at_call 29; refine (HM.out _).mono ?_; rintro e w1 ⟨rfl, hw⟩; have hw := hw.symm; subst hw)
            | (go_at_call 33; refine (HH.out).mono ?_; rintro e w2 ⟨rfl, hb2⟩; have HB2 := hid hb2; clear hb2))
          go_roundw
          case rel => exact ⟨k + 1, hkc, by simp, hid (by rw [HSU.out]; exact (HR.out.below HB2.out).below (below_alloc _ _)), hid ((HB.out.next HB2.out).next (below_alloc _ _))⟩
          case measure => simp [intOf]; omega
        | false =>
          go_wp2_with (first
            | (go_at_call 29; refine (HM.out _).mono ?_; rintro e w1 ⟨rfl, hw⟩; have hw := hw.symm; subst hw)
            | (go_at_call 33; fail))
          refine (HH.out).mono ?_
          rintro e w2 ⟨rfl, hb2⟩
          have HR2 := hid ((HR.out.below hb2).below (below_alloc w2 (.cells #[.int .i64 fd, .int .i64 ft, .int .i64 fn, .string fs, .int .i64 fm] 35)))
          have HS2 := hid ((HB.out.next hb2).next (below_alloc w2 (.cells #[.int .i64 fd, .int .i64 ft, .int .i64 fn, .string fs, .int .i64 fm] 35)))
          have hsz := HS2.out.size
          clear hb2
          go_wp2_with (at_builtin; refine pushI rfl (.tmp 33) (.tmp 35) rfl w.heap.size _ _ (missTo L k) (k : Int) rfl rfl (by simp) HR2.out (by omega) hsz ?_; intro v' w3 hv3 hb3 _; have HV3 := hid hv3; have HB3 := hid hb3; clear hv3 hb3)
          obtain ⟨ao3, cap3, rfl, hd1, hd2⟩ := HV3.out.len
          go_wp2
          go_roundw
          case rel => exact ⟨k + 1, hkc, by simp, hid (by rw [HSU.out]; exact HV3.out), hid (HS2.out.trans HB3.out)⟩
          case measure => simp [intOf]; omega
      · have e : k = C := by omega
        have hm0 : decide (m > 0) = false := by simp; have := mt hmc.1 hkc; omega
        subst e
        clear hmc
        go_wp2_with (go_at_call 29; refine (HM.out _).mono ?_; rintro e w1 ⟨rfl, hw⟩; have hw := hw.symm; subst hw)
        go_ret
        exact ⟨_, rfl, by rw [HML.out]; exact HR.out, HB.out⟩
end Go.Proofs.Ytogiiefaakejlaa
