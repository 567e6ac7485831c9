import Derived.Test.YtogiiefaakejlaaCt
namespace Go.Proofs.Ytogiiefaakejlaa
open Go.RowKit Go.Maps

/-- a block of n strings, of which the first q are those of L -/
def SFil (g n q : Nat) (w : World) (L : List ByteArray) : Prop := ∃ cur : Array Value, w.heap[g]? = some (.cells cur 9 (0, 0)) ∧ cur.size = n ∧ ∀ i (hi : i < L.length), i < q → cur[i]? = some (.string L[i])
theorem SFil.lt {g n q : Nat} {w : World} {L : List ByteArray} (h : SFil g n q w L) : g < w.heap.size := by
  obtain ⟨cur, h1, h2⟩ := h
  exact lt_of_block h1
theorem SFil.get {g n q : Nat} {w : World} {L : List ByteArray} (h : SFil g n q w L) (j : Nat) (hj : j < n) : ∃ x, w.cell? ⟨g, j, none⟩ = some x := by
  obtain ⟨cur, h1, h2, _⟩ := h
  exact ⟨cur[j]'(by omega), by simp [World.cell?, h1]⟩
theorem SFil.free {g n q : Nat} {w : World} {L : List ByteArray} (h : SFil g n q w L) (j : Nat) : w.frozen? ⟨g, j, none⟩ = false := by
  obtain ⟨cur, h1, h2, _⟩ := h
  simp [World.frozen?, h1]
theorem SFil.lie {g n : Nat} {w : World} {L : List ByteArray} (h : SFil g n n w L) (hL : L.length = n) (hn : n ≤ 2000) : SLie w (.slice (some ⟨g, 0, none⟩) n n) L := by
  obtain ⟨cur, h1, h2, h3⟩ := h
  refine ⟨_, _, by rw [hL], by omega, by unfold maxLen; omega, fun i hi => ⟨g, 0, rfl, lt_of_block h1, ?_⟩⟩
  have := h3 i hi (by omega)
  rw [Nat.zero_add]
  simp [World.cell?, h1, this]
theorem SFil.set {g n q : Nat} {w : World} {L : List ByteArray} (h : SFil g n q w L) (hq : q < n) (hL : q < L.length) : SFil g n (q + 1) (w.setCell ⟨g, q, none⟩ (.string L[q])) L := by
  obtain ⟨cur, h1, h2, h3⟩ := h
  refine ⟨_, cells_set h1 _, by simp [h2], fun i hi hlt => ?_⟩
  rw [Array.set!_eq_setIfInBounds]
  by_cases hiq : i = q
  · subst hiq
    rw [Array.getElem?_setIfInBounds_self_of_lt (by omega)]
  · rw [Array.getElem?_setIfInBounds_ne (by omega)]
    exact h3 i hi (by omega)
theorem mkSt (n : Nat) (hn : n ≤ 2000) : ∃ cs, (∀ w : World, (Instr.makeSlice 22 (.int .i64 (n : Int)) (.int .i64 (n : Int))).run Try.prog w = .ok (.slice (some ⟨w.heap.size, 0, none⟩) n n) (w.alloc (.cells cs 9))) ∧ ∀ (w : World) L, SFil w.heap.size n 0 (w.alloc (.cells cs 9)) L := by
  obtain ⟨i0, hi, hz0, hz1, hz2⟩ := info_parts Try.infoR9
  refine ⟨madeCells (Value.string ⟨#[]⟩).cells n, fun w => ?_, fun w L => ⟨_, box_at _ _, by simp [size_madeCells], fun i hi h => by omega⟩⟩
  have := run_makeSlice (P := Try.prog) w 22 9 i0 (.string ⟨#[]⟩) Try.underlying22 hi hz0 .i64 .i64 (n : Int) (n : Int) (by omega) (by omega) (by rw [hz1]; omega) (by rw [hz2]; omega) (by omega)
  have e1 : (n : Int).toNat = n := by omega
  rw [e1, hz1, Nat.mul_one] at this
  exact this
theorem LOk.nums {L : List Ck} (h : LOk L) : ∀ x ∈ L.map (·.num), 0 ≤ x ∧ x < (cntN L : Int) := by
  intro x hx
  obtain ⟨c, hc, rfl⟩ := List.mem_map.1 hx
  have h1 := rgt_num (h.rg c hc)
  have h2 := h.tot (List.ne_nil_of_mem hc)
  have h3 : c.tot = totOf L := by
    cases L with
    | nil => cases hc
    | cons y r => exact (h.one c hc y (by simp)).2
  rw [h3] at h1
  omega
/-- none is missing when there are so many -/
theorem LOk.full {L : List Ck} (h : LOk L) (hl : cntN L ≤ L.length) (n : Nat) (hn : n < cntN L) : hasN L (n : Int) = true := by
  cases hh : hasN L (n : Int) with
  | true => rfl
  | false =>
    exfalso
    unfold hasN at hh
    rw [List.any_eq_false] at hh
    have := nodup_len (cntN L) ((n : Int) :: L.map (·.num)) (List.nodup_cons.2 ⟨fun hm => by
      obtain ⟨c, hc, e⟩ := List.mem_map.1 hm
      exact hh c hc (by simp [e]), h.nd⟩) (fun x hx => by
        rcases List.mem_cons.1 hx with rfl | hx
        · omega
        · exact h.nums x hx)
    simp at this
    omega
theorem LOk.len_cnt {L : List Ck} (h : LOk L) : L.length ≤ cntN L := by
  have := nodup_len (cntN L) (L.map (·.num)) h.nd h.nums
  simpa using this
theorem joinTo_exact {L : List Ck} (h : LOk L) (hl : cntN L ≤ L.length) : ∀ k, k ≤ cntN L → ((joinTo L k).length : Int) = 128 * min (totOf L) (8 * k)
  | 0, _ => by
    by_cases hne : L = []
    · subst hne; rfl
    · have := h.tot hne
      simp [joinTo]; omega
  | k + 1, hk => by
    have ih := joinTo_exact h hl k (by omega)
    rw [joinTo_succ, List.length_append]
    obtain ⟨c, hc, e1, e2⟩ := datOf_mem (h.full hl k (by omega))
    have h1 := rgt_num (h.rg c hc)
    have h2 := h.tot (List.ne_nil_of_mem hc)
    have h3 : c.tot = totOf L := by
      cases L with
      | nil => cases hc
      | cons y r => exact (h.one c hc y (by simp)).2
    have h4 : (datOf L (k : Int)).data.toList.length = (datOf L (k : Int)).size := by rw [Array.length_toList]; rfl
    rw [h4, e2]
    rw [h3, e1] at h1
    unfold siz cnt at *
    omega
/-- the blocks of a snapshot that is whole -/
def chop (s : ByteArray) (n : Nat) : List ByteArray := (List.range n).map fun i => s.extract (i * 128) ((i + 1) * 128)
def blkE (L : List Ck) : Int := if L = [] ∨ L.length < cntN L then 7 else if ((crc (joinL L) : Nat) : Int) = dgOf L then 0 else 30
def blkL (L : List Ck) : List ByteArray := if blkE L = 0 then chop (st (joinL L)) (totOf L).toNat else []
theorem chop_len (s : ByteArray) (n : Nat) : (chop s n).length = n := by simp [chop]
theorem SLie.nil (w : World) : SLie w (.slice none 0 0) [] := ⟨none, 0, rfl, Nat.le_refl _, by decide, fun i hi => by simp at hi⟩
theorem SLie.none {w : World} {l : List ByteArray} (h : l = []) : SLie w (.slice none 0 0) l := by subst h; exact SLie.nil w
set_option maxRecDepth 100000 in
theorem blocks_nil (w : World) : Calls Try.prog 17 #[.pointer none] w fun e w' => e = .returned (.tuple #[.slice none 0 0, .int .i64 7]) ∧ Below w.heap.size w w' := by
  go_enter Try.func17, Try.ntmps17
  go_wp2_with (go_quiet ((go_at_call 31; exact Calls.quiet_of_same (begun_nil _))))
  go_ret2
  exact ⟨rfl, (Below.refl _ _).dN _⟩
set_option maxRecDepth 100000 in
theorem blocks_none {base g : Nat} {w : World} (h : CI base g w []) : Calls Try.prog 17 #[.pointer (some ⟨g, 0, none⟩)] w fun e w' => e = .returned (.tuple #[.slice none 0 0, .int .i64 7]) ∧ Below w.heap.size w w' := by
  go_enter Try.func17, Try.ntmps17
  go_wp2_with (go_quiet ((go_at_call 31; exact Calls.quiet_of_same (begun_no (h.drew _)))))
  go_ret2
  exact ⟨rfl, (Below.refl _ _).dN _⟩
set_option maxRecDepth 100000 in
set_option maxHeartbeats 1000000 in
/-- Blocks -/
theorem blocks_any {base g : Nat} {w : World} {L : List Ck} (h : CI base g w L) : Calls Try.prog 17 #[.pointer (some ⟨g, 0, none⟩)] w fun e w' => ∃ v, e = .returned (.tuple #[v, .int .i64 (blkE L)]) ∧ SLie w' v (blkL L) ∧ Below w.heap.size w w' := by
  by_cases hne : L = []
  · subst hne
    exact (blocks_none h).mono fun e w' ⟨he, hw⟩ => ⟨_, he, SLie.nil _, hw⟩
  · obtain ⟨t1, t2, t3, t4, t5⟩ := h.ok.tot hne
    have HBE : Hid (blkE L = if L.length < cntN L then 7 else if ((crc (joinL L) : Nat) : Int) = dgOf L then 0 else 30) := by
      show _ = _; unfold blkE; simp [hne]
    have hbt : begun L = true := by unfold begun; cases L with | nil => exact absurd rfl hne | cons _ _ => rfl
    have HBG := hid (fun (w' : World) (h' : CI base g w' L) => begun_any h')
    rw [hbt] at HBG
    have HCN := hid (fun w => count_any (totOf L) (by omega) t2 w)
    rw [t3] at HCN
    obtain ⟨mv, c0, c1, c2, hmv⟩ := h.cells
    obtain ⟨m, rfl, hm⟩ : ∃ m, mv = .map (some m) ∧ MIs m w L.length (L.map entC) := by
      rcases hmv with ⟨e, _⟩ | ⟨_, m, e, _, hm⟩
      · exact absurd e hne
      · exact ⟨m, e, hm⟩
    have HLEN := hid (fun q => (hm.same (w' := w.drewN q) rfl).len 3)
    rw [List.length_map] at HLEN
    have HLC := hid h.ok.len_cnt
    have H := hid h
    have HOK := hid h.ok
    have HNE := hid hne
    have HJ := hid (fun (w' : World) (h' : CI base g w' L) => joined_any h' hne)
    have HBL : Hid (blkL L = if blkE L = 0 then chop (st (joinL L)) (totOf L).toNat else []) := rfl
    have hll := h.ok.len
    obtain ⟨t, ht⟩ : ∃ t, t = totOf L := ⟨_, rfl⟩
    obtain ⟨C, hC⟩ : ∃ C, C = cntN L := ⟨_, rfl⟩
    obtain ⟨n, hn⟩ : ∃ n, n = L.length := ⟨_, rfl⟩
    obtain ⟨D, hD⟩ : ∃ D, D = dgOf L := ⟨_, rfl⟩
    have HT := hid ht
    have HC := hid hC
    rw [← ht] at HCN c1 HBL
    rw [← hC] at HCN t4 t5 HBE HLC
    rw [← hn] at HLEN HBE HLC hll
    rw [← hD] at c0 HBE
    have HN := hid hn
    have HD := hid hD
    have HTB := hid (And.intro t1 t2)
    clear hmv hm h hbt hne t3 hC hn hD ht t1 t2
    by_cases hlt : n < C
    · have hlen := HLEN.out
      go_enter Try.func17, Try.ntmps17
      go_wp2
      go_quiet ((first | (go_at_call 31; exact Calls.quiet_of_same (HBG.out _ (H.out.drew _))) | (go_at_call 26; exact Calls.quiet_of_same (HCN.out _))))
      go_wp2
      go_ret2
      refine ⟨_, ?_, SLie.none ?_, (Below.refl _ _).dN _⟩
      · rw [HBE.out, if_pos hlt]; rfl
      · rw [HBL.out, HBE.out, if_pos hlt]; rfl
    · have hlen := HLEN.out
      have hnC : n = C := by have := HLC.out; omega
      have HJX := hid (joinTo_exact HOK.out (by rw [← HC.out, ← HN.out]; omega) C (by rw [← HC.out]; omega))
      have HJD : Hid (joinL L = joinTo L C) := by show _ = _; rw [HC.out]; rfl
      have hjl : ((joinL L).length : Int) = 128 * t := by
        have h1 := HJX.out
        rw [← HJD.out, ← HT.out] at h1
        have h2 : cnt t = (C : Int) := by
          have := (HOK.out.tot HNE.out).2.2.1
          rw [← HT.out, ← HC.out] at this
          exact this
        have := HTB.out
        rw [← HT.out] at this
        unfold cnt at h2
        omega
      have HJL := hid hjl
      have htb := HTB.out
      rw [← HT.out] at htb
      obtain ⟨T, hT⟩ : ∃ T : Nat, T = t.toNat := ⟨_, rfl⟩
      have htT : t = (T : Int) := by omega
      have hT1 : 1 ≤ T ∧ T ≤ 1024 := by omega
      have hSL : (st (joinL L)).size = 128 * T := by rw [st_size]; omega
      have HS := hid (sumOf (st (joinL L)) (by rw [hSL]; unfold maxLen; omega))
      rw [st_list] at HS
      obtain ⟨S, hS⟩ : ∃ S, S = st (joinL L) := ⟨_, rfl⟩
      obtain ⟨k, hk⟩ : ∃ k, k = crc (joinL L) := ⟨_, rfl⟩
      rw [← hS] at HJ HS hSL HBL
      rw [← hk] at HS HBE
      obtain ⟨cs, hmk, hfil⟩ := mkSt T (by omega)
      have HFIL := hid hfil
      subst htT
      rw [show ((T : Int).toNat) = T by omega] at HBL
      have HSL := hid hSL
      clear hjl htb hT hS hk hfil HJL HJX HJD HTB
      go_enter Try.func17, Try.ntmps17
      go_wp2
      go_quiet ((first | (go_at_call 31; exact Calls.quiet_of_same (HBG.out _ (H.out.drew _))) | (go_at_call 26; exact Calls.quiet_of_same (HCN.out _))))
      go_wp2_with (go_at_call 34; fail)
      refine (HJ.out _ (H.out.drew _)).mono ?_
      rintro e w1 ⟨rfl, hb1⟩
      have HB1 : Hid (Below w.heap.size w w1) := hid (((Below.refl _ _).dN _).next hb1)
      have h1 := H.out.below HB1.out
      obtain ⟨mv, d0, d1, d2, _⟩ := h1.cells
      rw [← HD.out] at d0
      rw [← HT.out] at d1
      clear hb1 d2 c0 c1 c2 hlen h1
      by_cases hkD : (k : Int) = D
      · have hd : ((k : Int) != D) = false := by simpa using hkD
        have HKD := hid hkD
        clear hkD
        go_wp2
        go_quiet ((go_at_call 24; exact Calls.quiet_of_same (HS.out _)))
        go_wp2
        have hgw : w.heap.size ≤ w1.heap.size := HB1.out.size
        go_loopw [39] (fun i wr => ∃ q : Nat, q ≤ T ∧ i = .int .i64 q ∧ Hid (Below w.heap.size w wr) ∧ Hid (SFil w1.heap.size T q wr (chop S T))) (fun i _ => T - (intOf i).toNat)
        case atStart => exact ⟨0, Nat.zero_le _, rfl, (HB1.out.dN _).next (below_alloc _ _), HFIL.out _ _⟩
        case round =>
          obtain ⟨q, hq, rfl, HB, HF⟩ := hrel
          by_cases hqT : q < T
          · obtain ⟨x0, cx⟩ := HF.out.get q hqT
            have fx := HF.out.free q
            have hb1 : (q + 1) * 128 ≤ S.size := by rw [HSL.out]; omega
            have hb2 : q * 128 ≤ (q + 1) * 128 := by omega
            go_wp2
            go_roundw
            case rel =>
              refine ⟨q + 1, hqT, by go_num, HB.out.setCell (p := ⟨w1.heap.size, q, none⟩) hgw _, ?_⟩
              have hh := HF.out.set hqT (by rw [chop_len]; exact hqT)
              rw [show (chop S T)[q]'(by rw [chop_len]; exact hqT) = S.extract (q * 128) ((q + 1) * 128) by simp [chop]] at hh
              exact hh
            case measure => simp [intOf]; omega
          · have e : q = T := by omega
            subst e
            go_wp2
            go_ret2
            have hbe : blkE L = 0 := by rw [HBE.out, if_neg hlt, if_pos HKD.out]
            refine ⟨.slice (some ⟨w1.heap.size, 0, none⟩) q q, ?_, ?_, HB.out⟩
            · rw [hbe]; rfl
            · rw [HBL.out, if_pos hbe]
              exact HF.out.lie (chop_len _ _) (by omega)
      · have hd : ((k : Int) != D) = true := by simpa using hkD
        go_wp2
        go_quiet ((go_at_call 24; exact Calls.quiet_of_same (HS.out _)))
        go_wp2
        go_ret2
        refine ⟨_, ?_, SLie.none ?_, HB1.out.dN _⟩
        · rw [HBE.out, if_neg hlt, if_neg hkD]; rfl
        · rw [HBL.out, HBE.out, if_neg hlt, if_neg hkD]; rfl
end Go.Proofs.Ytogiiefaakejlaa
