import Derived.Test.YtaahdfogpehkfaaRp
import Derived.Test.YtaahdfogpehkfaaRw
import Derived.Test.YtaahdfogpehkfaaBw
import Derived.Deep.DeepCutAuto
namespace Go.Proofs.Ytaahdfogpehkfaa
open Go.RowKit Go.Maps
/-- a place of which nothing else is known -/
def zc (p : Int) : Chg := ⟨p, ⟨#[]⟩⟩
theorem getB (t : ByteArray) (i : Nat) (h : i < t.size) {c : UInt8} (hc : t.data.toList[i]? = some c) : t[i] = c := by
  rw [Array.getElem?_toList] at hc
  exact (Array.getElem?_eq_some_iff.1 hc).2
theorem hd_facts {b : ByteArray} {s : Nat} {ps : List Int} {sm : Nat} (h : isHead b s ps sm) : (unV b).2 = 0 ∧ (unV b).1.size = 14 + 2 * ps.length ∧ (∀ h0 : 0 < (unV b).1.size, (unV b).1[0].toNat = 84) ∧ ∀ h9 : 9 < (unV b).1.size, (unV b).1[9].toNat = ps.length := by
  obtain ⟨hu, _, _, hp, _⟩ := h
  have h48 := (placesB_iff.1 hp).2
  rw [hu]
  refine ⟨rfl, by rw [st_size, headL_len], fun h0 => ?_, fun h9 => ?_⟩
  · rw [getB _ 0 h0 (c := 84) (by rw [st_list]; rfl)]; rfl
  · rw [getB _ 9 h9 (c := UInt8.ofNat (ps.length % 256)) (by
      rw [st_list]
      have e : headL s ps sm = ([84] ++ fEnc s 8) ++ (fEnc ps.length 1 ++ (plE ps ++ fEnc sm 4)) := by unfold headL; simp only [List.append_assoc]
      rw [e, List.getElem?_append_right (by simp [fEnc_len]), show (([84] : List UInt8) ++ fEnc s 8).length = 9 by simp [fEnc_len]]
      rfl)]
    rw [UInt8.toNat_ofNat']
    omega
theorem RP.no {b : ByteArray} {bl : List ByteArray} {w' : World} (h : ¬ ∃ s ps sm, isHead b s ps sm) : RP b bl (.returned (.tuple #[.int .i64 0, .slice none 0 0, .int .i64 0, .int .i64 4])) w' := ⟨fun _ => rfl, fun s ps sm hd => absurd ⟨s, ps, sm, hd⟩ h⟩
theorem below_kept {w2 w4 : World} {o : Obj} (k : Kept (w2.alloc o).heap.size w2.heap.size (w2.alloc o) w4) : Below w2.heap.size w2 w4 := by
  obtain ⟨a1, a2, a3, a4, a5⟩ := k
  refine ⟨a1, a2, a3, ?_, fun j hj => (a5 j (by simp; omega) (by omega)).trans (Below.heap_alloc _ _ _ hj)⟩
  simp at a4
  omega
/-- places laid, of which so many have their blocks -/
def Fil2 (g n q : Nat) (w : World) (L : List Chg) : Prop :=
  ∃ cur, w.heap[g]? = some (.cells cur 44 (0, 0)) ∧ n * 2 ≤ cur.size ∧ ∀ i (hi : i < L.length), cur[i * 2]? = some (.int .i64 L[i].b) ∧ (i < q → cur[i * 2 + 1]? = some (.string L[i].d))
theorem Fil2.get {g n q : Nat} {w : World} {L : List Chg} (h : Fil2 g n q w L) (j : Nat) (hj : j < n * 2) : ∃ x, w.cell? ⟨g, j, none⟩ = some x := by
  obtain ⟨cur, h1, h2, _⟩ := h
  exact ⟨cur[j]'(by omega), by simp [World.cell?, h1]⟩
theorem Fil2.free {g n q : Nat} {w : World} {L : List Chg} (h : Fil2 g n q w L) (j : Nat) : w.frozen? ⟨g, j, none⟩ = false := by
  obtain ⟨cur, h1, h2, _⟩ := h
  simp [World.frozen?, h1]
theorem Fil2.set {g n q : Nat} {w : World} {L : List Chg} (h : Fil2 g n q w L) (hL : L.length = n) (hq : q < n) : Fil2 g n (q + 1) (w.setCell ⟨g, q * 2 + 1, none⟩ (.string (L[q]'(by omega)).d)) L := by
  obtain ⟨cur, h1, h2, h3⟩ := h
  refine ⟨_, cells_set h1 _, by simpa using h2, fun i hi => ?_⟩
  obtain ⟨k0, k1⟩ := h3 i hi
  have z1 : ¬ q * 2 + 1 = i * 2 := by omega
  refine ⟨?_, fun hlt => ?_⟩
  · rw [← k0]; simp [z1]
  · by_cases hiq : i = q
    · subst hiq
      have z2 : i * 2 + 1 < cur.size := by omega
      simp [z2]
    · have z3 : ¬ q * 2 + 1 = i * 2 + 1 := by omega
      rw [← k1 (by omega), Array.set!_eq_setIfInBounds, Array.getElem?_setIfInBounds_ne z3]
theorem Fil2.lie {g n cap : Nat} {w : World} {L : List Chg} (h : Fil2 g n n w L) (hL : L.length = n) (h1 : n ≤ cap) (h2 : cap ≤ maxLen) : CLie w (.slice (some ⟨g, 0, none⟩) n cap) L := by
  obtain ⟨cur, k1, k2, k3⟩ := h
  refine ⟨_, _, by rw [hL], by omega, h2, fun i hi => ⟨g, 0, rfl, lt_of_block k1, ?_⟩⟩
  obtain ⟨x0, x1⟩ := k3 i hi
  rw [Nat.zero_add]
  exact ⟨by simp [World.cell?, k1, x0], by simp [World.cell?, k1, x1 (by omega)]⟩
theorem crow_some {B : Nat} {w : World} {v : Value} {ps : List Int} {D : List ByteArray} (h : CRow B w v (ps.map zc)) (hD : D.length = ps.length) (hp : 0 < ps.length) : ∃ g cap, v = .slice (some ⟨g, 0, none⟩) ps.length cap ∧ ps.length ≤ cap ∧ cap ≤ maxLen ∧ B ≤ g ∧ Fil2 g ps.length 0 w (zipC ps D) := by
  have hl : (ps.map zc).length = ps.length := by simp
  rcases h.2 with ⟨rfl, hz⟩ | ⟨gb, cap, cur, rfl, hbase, hgb, r1, r2, r3, r4⟩
  · omega
  · rw [hl] at r1 r4 ⊢
    refine ⟨gb, cap, rfl, r1, r2, hbase, cur, hgb, by omega, fun i hi => ⟨?_, fun h => by omega⟩⟩
    have hi' : i < ps.length := by rw [zipC_len hD] at hi; exact hi
    have hlt : i * 2 < ps.length * 2 := by omega
    have e1 : cur.toList[i * 2]? = (cc (ps.map zc))[i * 2]? := by rw [← r4, List.getElem?_take_of_lt hlt]
    rw [cc_get _ _ (by rw [hl]; exact hlt), show i * 2 / 2 = i by omega, show i * 2 % 2 = 0 by omega, getElem!_pos (ps.map zc) i (by rw [hl]; exact hi'), Array.getElem?_toList] at e1
    rw [e1, zipC_get i hi hi' (by omega), List.getElem_map]
    rfl
theorem refDecode_none (ao : Option Addr) (cap : Nat) (w : World) : Calls Try.prog 18 #[.slice ao 0 cap] w fun e w' => e = .returned (.tuple #[.int .i64 0, .slice none 0 0, .int .i64 0, .int .i64 20]) ∧ w' = w := by
  go_enter Try.func18, Try.ntmps18
  go_wp2
  refine bodyPost_ret (v := .tuple #[.int .i64 0, .slice none 0 0, .int .i64 0, .int .i64 20]) (by simp [results, Try.results18, go_sem]) rfl ⟨rfl, rfl⟩
set_option maxRecDepth 100000 in
set_option maxHeartbeats 8000000 in
theorem refDecode_any (v : Value) (b : ByteArray) (bl : List ByteArray) (w : World) (h : SLie w v (b :: bl)) (hb : b.size ≤ 150000000000000) : Calls Try.prog 18 #[v] w fun e w' => RP b bl e w' ∧ Below w.heap.size w w' := by
  have HSL := hid h
  obtain ⟨ao, cap, rfl, hlc, hcm, hcell⟩ := h
  obtain ⟨gb, off, rfl, hg, c0⟩ := hcell 0 (by simp)
  rw [List.getElem_cons_zero, Nat.add_zero] at c0
  rw [List.length_cons] at hlc HSL ⊢
  have HC := hid hcell
  unfold maxLen at hcm
  have HU := hid (fun w => refUnblock b hb w)
  have HF := hid (fun s ps sm h => hd_facts (b := b) (s := s) (ps := ps) (sm := sm) h)
  have HBK := hid (fun h => (un_back b h).2)
  obtain ⟨t, ht⟩ : ∃ t, t = (unV b).1 := ⟨_, rfl⟩
  obtain ⟨e, he⟩ : ∃ e, e = (unV b).2 := ⟨_, rfl⟩
  have HUV : Hid (unV b = (t, e)) := by show _ = _; rw [ht, he]
  rw [← ht, ← he] at HU HF HBK
  clear hcell ht he
  by_cases c1 : e = 0
  · have hts := HBK.out c1
    have HTS := hid hts
    by_cases c2 : t.size < 14
    · have hno : ¬ ∃ s ps sm, isHead b s ps sm := fun ⟨s, ps, sm, hd⟩ => by have := (HF.out s ps sm hd).2.1; omega
      subst c1
      go_enter Try.func18, Try.ntmps18
      go_wp2_with (first | (go_at_call 35; refine (HU.out _).mono ?_; rintro e w1 ⟨rfl, hb1⟩))
      refine bodyPost_ret (v := .tuple #[.int .i64 0, .slice none 0 0, .int .i64 0, .int .i64 4]) (by simp [results, Try.results18, go_sem]) rfl ⟨RP.no hno, hb1⟩
    · have h0 : 0 < t.size := by omega
      have h9 : 9 < t.size := by omega
      have k0 : t[0].toNat < 256 := t[0].toNat_lt
      have k9 : t[9].toNat < 256 := t[9].toNat_lt
      cases c3 : ((t[0].toNat : Int) != 84) with
      | true =>
        have hno : ¬ ∃ s ps sm, isHead b s ps sm := fun ⟨s, ps, sm, hd⟩ => by
          have := (HF.out s ps sm hd).2.2.1 h0
          rw [this] at c3
          exact absurd c3 (by decide)
        subst c1
        go_enter Try.func18, Try.ntmps18
        go_wp2_with (first | (go_at_call 35; refine (HU.out _).mono ?_; rintro e w1 ⟨rfl, hb1⟩))
        refine bodyPost_ret (v := .tuple #[.int .i64 0, .slice none 0 0, .int .i64 0, .int .i64 4]) (by simp [results, Try.results18, go_sem]) rfl ⟨RP.no hno, hb1⟩
      | false =>
        cases c4 : ((t.size : Int) != (14 : Int) + (2 : Int) * (t[9].toNat : Int)) with
        | true =>
          have hno : ¬ ∃ s ps sm, isHead b s ps sm := fun ⟨s, ps, sm, hd⟩ => by
            have h1 := (HF.out s ps sm hd).2.2.2 h9
            have h2 := (HF.out s ps sm hd).2.1
            rw [h1, h2] at c4
            simp at c4 <;> omega
          subst c1
          go_enter Try.func18, Try.ntmps18
          go_wp2_with (first | (go_at_call 35; refine (HU.out _).mono ?_; rintro e w1 ⟨rfl, hb1⟩))
          refine bodyPost_ret (v := .tuple #[.int .i64 0, .slice none 0 0, .int .i64 0, .int .i64 4]) (by simp [results, Try.results18, go_sem]) rfl ⟨RP.no hno, hb1⟩
        | false =>
          obtain ⟨m, hm⟩ : ∃ m, t[9].toNat = m := ⟨_, rfl⟩
          have htm : t.size = 14 + 2 * m := by
            rw [hm] at c4
            simp at c4
            omega
          have hm256 : m < 256 := by omega
          obtain ⟨ps, hpl, hpb, hL, hsm⟩ := parse (L := t.data.toList) (m := m) (by rw [len_list]; exact htm) (by
              have e : t[0] = 84 := by
                have hz : (t[0].toNat : Int) = 84 := by
                  revert c3
                  generalize (t[0].toNat : Int) = z
                  intro c3
                  simpa using c3
                apply UInt8.toNat_inj.1
                show t[0].toNat = 84
                omega
              have h1 : t.data.toList = t[0] :: t.data.toList.drop 1 := by
                have := List.drop_eq_getElem_cons (l := t.data.toList) (i := 0) (by rw [len_list]; exact h0)
                rw [List.drop_zero] at this
                exact this
              rw [h1, e]; rfl) (by
              have h1 := List.drop_eq_getElem_cons (l := t.data.toList) (i := 9) (by rw [len_list]; exact h9)
              rw [h1]
              show [t[9]] = [UInt8.ofNat (m % 256)]
              rw [← hm, Nat.mod_eq_of_lt k9, u8_of])
          have h8l : ((t.data.toList.drop 1).take 8).length = 8 := by rw [List.length_take, List.length_drop, len_list]; omega
          have hs64 := big_lt ((t.data.toList.drop 1).take 8)
          rw [h8l, show (256 : Nat) ^ 8 = 18446744073709551616 by decide] at hs64
          obtain ⟨n, hn⟩ : ∃ n, n = t.extract 1 t.size := ⟨_, rfl⟩
          have hnl : n.data.toList.take 8 = (t.data.toList.drop 1).take 8 := by rw [hn, ext_list, List.take_of_length_le (l := t.data.toList) (by rw [len_list]; exact Nat.le_refl _)]
          have hns : n.size = t.size - 1 := by
            rw [← len_list, hn, ext_list, List.length_drop, List.length_take, len_list]
            omega
          obtain ⟨s, hs⟩ : ∃ s, s = big ((t.data.toList.drop 1).take 8) := ⟨_, rfl⟩
          obtain ⟨sm, hsme⟩ : ∃ sm, sm = big (t.data.toList.drop (10 + 2 * m)) := ⟨_, rfl⟩
          rw [← hs] at hL hs64
          rw [← hsme] at hL hsm
          have hfv : fval (n.data.toList.take 8) = s := by rw [fval_big, hnl, hs]
          have HONLY : Hid (∀ s' ps' sm', isHead b s' ps' sm' → s' = s ∧ ps' = ps ∧ sm' = sm) := fun s' ps' sm' h' =>
            isHead_only (by rw [HUV.out, c1, ← hL, st_toList]) hs64 hpb hsm h'
          have HHEAD : Hid (1 ≤ s → s ≤ 1099511627776 → placesB ps = true → isHead b s ps sm) := fun a1 a2 a3 => ⟨by rw [HUV.out, c1, ← hL, st_toList], a1, a2, a3, hsm⟩
          have HPL := hid (fun i hi h0 h1 => head_place s ps sm i hi hpb t hL h0 h1)
          have HPB := hid hpb
          have HPE := hid hpl
          have HN := hid hn
          have HQ1 := hid (fun hb g w h => q8_ok g n (by omega) (by unfold maxLen; omega) hb w h)
          have HQ2 := hid (fun hb g w h => q8_form g n (by omega) hb w h)
          rw [hfv] at HQ1 HQ2
          have HM9 := hid hm
          have HC3 := hid c3
          have HTM := hid htm
          clear hL hn hs hsme hfv hnl hns hpb hpl c3 c4 hm h8l k0 k9 htm
          subst c1
          go_enter Try.func18, Try.ntmps18
          have c3 : ((t[0].toNat : Int) != 84) = false := HC3.out
          have c4 : ((t.size : Int) != (14 : Int) + (2 : Int) * (t[9].toNat : Int)) = false := by rw [HM9.out, HTM.out]; simp
          have k0 : t[0].toNat < 256 := t[0].toNat_lt
          have k9 : t[9].toNat < 256 := t[9].toNat_lt
          go_wp2_with (first
            | (go_at_call 35; refine (HU.out _).mono ?_; rintro e w1 ⟨rfl, hb1⟩; have HB1 := hid hb1; clear hb1)
            | (go_at_call 36; fail))
          rw [← HN.out]
          have HQN := hid (QIs.new n w1)
          by_cases hs63 : s < 9223372036854775808
          · refine (HQ1.out hs63 _ _ HQN.out).mono ?_
            rintro e w2 ⟨rfl, hk2⟩
            have HB2 := hid (HB1.out.next (below_kept hk2))
            clear hk2 c3 c4
            by_cases hlo : 1 ≤ s
            · by_cases hhi : s ≤ 1099511627776
              · have hm54 : m ≤ 54 := by have := HTM.out; omega
                go_wp2
                simp only [HM9.out]
                go_loopw [12, 13, 14] (fun ov la i wr => ∃ (q : Nat) (last : Int), i = .int .i64 q ∧ q ≤ m ∧ la = .int .i64 last ∧ CRow w2.heap.size wr ov ((ps.take q).map zc) ∧ risesI (-1) ps = risesI last (ps.drop q) ∧ Below w2.heap.size w2 wr) (fun _ _ i _ => m - (intOf i).toNat)
                case atStart => exact ⟨0, -1, rfl, Nat.zero_le _, rfl, CRow.nil _ _, rfl, Below.refl _ _⟩
                case round =>
                  obtain ⟨q, last, rfl, hq, rfl, hRq, hri, hBq⟩ := hrel
                  have HRq := hid hRq
                  have HBq := hid hBq
                  have HRI := hid hri
                  obtain ⟨oo, ocap, rfl, ho1, ho2⟩ := hRq.len
                  unfold maxLen at ho2
                  have hlT : ((ps.take q).map zc).length = q := by rw [List.length_map, List.length_take, HPE.out]; omega
                  have hzq := hBq.size
                  obtain ⟨T, hT⟩ : ∃ T, T = (ps.take q).map zc := ⟨_, rfl⟩
                  rw [← hT] at HRq ho1 hlT ⊢
                  have HT := hid hT
                  have HLT := hid hlT
                  have hTb : T.length ≤ 54 := by omega
                  clear hRq hri hBq hT hlT
                  by_cases hqk : q < m
                  · have hqp : q < ps.length := by rw [HPE.out]; exact hqk
                    have hi0 : 10 + 2 * q < t.size := by have := HTM.out; omega
                    have hi1 : 11 + 2 * q < t.size := by have := HTM.out; omega
                    have hpp := HPB.out _ (List.getElem_mem hqp)
                    have HPLq := hid (HPL.out q hqp hi0 hi1)
                    have HTK := hid (List.take_succ_eq_append_getElem hqp)
                    have HDR := hid (drop_at ps q hqp)
                    obtain ⟨p, hp⟩ : ∃ p, p = ps[q] := ⟨_, rfl⟩
                    rw [← hp] at hpp HPLq HTK HDR
                    clear hp
                    have j0 : t[10 + 2 * q].toNat < 256 := t[10 + 2 * q].toNat_lt
                    have j1 : t[11 + 2 * q].toNat < 256 := t[11 + 2 * q].toNat_lt
                    have hi0' : (10 : Int) + 2 * (q : Int) < (t.size : Int) := by omega
                    have hi1' : (11 : Int) + 2 * (q : Int) < (t.size : Int) := by omega
                    have hn0 : ((10 : Int) + 2 * (q : Int)).toNat = 10 + 2 * q := by omega
                    have hn1 : ((11 : Int) + 2 * (q : Int)).toNat = 11 + 2 * q := by omega
                    have hz0 : (0 : Int) ≤ 10 + 2 * (q : Int) := by omega
                    have hz1 : (0 : Int) ≤ 11 + 2 * (q : Int) := by omega
                    have hr0 : ∀ w : World, (Instr.index 9 (.string t) (.int .i64 ((10 : Int) + 2 * (q : Int)))).run Try.prog w = .ok (.int .u8 ((t[10 + 2 * q].toNat : Nat) : Int)) w := by
                      intro w
                      rw [run_index_string w 9 t .i64 _ Try.underlying9, dif_pos ⟨hz0, hi0'⟩]
                      simp only [hn0]
                    have hr1 : ∀ w : World, (Instr.index 9 (.string t) (.int .i64 ((11 : Int) + 2 * (q : Int)))).run Try.prog w = .ok (.int .u8 ((t[11 + 2 * q].toNat : Nat) : Int)) w := by
                      intro w
                      rw [run_index_string w 9 t .i64 _ Try.underlying9, dif_pos ⟨hz1, hi1'⟩]
                      simp only [hn1]
                    go_wp2
                    go_quiet ((fail))
                    rw [HPLq.out]
                    clear hr0 hr1 hi0' hi1' hn0 hn1 hz0 hz1
                    by_cases hlt : last < p
                    · by_cases h1024 : p < 1024
                      · go_wp2_with (first
                          | (at_builtin; refine pushC (w0 := _) rfl (.tmp 100) (.tmp 103) rfl w2.heap.size _ _ T (zc p) rfl rfl rfl HRq.out (by omega) hzq ?_
                             intro v8 w8 hS8 hb8 hk8))
                        go_roundw
                        case rel =>
                          refine ⟨q + 1, p, by go_num, by omega, rfl, ?_, ?_, HBq.out.trans ⟨hb8.os, hb8.tape, hb8.output, hb8.size, hb8.block⟩⟩
                          · rw [HTK.out, List.map_append, ← HT.out]; exact hS8
                          · rw [HRI.out, HDR.out]
                            simp [risesI, hlt, h1024]
                        case measure => simp [intOf]; omega
                      · have hno : ¬ ∃ s ps sm, isHead b s ps sm := fun ⟨s', ps', sm', hd⟩ => by
                          have h1 := (HONLY.out s' ps' sm' hd).2.1
                          have h2 := (placesB_iff.1 hd.2.2.2.1).1
                          rw [h1, HRI.out, HDR.out] at h2
                          simp [risesI, h1024] at h2
                        go_wp2
                        refine bodyPost_ret (v := .tuple #[.int .i64 0, .slice none 0 0, .int .i64 0, .int .i64 4]) (by simp [results, Try.results18, go_sem]) rfl ⟨RP.no hno, ?_⟩
                        have hf := HB2.out.next HBq.out
                        exact ⟨hf.os, hf.tape, hf.output, hf.size, hf.block⟩
                    · have hno : ¬ ∃ s ps sm, isHead b s ps sm := fun ⟨s', ps', sm', hd⟩ => by
                        have h1 := (HONLY.out s' ps' sm' hd).2.1
                        have h2 := (placesB_iff.1 hd.2.2.2.1).1
                        rw [h1, HRI.out, HDR.out] at h2
                        simp [risesI, hlt] at h2
                      go_wp2
                      refine bodyPost_ret (v := .tuple #[.int .i64 0, .slice none 0 0, .int .i64 0, .int .i64 4]) (by simp [results, Try.results18, go_sem]) rfl ⟨RP.no hno, ?_⟩
                      have hf := HB2.out.next HBq.out
                      exact ⟨hf.os, hf.tape, hf.output, hf.size, hf.block⟩
                  · have hqe : q = m := by omega
                    subst hqe
                    have hpr : risesI (-1) ps = true := by
                      rw [HRI.out, List.drop_of_length_le (by rw [HPE.out]; exact Nat.le_refl _)]; rfl
                    have HPR := hid hpr
                    clear hpr
                    by_cases h48 : 48 < q
                    · have hno : ¬ ∃ s ps sm, isHead b s ps sm := fun ⟨s', ps', sm', hd⟩ => by
                        have h1 := (HONLY.out s' ps' sm' hd).2.1
                        have h2 := (placesB_iff.1 hd.2.2.2.1).2
                        rw [h1, HPE.out] at h2
                        omega
                      go_wp2
                      refine bodyPost_ret (v := .tuple #[.int .i64 0, .slice none 0 0, .int .i64 0, .int .i64 4]) (by simp [results, Try.results18, go_sem]) rfl ⟨RP.no hno, HB2.out.next HBq.out⟩
                    · have HD := hid (HHEAD.out hlo hhi (placesB_iff.2 ⟨HPR.out, by rw [HPE.out]; omega⟩))
                      by_cases hcut : bl.length < q
                      · go_wp2
                        refine bodyPost_ret (v := .tuple #[.int .i64 0, .slice none 0 0, .int .i64 0, .int .i64 20]) (by simp [results, Try.results18, go_sem]) rfl ⟨⟨fun hn => absurd ⟨s, ps, sm, HD.out⟩ hn, fun s' ps' sm' hd' => ?_⟩, HB2.out.next HBq.out⟩
                        obtain ⟨rfl, rfl, rfl⟩ := HONLY.out s' ps' sm' hd'
                        exact ⟨fun _ => rfl, fun hx => by have := HPE.out; omega⟩
                      · obtain ⟨D, hDe⟩ : ∃ D, D = bl.take ps.length := ⟨_, rfl⟩
                        have hDl : D.length = ps.length := by rw [hDe, List.length_take, HPE.out]; omega
                        have HDL := hid hDl
                        have HDE := hid hDe
                        have HLL : Hid ((zipC ps D).length = q) := by show _ = _; rw [zipC_len hDl, HPE.out]
                        have HRL : Hid (right (zipC ps D) = blocksB D) := by
                          show _ = _
                          unfold right
                          rw [right_zip hDl HPR.out, HLL.out, decide_eq_true (by omega)]; rfl
                        have HAG := hid (again HD.out hDl)
                        have HGET : Hid (∀ j (hj : j < q), ∃ hd : j < D.length, (zipC ps D)[j]'(by rw [HLL.out]; exact hj) = ⟨ps[j]'(by rw [HPE.out]; exact hj), D[j]⟩ ∧ w.cell? ⟨gb, off + (j + 1), none⟩ = some (.string D[j])) := by
                          intro j hj
                          have h1 : j < D.length := by rw [hDl, HPE.out]; exact hj
                          refine ⟨h1, zipC_get j _ _ h1, ?_⟩
                          obtain ⟨gb', off', e1, _, c⟩ := HC.out (j + 1) (by simp; omega)
                          injection e1 with e1
                          injection e1 with e2 e3 _
                          subst e2 e3
                          rw [List.getElem_cons_succ] at c
                          rw [c]
                          congr 2
                          have : D[j] = (bl.take ps.length)[j]'(by rw [← hDe]; exact h1) := by simp only [hDe]
                          rw [this, List.getElem_take]
                        have HST : Hid (q = 0 ∨ ∃ g, oo = some ⟨g, 0, none⟩ ∧ w2.heap.size ≤ g ∧ Fil2 g q 0 wr (zipC ps D)) := by
                          by_cases hq0 : q = 0
                          · exact .inl hq0
                          · refine .inr ?_
                            have hT2 : T = ps.map zc := by rw [HT.out, List.take_of_length_le (by rw [HPE.out]; exact Nat.le_refl _)]
                            obtain ⟨g, cp, e1, _, _, e4, e5⟩ := crow_some (hT2 ▸ HRq.out) hDl (by rw [HPE.out]; omega)
                            injection e1 with e1 _ _
                            rw [HPE.out] at e5
                            exact ⟨g, e1, e4, e5⟩
                        rw [HLT.out] at ho1 ⊢
                        clear hDl hDe
                        obtain ⟨L, hLz⟩ : ∃ L, L = zipC ps D := ⟨_, rfl⟩
                        have HLZ := hid hLz
                        rw [← hLz] at HLL HRL HAG HST
                        clear hLz
                        go_wp2
                        go_loopw [114] (fun i wx => ∃ j : Nat, i = .int .i64 j ∧ j ≤ q ∧ (q = 0 ∨ ∃ g, oo = some ⟨g, 0, none⟩ ∧ w2.heap.size ≤ g ∧ Fil2 g q j wx L) ∧ Below w2.heap.size w2 wx) (fun i _ => q - (intOf i).toNat)
                        case atStart => exact ⟨0, rfl, Nat.zero_le _, HST.out, HBq.out⟩
                        case round =>
                          rename World => wx
                          obtain ⟨j, rfl, hj, hst, hBx⟩ := hrel
                          have HBx := hid hBx
                          have HBw := hid (HB2.out.next hBx)
                          have HSX := hid hst
                          clear hBx hst
                          by_cases hjk : j < q
                          · obtain ⟨g, e1, hgg, hF⟩ : ∃ g, oo = some ⟨g, 0, none⟩ ∧ w2.heap.size ≤ g ∧ Fil2 g q j wx L := by
                              rcases HSX.out with h | h
                              · omega
                              · exact h
                            subst e1
                            obtain ⟨hdj, ez, dc⟩ := HGET.out j hjk
                            replace dc := (HBw.out.cell (p := ⟨gb, off + (j + 1), none⟩) hg).trans dc
                            have hgr : gb < wx.heap.size := Nat.lt_of_lt_of_le hg HBw.out.size
                            obtain ⟨x1, hx1⟩ := hF.get (j * 2 + 1) (by omega)
                            have hf1 := hF.free (j * 2 + 1)
                            have HS2 := hid (hF.set HLL.out hjk)
                            have eL : (L[j]'(by rw [HLL.out]; exact hjk)).d = D[j] := by
                              have : L[j]'(by rw [HLL.out]; exact hjk) = (zipC ps D)[j]'(by rw [← HLZ.out, HLL.out]; exact hjk) := by simp only [HLZ.out]
                              rw [this, ez]
                            rw [eL] at HS2
                            obtain ⟨d, hd⟩ : ∃ d, d = D[j] := ⟨_, rfl⟩
                            rw [← hd] at dc HS2
                            clear hd ez eL
                            have hwl : g < wx.heap.size := by
                              obtain ⟨cur, k, _⟩ := hF
                              exact lt_of_block k
                            clear hF
                            go_wp2
                            go_roundw
                            case rel => exact ⟨j + 1, by go_num, by omega, .inr ⟨g, rfl, hgg, HS2.out⟩, HBx.out.setCell hgg _⟩
                            case measure => simp [intOf]; omega
                          · have hje : j = q := by omega
                            subst hje
                            have HCL : Hid (CLie wx (.slice oo j ocap) L) := by
                              rcases HSX.out with h | ⟨g, e1, _, hF⟩
                              · have : L = [] := List.eq_nil_of_length_eq_zero (by rw [HLL.out]; exact h)
                                subst this
                                subst h
                                exact ⟨oo, ocap, rfl, Nat.zero_le _, by unfold maxLen; omega, fun i hi => by simp at hi⟩
                              · subst e1
                                exact hF.lie HLL.out ho1 (by unfold maxLen; omega)
                            cases hB : blocksB D with
                            | false =>
                              have HE := hid (fun w h => refEncode_txn (s : Int) (.slice oo j ocap) L (by omega) w h (by rw [HRL.out]; exact hB))
                              go_wp2_with (first | (go_at_call 16; refine (HE.out _ HCL.out).mono ?_; rintro e w5 ⟨rfl, hb5⟩; have HB5 := hid (HBw.out.next hb5); clear hb5))
                              go_quiet ((fail))
                              go_wp2
                              refine bodyPost_ret (v := .tuple #[.int .i64 0, .slice none 0 0, .int .i64 0, .int .i64 4]) (by simp [results, Try.results18, go_sem]) rfl ⟨⟨fun hn => absurd ⟨s, ps, sm, HD.out⟩ hn, fun s' ps' sm' hd' => ?_⟩, HB5.out.dN _⟩
                              obtain ⟨rfl, rfl, rfl⟩ := HONLY.out s' ps' sm' hd'
                              refine ⟨fun hx => by have := HPE.out; omega, fun _ => ?_⟩
                              rw [← HDE.out]
                              exact ⟨fun hx => by rw [hB] at hx; exact absurd hx.1 (by decide), fun _ => rfl⟩
                            | true =>
                              have HE := hid (fun w h => refEncode_ok s (.slice oo j ocap) L hlo hhi w h (by rw [HRL.out]; exact hB))
                              have hEl : (encL s L).length = L.length + 1 := encL_len s L
                              have HE0 : Hid ((encL s L)[0]'(by rw [hEl]; omega) = headB s L) := rfl
                              go_wp2_with (first | (go_at_call 16; fail))
                              refine (HE.out _ HCL.out).mono ?_
                              rintro e w5 ⟨av, rfl, hS5, hb5⟩
                              have HB5 := hid (HBw.out.next hb5)
                              have HCL5 := hid (HCL.out.below hb5)
                              obtain ⟨ao5, acap, rfl, ha1, ha2, hac⟩ := hS5
                              obtain ⟨ag, aoff, rfl, hagl, ac⟩ := hac 0 (by rw [hEl]; omega)
                              rw [HE0.out, Nat.add_zero] at ac
                              rw [hEl] at ha1 ⊢
                              unfold maxLen at ha2
                              have c5 := (HB5.out.cell (p := ⟨gb, off, none⟩) hg).trans c0
                              have hg5 : gb < w5.heap.size := Nat.lt_of_lt_of_le hg HB5.out.size
                              obtain ⟨x, hx⟩ : ∃ x, x = headB s L := ⟨_, rfl⟩
                              rw [← hx] at ac HAG
                              clear hx hac hb5 HE0 hEl
                              by_cases hc : crc (allD D) = sm
                              · have hxb : x = b := HAG.out.2 hc
                                subst hxb
                                go_wp2
                                go_quiet ((fail))
                                go_wp2
                                refine bodyPost_ret (v := .tuple #[.int .i64 s, .slice oo j ocap, .int .i64 ((j : Int) + 1), .int .i64 0]) (by simp [results, Try.results18, go_sem]) rfl ⟨⟨fun hn => absurd ⟨s, ps, sm, HD.out⟩ hn, fun s' ps' sm' hd' => ?_⟩, HB5.out.dN _⟩
                                obtain ⟨rfl, rfl, rfl⟩ := HONLY.out s' ps' sm' hd'
                                refine ⟨fun hx => by have := HPE.out; omega, fun _ => ?_⟩
                                rw [← HDE.out]
                                refine ⟨fun _ => ⟨.slice oo j ocap, by rw [HPE.out, Int.add_comm], ?_⟩, fun hx => absurd ⟨hB, hc⟩ hx⟩
                                rw [← HLZ.out]
                                exact HCL5.out.below ⟨rfl, rfl, rfl, Nat.le_refl _, fun _ _ => rfl⟩
                              · have hxb : (x.toList == b.toList) = false := by
                                  cases hz : (x.toList == b.toList) with
                                  | false => rfl
                                  | true =>
                                    have h1 : x.toList = b.toList := by simpa using hz
                                    rw [Lib.toList_data, Lib.toList_data] at h1
                                    exact absurd (HAG.out.1 (ByteArray.ext (Array.toList_inj.1 h1))) hc
                                go_wp2
                                go_quiet ((fail))
                                go_wp2
                                refine bodyPost_ret (v := .tuple #[.int .i64 0, .slice none 0 0, .int .i64 0, .int .i64 4]) (by simp [results, Try.results18, go_sem]) rfl ⟨⟨fun hn => absurd ⟨s, ps, sm, HD.out⟩ hn, fun s' ps' sm' hd' => ?_⟩, HB5.out.dN _⟩
                                obtain ⟨rfl, rfl, rfl⟩ := HONLY.out s' ps' sm' hd'
                                refine ⟨fun hx => by have := HPE.out; omega, fun _ => ?_⟩
                                rw [← HDE.out]
                                exact ⟨fun hx => absurd hx.2 hc, fun _ => rfl⟩
              · have hno : ¬ ∃ s ps sm, isHead b s ps sm := fun ⟨s', ps', sm', hd⟩ => by
                  have h1 := (HONLY.out s' ps' sm' hd).1
                  have h2 := hd.2.2.1
                  omega
                go_wp2
                refine bodyPost_ret (v := .tuple #[.int .i64 0, .slice none 0 0, .int .i64 0, .int .i64 4]) (by simp [results, Try.results18, go_sem]) rfl ⟨RP.no hno, HB2.out⟩
            · have hno : ¬ ∃ s ps sm, isHead b s ps sm := fun ⟨s', ps', sm', hd⟩ => by
                have h1 := (HONLY.out s' ps' sm' hd).1
                have h2 := hd.2.1
                omega
              go_wp2
              refine bodyPost_ret (v := .tuple #[.int .i64 0, .slice none 0 0, .int .i64 0, .int .i64 4]) (by simp [results, Try.results18, go_sem]) rfl ⟨RP.no hno, HB2.out⟩
          · refine (HQ2.out hs63 _ _ HQN.out).mono ?_
            rintro e w2 ⟨rfl, hk2⟩
            have HB2 := hid (HB1.out.next (below_kept hk2))
            have hno : ¬ ∃ s ps sm, isHead b s ps sm := fun ⟨s', ps', sm', hd⟩ => by
              have h1 := (HONLY.out s' ps' sm' hd).1
              have h2 := hd.2.2.1
              omega
            clear hk2 c3 c4
            go_wp2
            refine bodyPost_ret (v := .tuple #[.int .i64 0, .slice none 0 0, .int .i64 0, .int .i64 4]) (by simp [results, Try.results18, go_sem]) rfl ⟨RP.no hno, HB2.out⟩
  · have hno : ¬ ∃ s ps sm, isHead b s ps sm := fun ⟨s, ps, sm, hd⟩ => c1 (HF.out s ps sm hd).1
    have heb : (e != 0) = true := by simp [c1]
    go_enter Try.func18, Try.ntmps18
    go_wp2_with (first | (go_at_call 35; refine (HU.out _).mono ?_; rintro e w1 ⟨rfl, hb1⟩))
    refine bodyPost_ret (v := .tuple #[.int .i64 0, .slice none 0 0, .int .i64 0, .int .i64 4]) (by simp [results, Try.results18, go_sem]) rfl ⟨RP.no hno, hb1⟩
end Go.Proofs.Ytaahdfogpehkfaa
