import Derived.Test.YtaahdfogpehkfaaWa
namespace Go.Proofs.Ytaahdfogpehkfaa
open Go.RowKit
theorem right_sizes {seq : Nat} {l : List Chg} (hr : right l = true) : ∀ x ∈ encL seq l, x.size = 128 := by
  intro x hx
  rw [encL_eq, List.mem_cons] at hx
  rcases hx with rfl | hx
  · exact headB_size seq hr
  · obtain ⟨c, hc, rfl⟩ := List.mem_map.1 hx
    exact ((right_iff.1 hr).2.2 c hc).2.2
/-- without its last block it is cut -/
theorem less_any {n : Nat} {l : List Chg} (hr : right l = true) (h1 : 1 ≤ n) (h2 : n ≤ 1099511627776) {E : List ByteArray} (hE : E = encL n l) (ao : Option Addr) (cap m : Nat) (hm : m = l.length) (w : World) (h : SLie w (.slice ao (m + 1) cap) E) :
    Calls Try.prog 17 #[.slice ao m cap] w fun e w' => e = .returned (.tuple #[.int .i64 0, .slice none 0 0, .int .i64 0, .int .i64 20]) ∧ Below w.heap.size w w' := by
  subst hE hm
  cases hl : l.length with
  | zero => exact (decode_none ao cap w).mono fun e w' ⟨he, hw⟩ => ⟨he, hw ▸ Below.refl _ _⟩
  | succ q =>
    obtain ⟨ao', cap', e, k1, k2, hc⟩ := h
    have hlen := encL_len n l
    injection e with e1 e2 e3
    subst e1 e3
    have hS : SLie w (.slice ao (q + 1) cap) (headB n l :: (l.map (·.d)).take q) := by
      have hq : (headB n l :: (l.map (·.d)).take q).length = q + 1 := by simp; omega
      refine ⟨ao, cap, by rw [hq], by omega, k2, fun i hi => ?_⟩
      obtain ⟨gb, off, x1, x2, x3⟩ := hc i (by omega)
      refine ⟨gb, off, x1, x2, ?_⟩
      rw [x3]
      congr 2
      match i, hi with
      | 0, _ => rfl
      | i + 1, hi =>
        show (l.map (·.d))[i]'_ = ((l.map (·.d)).take q)[i]'_
        rw [List.getElem_take]
    have hh := isHead_enc (seq := n) (l := l) h1 h2 hr
    have hlt : ((l.map (·.d)).take q).length < (l.map (·.b)).length := by simp; omega
    have hsz : (headB n l).size ≤ 150000000000000 := by rw [headB_size n hr]; omega
    exact decode_cut _ _ _ w hS hsz _ _ _ hh hlt
/-- with a bit turned it is none -/
theorem other_any {n : Nat} {l : List Chg} (hr : right l = true) (h1 : 1 ≤ n) (h2 : n ≤ 1099511627776) {E : List ByteArray} (hE : E = encL n l) (K i j : Nat) (s : ByteArray) (hK : K < E.length) (hs : s = E[K]) (hi : i < s.data.toList.length) (hj : j < 8) (v : Value) (w : World) (h : SLie w v (E.set K (flipB s i j hi))) :
    Calls Try.prog 17 #[v] w fun e w' => e = .returned (.tuple #[.int .i64 0, .slice none 0 0, .int .i64 0, .int .i64 4]) ∧ Below w.heap.size w w' := by
  subst hE
  match K, hK with
  | 0, _ =>
    have e : s = headB n l := hs
    subst e
    have h' : SLie w v (flipB (headB n l) i j hi :: l.map (·.d)) := h
    exact decode_form v _ _ w h' (by rw [flipB_size, headB_size n hr]; decide) (head_flip hr hi hj)
  | k + 1, hK =>
    have hk : k < (l.map (·.d)).length := by rw [encL_len] at hK; simp; omega
    have e : s = (l.map (·.d))[k] := hs
    subst e
    have h' : SLie w v (headB n l :: (l.map (·.d)).set k (flipB (l.map (·.d))[k] i j hi)) := h
    have hlen : (l.map (·.b)).length = l.length := by simp
    have ht : ((l.map (·.d)).set k (flipB (l.map (·.d))[k] i j hi)).take (l.map (·.b)).length = (l.map (·.d)).set k (flipB (l.map (·.d))[k] i j hi) := List.take_of_length_le (by simp)
    refine (decode_data v _ _ w h' (by rw [headB_size n hr]; decide) n _ _ (isHead_enc h1 h2 hr) (by simp)).mono fun e w' ⟨hD, hb⟩ => ⟨hD.2 ?_, hb⟩
    rw [ht]
    rintro ⟨_, hc⟩
    exact sum_flip hk hi hj hc
theorem BIs.keep {g : Nat} {w w' : World} {l : List UInt8} (h : BIs g w l) (k : w'.heap[g]? = w.heap[g]?) : BIs g w' l := by
  obtain ⟨cur, fz, h1, h2⟩ := h
  exact ⟨cur, fz, k.trans h1, h2⟩
theorem BIs.lt {g : Nat} {w : World} {l : List UInt8} (h : BIs g w l) : g < w.heap.size := by
  obtain ⟨cur, fz, h1, _⟩ := h
  exact lt_of_block h1
set_option maxRecDepth 100000 in
set_option maxHeartbeats 8000000 in
theorem whole_walk (seq : Int) (vl : Value) (at0 : Int) (l : List Chg) (ha : -9223372036854775808 ≤ at0 ∧ at0 ≤ 9223372036854775807) (w : World) (hl : CLie w vl l) : Calls Try.prog 7 #[.int .i64 seq, vl, .int .i64 at0] w fun e w' => e = .returned (.bool true) ∧ Below w.heap.size w w' := by
  have HS := hid speaks_any
  by_cases hseq : 1 ≤ seq ∧ seq ≤ 1099511627776
  · cases hr : right l with
    | false =>
      have HE := hid (encode_txn seq vl l hseq w hl hr)
      clear hl hseq hr
      go_enter Try.func7, Try.ntmps7
      go_wp2_with (first
        | (go_at_call 15; refine (HE.out).mono ?_; rintro e w1 ⟨rfl, hb1⟩; have HB1 := hid hb1; clear hb1)
        | (go_at_call 14; refine (HS.out _).mono ?_; rintro e w8 ⟨rfl, hb8⟩))
      go_ret
      exact ⟨rfl, HB1.out.next hb8⟩
    | true =>
      obtain ⟨n, rfl⟩ : ∃ n : Nat, seq = n := ⟨seq.toNat, by omega⟩
      have h48 : l.length ≤ 48 := right_len hr
      have HE := hid (encode_ok n vl l (by omega) (by omega) w hl hr)
      have hEL := encL_len n l
      have HSZ := hid (right_sizes (seq := n) hr)
      have HEQ := hid (encL_eq n l)
      obtain ⟨E, hE⟩ : ∃ E, E = encL n l := ⟨_, rfl⟩
      rw [← hE] at HE hEL HSZ HEQ
      have HEE := hid hE
      clear hE
      obtain ⟨m, hm⟩ : ∃ m, m = l.length := ⟨_, rfl⟩
      have HML := hid hm
      have h48' : m ≤ 48 := by omega
      rw [← hm] at hEL
      have HEL := hid hEL
      have hcase : ∃ A : Nat, (A : Int) ≤ 9223372036854775807 ∧ ((at0 < 0 ∧ Hid (A = 0)) ∨ (¬ at0 < 0 ∧ at0 = (A : Int))) := by
        refine ⟨at0.toNat, ?_, ?_⟩
        · omega
        · unfold Hid; omega
      obtain ⟨A, hAb, hcase⟩ := hcase
      have HLE := hid (fun ao cap w h => less_any (n := n) hr (by omega) (by omega) HEE.out ao cap m hm w h)
      have HOT := hid (fun K i j s hK hs hi hj v w h => other_any (n := n) hr (by omega) (by omega) HEE.out K i j s hK hs hi hj v w h)
      clear hl hseq h48 hm hr HEQ
      rcases hcase with ⟨c1, HA0⟩ | ⟨c1, rfl⟩
      all_goals
        go_enter Try.func7, Try.ntmps7
        go_wp2_with (first | (go_at_call 15; fail))
        refine (HE.out).mono ?_
        rintro e w1 ⟨bv, rfl, hS1, hb1⟩
        have HS1 := hid hS1
        have HW1 := hid hb1
        obtain ⟨bo, bcap, rfl, hb2, hb3, hbc⟩ := hS1
        obtain ⟨bg, boff, rfl, hbg, _⟩ := hbc 0 (by omega)
        have HBC := hid hbc
        unfold maxLen at hb3
        clear hbc hb1
        rw [hEL] at hb2 HS1 ⊢
        go_upto_if 43 with fail
        go_cut [2] (fun s1 wx => w1 = wx ∧ s1 = .int .i64 (A : Int))
        case first =>
          go_wp2
          go_meet
          first
            | exact ⟨rfl, rfl⟩
            | exact ⟨rfl, by rw [HA0.out]; rfl⟩
        case rest =>
        obtain ⟨rfl, rfl⟩ := hcut
        have hKl : A % (m + 1) < m + 1 := Nat.mod_lt _ (by omega)
        obtain ⟨K, hK⟩ : ∃ K, K = A % (m + 1) := ⟨_, rfl⟩
        rw [← hK] at hKl
        obtain ⟨bt, hbt⟩ : ∃ bt, bt = A / (m + 1) % 1024 := ⟨_, rfl⟩
        have hbl : bt < 1024 := by rw [hbt]; exact Nat.mod_lt _ (by decide)
        have HKK := hid hK
        have HBT := hid hbt
        clear hK hbt
        go_upto_region 6 with fail
        go_cut [9] (fun s1 wx => w1 = wx ∧ s1 = .int .i64 (K : Int))
        case first =>
          go_wp2
          go_meet
          exact ⟨rfl, by rw [HKK.out]; simp⟩
        case rest =>
        obtain ⟨rfl, rfl⟩ := hcut
        have hKE : K < E.length := by omega
        obtain ⟨gb', off', eb, _, cK⟩ := HBC.out K hKE
        injection eb with eb
        injection eb with eb1 eb2 _
        subst eb1 eb2
        have hsK := HSZ.out _ (List.getElem_mem hKE)
        obtain ⟨s, hs⟩ : ∃ s, s = E[K] := ⟨_, rfl⟩
        rw [← hs] at cK hsK
        have HSE := hid hs
        clear hs
        obtain ⟨tcap, wc, hconv, hBI, hBe⟩ := bytes_new w1 s
        rw [hsK] at hconv
        go_upto_region 9 with fail
        go_cut [12] (fun s1 wx => wc = wx ∧ s1 = .int .i64 (bt : Int))
        case first =>
          have hQ0 : (0 : Int) ≤ (A : Int) / ((m : Int) + 1) := Int.ediv_nonneg (by omega) (by omega)
          have hQ1 : (A : Int) / ((m : Int) + 1) ≤ 9223372036854775807 := Int.le_trans (Int.ediv_le_self _ (by omega)) hAb
          go_wp2
          go_meet
          refine ⟨rfl, ?_⟩
          rw [HBT.out]
          first
            | (simp; done)
            | (have hw : wrap64 ((A : Int) / ((m : Int) + 1)) = (A : Int) / ((m : Int) + 1) := by
                 unfold wrap64
                 omega
               rw [hw, Int.tmod_eq_emod_of_nonneg hQ0]
               simp)
        case rest =>
        obtain ⟨rfl, rfl⟩ := hcut
        clear hconv
        have hk : bt / 8 < s.data.toList.length := by rw [len_list]; omega
        have hcell := hBI.get _ hk
        have hfree := hBI.free _ hk
        obtain ⟨x, hx⟩ : ∃ x, x = s.data.toList[bt / 8] := ⟨_, rfl⟩
        rw [← hx] at hcell
        have HX := hid hx
        clear hx
        have HBI := hid hBI
        have HBe := hid hBe
        have hgl := hBI.lt
        clear hBI hBe
        obtain ⟨y, hy⟩ : ∃ y, y = flipB s (bt / 8) (bt % 8) hk := ⟨_, rfl⟩
        have HY := hid hy
        have HYL : Hid (y.data.toList = s.data.toList.set (bt / 8) (x ^^^ UInt8.ofNat (2 ^ (bt % 8)))) := by
          show _ = _
          rw [hy, HX.out]
          unfold flipB
          rw [st_list]
        clear hy
        have HYS : Hid (st y.data.toList = y) := by show _ = _; exact st_toList y
        have hysz : y.data.toList.length = 128 := by rw [HYL.out, List.length_set, len_list]; exact hsK
        have HES : Hid ((E.set K y).length = E.length) := by show _ = _; simp
        go_wp2
        go_loopw [13, 82] (fun ov i wr => ∃ q : Nat, i = .int .i64 q ∧ q ≤ m + 1 ∧ SRow (w1.heap.size + 1) wr ov ((E.set K y).take q) ∧ BIs w1.heap.size wr y.data.toList ∧ Below w1.heap.size w1 wr) (fun _ i _ => m + 1 - (intOf i).toNat)
        case atStart => exact ⟨0, rfl, Nat.zero_le _, SRow.nil _ _, by rw [HYL.out]; exact HBI.out.set _ _ _ (xor_m x _), HBe.out.setCell (Nat.le_refl _) _⟩
        case round =>
          obtain ⟨q, rfl, hq, hRq, hBq, hWq⟩ := hrel
          have HRq := hid hRq
          have HBq := hid hBq
          have HWq := hid hWq
          have hglq := hBq.lt
          have hlT : ((E.set K y).take q).length ≤ 100 := by rw [List.length_take]; omega
          obtain ⟨oo, ocap, rfl, ho1, ho2⟩ := hRq.len
          unfold maxLen at ho2
          clear hRq hBq hWq
          by_cases hqk : q < m + 1
          · have hqE : q < E.length := by omega
            have hqS : q < (E.set K y).length := by rw [HES.out]; exact hqE
            obtain ⟨gb', off', eb, _, cq⟩ := HBC.out q hqE
            injection eb with eb
            injection eb with eb1 eb2 _
            subst eb1 eb2
            have HT := hid (List.take_succ_eq_append_getElem hqS)
            replace cq := (HWq.out.cell (p := ⟨bg, boff + q, none⟩) hbg).trans cq
            have hgr : bg < wr.heap.size := Nat.lt_of_lt_of_le hbg HWq.out.size
            obtain ⟨T, hT⟩ : ∃ T, T = (E.set K y).take q := ⟨_, rfl⟩
            rw [← hT] at HRq HT hlT ho1 ⊢
            clear hT
            by_cases hqK : q = K
            · subst hqK
              rw [List.getElem_set_self] at HT
              have hcv := HBq.out.conv tcap
              rw [hysz, HYS.out] at hcv
              go_wp2_with (first
                | (at_builtin; refine pushS (w0 := wr) rfl (.tmp 92) (.tmp 94) rfl (w1.heap.size + 1) wr.heap.size _ T y rfl rfl rfl HRq.out (by omega) (by omega) ?_; intro v8 w8 hS8 hb8 hk8))
              go_roundw
              case rel => exact ⟨q + 1, by go_num, by omega, by rw [HT.out]; exact hS8, HBq.out.keep (hb8.block _ (by omega)), HWq.out.trans (hb8.mono (by omega))⟩
              case measure => simp [intOf]; omega
            · have hqb : ((q : Int) == (K : Int)) = false := by simp; omega
              rw [List.getElem_set_ne (by omega)] at HT
              obtain ⟨z, hz⟩ : ∃ z, z = E[q] := ⟨_, rfl⟩
              rw [← hz] at HT cq
              clear hz
              go_wp2_with (first
                | (at_builtin; refine pushS (w0 := wr) rfl (.tmp 92) (.tmp 94) rfl (w1.heap.size + 1) wr.heap.size _ T z rfl rfl rfl HRq.out (by omega) (by omega) ?_; intro v8 w8 hS8 hb8 hk8))
              go_roundw
              case rel => exact ⟨q + 1, by go_num, by omega, by rw [HT.out]; exact hS8, HBq.out.keep (hb8.block _ (by omega)), HWq.out.trans (hb8.mono (by omega))⟩
              case measure => simp [intOf]; omega
          · have hqe : q = m + 1 := by omega
            subst hqe
            rw [List.take_of_length_le (by rw [HES.out]; omega), HES.out, HEL.out] at ho1 ⊢
            rw [List.take_of_length_le (l := E.set K y) (by rw [HES.out]; omega), HES.out, HEL.out] at HRq
            have HL1 := hid (HS1.out.below HWq.out)
            have HO1 := hid (fun w h => HOT.out K (bt / 8) (bt % 8) s hKE HSE.out hk (Nat.mod_lt _ (by decide)) (.slice oo (m + 1) ocap) w (by rw [← HY.out]; exact h))
            go_wp2_with (first
              | (go_at_call 17; have hk := HB5; clear hk; refine (HO1.out _ ((HRq.out.below HB5.out).lie)).mono ?_; rintro e w6 ⟨rfl, hb6⟩; have HB6 := hid (HB5.out.next hb6); clear hb6)
              | (go_at_call 17; refine (HLE.out _ _ _ HL1.out).mono ?_; rintro e w5 ⟨rfl, hb5⟩; have HB5 := hid hb5; clear hb5)
              | (go_at_call 14; refine (HS.out _).mono ?_; rintro e w8 ⟨rfl, hb8⟩))
            go_ret
            exact ⟨rfl, ((HW1.out.next HWq.out).next HB6.out).next hb8⟩
  · have HE := hid (encode_arg seq vl hseq w)
    clear hl hseq
    go_enter Try.func7, Try.ntmps7
    go_wp2_with (first
      | (go_at_call 15; refine (HE.out).mono ?_; rintro e w1 ⟨rfl, hw⟩; have hw := hw.symm; subst hw)
      | (go_at_call 14; refine (HS.out _).mono ?_; rintro e w8 ⟨rfl, hb8⟩))
    go_ret
    exact ⟨rfl, hb8⟩
end Go.Proofs.Ytaahdfogpehkfaa
