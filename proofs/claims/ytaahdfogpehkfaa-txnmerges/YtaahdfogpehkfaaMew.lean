import Derived.Test.YtaahdfogpehkfaaRw
import Derived.Test.YtaahdfogpehkfaaThw
namespace Go.Proofs.Ytaahdfogpehkfaa
open Go.RowKit Go.Maps
theorem mergeL_len : ∀ {b a : List Chg}, Rise a → (mergeL a b).length ≤ a.length + b.length
  | [], a, _ => by simp [mergeL]
  | c :: b, a, h => by
    have ih := mergeL_len (b := b) (withL_rise h c)
    have h1 := withL_len h c
    show (mergeL (withL a c) b).length ≤ _
    rw [h1] at ih
    rw [List.length_cons]
    split at ih <;> omega
set_option maxRecDepth 100000 in
set_option maxHeartbeats 8000000 in
theorem refMerge_any (va vb : Value) (a b : List Chg) (w : World) (ha : CLie w va a) (hb : CLie w vb b) : Calls Try.prog 10 #[va, vb] w fun e w' => (∃ v, e = .returned (.tuple #[v, .int .i64 (mRes a b).1]) ∧ CLie w' v (mRes a b).2) ∧ Below w.heap.size w w' := by
  have HR1 := hid (fun w h => right_any va a w h)
  have HR2 := hid (fun w h => right_any vb b w h)
  have HLA := hid ha
  have HLB := hid hb
  cases h1 : right a with
  | false =>
    have hm : mRes a b = (70, []) := by unfold mRes; rw [h1]; rfl
    rw [h1] at HR1
    rw [hm]
    clear ha hb
    go_enter Try.func10, Try.ntmps10
    go_wp2_with (first
      | (go_at_call 12; refine (HR1.out _ HLA.out).mono ?_; rintro e w2 ⟨rfl, hb2⟩))
    go_ret2
    exact ⟨⟨_, rfl, CLie.nil _⟩, hb2⟩
  | true =>
    rw [h1] at HR1
    cases h2 : right b with
    | false =>
      have hm : mRes a b = (70, []) := by unfold mRes; rw [h1, h2]; rfl
      rw [h2] at HR2
      rw [hm]
      clear ha hb
      go_enter Try.func10, Try.ntmps10
      go_wp2_with (first
        | (go_at_call 12; have hk := HB2; clear hk; refine (HR2.out _ (HLB.out.below HB2.out)).mono ?_; rintro e w3 ⟨rfl, hb3⟩)
        | (go_at_call 12; refine (HR1.out _ HLA.out).mono ?_; rintro e w2 ⟨rfl, hb2⟩; have HB2 := hid hb2; clear hb2))
      go_ret2
      exact ⟨⟨_, rfl, CLie.nil _⟩, HB2.out.next hb3⟩
    | true =>
      rw [h2] at HR2
      obtain ⟨h48, hra, hxa⟩ := right_iff.1 h1
      obtain ⟨k48, hrb, hxb⟩ := right_iff.1 h2
      have HW := hid (fun v l c w h k hl => with_any v l c w h k hl)
      obtain ⟨ao, cap, rfl, hlc, hcm, hcell⟩ := ha
      obtain ⟨bo, bap, rfl, klc, kcm, kcell⟩ := hb
      have HCB := hid kcell
      unfold maxLen at hcm kcm
      clear hcell kcell hxa hxb
      have HE := hid (mRes_of h1 h2)
      clear h1 h2
      go_enter Try.func10, Try.ntmps10
      go_wp2_with (first
        | (go_at_call 12; have hk := HB2; clear hk; refine (HR2.out _ (HLB.out.below HB2.out)).mono ?_; rintro e w3 ⟨rfl, hb3⟩; have HB3 := hid (HB2.out.next hb3); clear hb3)
        | (go_at_call 12; refine (HR1.out _ HLA.out).mono ?_; rintro e w2 ⟨rfl, hb2⟩; have HB2 := hid hb2; clear hb2))
      go_loopw [6, 20] (fun ov i wr => ∃ q : Nat, i = .int .i64 q ∧ q ≤ b.length ∧ CLie wr ov (mergeL a (b.take q)) ∧ Below w.heap.size w wr) (fun _ i _ => b.length - (intOf i).toNat)
      case atStart => exact ⟨0, rfl, Nat.zero_le _, HLA.out.below HB3.out, HB3.out⟩
      case round =>
        obtain ⟨q, rfl, hq, hLq, hBq⟩ := hrel
        have HLq := hid hLq
        have HBq := hid hBq
        have hml := mergeL_len (b := b.take q) hra
        rw [List.length_take, Nat.min_eq_left hq] at hml
        have HMR := hid (mergeL_rise (b := b.take q) hra)
        obtain ⟨oo, ocap, rfl, ho1, ho2⟩ := hLq.len
        unfold maxLen at ho2
        clear hLq hBq
        by_cases hqk : q < b.length
        · obtain ⟨gb, off, e, hgl, c0, c1⟩ := HCB.out q hqk
          subst e
          have HT := hid (List.take_succ_eq_append_getElem hqk)
          obtain ⟨c, hc⟩ : ∃ c, c = b[q] := ⟨_, rfl⟩
          rw [← hc] at c0 c1 HT
          clear hc
          have HMS := hid (mergeL_snoc a (b.take q) c)
          obtain ⟨M, hM⟩ : ∃ M, M = mergeL a (b.take q) := ⟨_, rfl⟩
          rw [← hM] at HLq hml HMR HMS ho1 ⊢
          clear hM
          replace c0 := (HBq.out.cell (p := ⟨gb, off + q * 2, none⟩) hgl).trans c0
          replace c1 := (HBq.out.cell (p := ⟨gb, off + q * 2 + 1, none⟩) hgl).trans c1
          have hgr : gb < wr.heap.size := Nat.lt_of_lt_of_le hgl HBq.out.size
          go_wp2_with (first
            | (go_at_call 23; refine (HW.out _ M c _ (by exact HLq.out.below (below_alloc _ _)) HMR.out (by omega)).mono ?_; rintro e w6 ⟨v6, rfl, hL6, hb6⟩))
          go_roundw
          case rel =>
            refine ⟨q + 1, by go_num, by omega, ?_, (HBq.out.next (below_alloc _ _)).next hb6⟩
            rw [HT.out, HMS.out]; exact hL6
          case measure => simp [intOf]; omega
        · have hqe : q = b.length := by omega
          subst hqe
          rw [List.take_length] at HLq hml HMR ho1 ⊢
          obtain ⟨M, hM⟩ : ∃ M, M = mergeL a b := ⟨_, rfl⟩
          rw [← hM] at HLq hml HMR HE ho1 ⊢
          clear hM
          by_cases hl : 48 < M.length
          · rw [if_pos hl] at HE
            go_wp2
            go_ret2
            rw [HE.out]
            exact ⟨⟨_, rfl, CLie.nil _⟩, HBq.out⟩
          · rw [if_neg hl] at HE
            go_wp2
            go_ret2
            rw [HE.out]
            exact ⟨⟨_, rfl, HLq.out⟩, HBq.out⟩
set_option maxRecDepth 100000 in
set_option maxHeartbeats 4000000 in
theorem merges_walk (va vb : Value) (a b : List Chg) (w : World) (ha : CLie w va a) (hb : CLie w vb b) : Calls Try.prog 3 #[va, vb] w fun e w' => e = .returned (.bool true) ∧ Below w.heap.size w w' := by
  have HM := hid (fun w h k => merge_any va vb a b w h k)
  have HN := hid (fun w h k => refMerge_any va vb a b w h k)
  have HK := hid (fun w h => check_any va a w h)
  have HR := hid (fun w h => right_any va a w h)
  have HS := hid speaks_any
  have HA := hid ha
  have HB := hid hb
  have HCH := hid (fun v v' l w h k => changes_any v v' l l w h k)
  simp only [sameC_self] at HCH
  clear ha hb
  obtain ⟨X, hX⟩ : ∃ X, X = mRes a b := ⟨_, rfl⟩
  rw [← hX] at HM HN
  clear hX
  obtain ⟨e1, X⟩ := X
  obtain ⟨r, hr⟩ : ∃ r, r = right a := ⟨_, rfl⟩
  rw [← hr] at HK HR
  clear hr
  go_enter Try.func3, Try.ntmps3
  go_wp2_with (first | (go_at_call 9; fail))
  refine (HM.out _ HA.out HB.out).mono ?_
  rintro e w1 ⟨⟨vx, rfl, hx1⟩, hb1⟩
  have HX1 := hid hx1
  have HA1 := hid (HA.out.below hb1)
  have HB1 := hid (HB.out.below hb1)
  have HW1 := hid hb1
  clear hx1 hb1
  go_wp2_with (first | (go_at_call 10; fail))
  refine (HN.out _ HA1.out HB1.out).mono ?_
  rintro e w2 ⟨⟨vy, rfl, hy2⟩, hb2⟩
  have HY2 := hid hy2
  have HX2 := hid (HX1.out.below hb2)
  have HA2 := hid (HA1.out.below hb2)
  have HW2 := hid (HW1.out.next hb2)
  clear hy2 hb2
  simp only at HX2 HY2 ⊢
  cases r
  all_goals
    simp only [Bool.false_eq_true, if_true, if_false] at HK
    go_wp2_with (first
      | (go_at_call 11; refine (HK.out _ HA2.out).mono ?_; rintro e w3 ⟨rfl, hb3⟩; have HB3 := hid hb3; clear hb3)
      | (go_at_call 12; refine (HR.out _ (HA2.out.below HB3.out)).mono ?_; rintro e w4 ⟨rfl, hb4⟩; have HB4 := hid (HB3.out.next hb4); clear hb4)
      | (go_at_call 13; refine (HCH.out _ _ X _ (HX2.out.below HB4.out) (HY2.out.below HB4.out)).mono ?_; rintro e w5 ⟨rfl, hb5⟩; have HB5 := hid (HB4.out.next hb5); clear hb5)
      | (go_at_call 14; refine (HS.out _).mono ?_; rintro e w8 ⟨rfl, hb8⟩))
    go_ret
    exact ⟨rfl, (HW2.out.next HB5.out).next hb8⟩
end Go.Proofs.Ytaahdfogpehkfaa
