import Derived.Test.YtopebghandojbaaGreatGg
import Derived.Test.YtopebghandojbaaGreatYq
namespace Go.Proofs.YtopebghandojbaaGreat
open Go.RowKit Go.Maps

theorem rises_snoc : ∀ (l : List Chg) (last : Int) (c : Chg), rises last (l ++ [c]) = (rises last l && (decide ((l.getLast?.map (·.b)).getD last < c.b) && (decide (c.b < 1024) && decide (c.d.size = 128))))
  | [], last, c => by
    rw [Bool.eq_iff_iff]
    simp [rises]
    intro _ _
    exact ⟨fun h => decide_eq_true h, fun h => of_decide_eq_true h⟩
  | a :: l, last, c => by
    rw [List.cons_append]
    simp only [rises]
    rw [rises_snoc l a.b c]
    have e : (((a :: l).getLast?.map (·.b)).getD last) = ((l.getLast?.map (·.b)).getD a.b) := by
      cases l with
      | nil => simp
      | cons b l => rw [List.getLast?_cons_cons]; simp [List.getLast?_cons]
    rw [e]
    simp only [Bool.and_assoc]
/-- a change and the one ahead of it -/
def pr (l : List Chg) (q : Nat) : List Chg := (l.take (q + 1)).drop (q - 1)
theorem pr_len (l : List Chg) (q : Nat) (h : q < l.length) : (pr l q).length = q + 1 - (q - 1) := by
  unfold pr; rw [List.length_drop, List.length_take]; omega
theorem pr_zero (l : List Chg) (h : 0 < l.length) : pr l 0 = [l[0]] := by
  cases l with
  | nil => simp at h
  | cons a l => rfl
theorem pr_succ (l : List Chg) (q : Nat) (h : q + 1 < l.length) : pr l (q + 1) = [l[q], l[q + 1]] := by
  unfold pr
  rw [Nat.add_sub_cancel, List.drop_take, drop_at l q (by omega), drop_at l (q + 1) h]
  rw [show q + 1 + 1 - q = 2 by omega]
  rfl
theorem rises_pr (l : List Chg) (q : Nat) (h : q < l.length) (hr : rises (-1) (l.take q) = true) : rises (-1) (l.take (q + 1)) = right (pr l q) := by
  have e : right (pr l q) = rises (-1) (pr l q) := by
    unfold right
    rw [pr_len l q h, decide_eq_true (by omega), Bool.true_and]
  rw [e, List.take_succ_eq_append_getElem h, rises_snoc, hr, Bool.true_and]
  cases q with
  | zero =>
    rw [pr_zero l h, Bool.eq_iff_iff]
    simp [rises]
    intro _ _
    exact ⟨fun h => of_decide_eq_true h, fun h => decide_eq_true h⟩
  | succ q =>
    rw [pr_succ l q h, List.take_succ_eq_append_getElem (show q < l.length by omega)]
    rw [List.take_succ_eq_append_getElem (show q < l.length by omega), rises_snoc] at hr
    obtain ⟨h1, h2⟩ : rises (-1) (l.take q) = true ∧ _ := Bool.and_eq_true_iff.1 hr
    have hp : -1 < l[q].b := by
      have g := (rises_rise (last := -1) (l := l.take q ++ [l[q]]) (by rw [rises_snoc]; exact hr)).2 l[q] (List.mem_append_right _ (List.mem_singleton.2 rfl))
      exact g.1
    have h3 : l[q].b < 1024 ∧ l[q].d.size = 128 := by
      simp only [Bool.and_eq_true, decide_eq_true_eq] at h2
      exact h2.2
    rw [List.getLast?_concat, Bool.eq_iff_iff]
    simp [rises, hp, h3.1, h3.2]
theorem rises_stop (l : List Chg) (q : Nat) (h : rises (-1) (l.take q) = false) : rises (-1) l = false := by
  cases hr : rises (-1) l with
  | false => rfl
  | true =>
    obtain ⟨a, b⟩ := rises_rise hr
    have : rises (-1) (l.take q) = true := rise_rises (a.sublist (List.take_sublist _ _)) (fun x hx => b x (List.mem_of_mem_take hx))
    rw [this] at h; cases h
set_option maxRecDepth 100000 in
theorem under24b : Tryz.prog.underlying 24 = some (.slice (Tryz.prog.elem 24)) := by
  have e : Tryz.prog.elem 24 = 94 := by simp [Program.elem, Tryz.underlying24]
  rw [e]; exact Tryz.underlying24
set_option maxRecDepth 100000 in
theorem run_size94b (w : World) : (sizeOf (Tryz.prog.elem 24)).run Tryz.prog w = .ok 2 w := by
  obtain ⟨i0, hi, hz0, hz1, hz2⟩ := info_parts Tryz.info94
  have e : Tryz.prog.elem 24 = 94 := by simp [Program.elem, Tryz.underlying24]
  rw [e]
  simp [sizeOf, typeInfo, hi, hz1]
theorem cut_pair {ao : Option Addr} {cap : Nat} {l : List Chg} (q : Nat) (hq : q < l.length) (hl : l.length ≤ cap) : ∃ ao' cap', (∀ w, (Instr.slice 24 (.slice ao l.length cap) (some (.int .i64 (max ((q : Int) - 1) 0))) (some (.int .i64 ((q : Int) + 1))) none).run Tryz.prog w = .ok (.slice ao' (pr l q).length cap') w) ∧
    ∀ w, CLie w (.slice ao l.length cap) l → CLie w (.slice ao' (pr l q).length cap') (pr l q) := by
  refine ⟨ao.map (·.add ((q - 1) * 2)), cap - (q - 1), fun w => ?_, fun w h => ?_⟩
  · rw [pr_len l q hq]
    have := run_slice_lh (P := Tryz.prog) w 24 ao l.length cap under24b .i64 .i64 (max ((q : Int) - 1) 0) ((q : Int) + 1) (by omega) (by omega) (by omega)
    rw [this, run_size94b]
    rw [show (max ((q : Int) - 1) 0).toNat = q - 1 by omega, show ((q : Int) + 1).toNat = q + 1 by omega]
    simp [Result.andThen, sliced, show ¬ cap = q - 1 by omega]
  · obtain ⟨ao1, cap1, e, h1, h2, h3⟩ := h
    cases e
    refine ⟨_, _, rfl, by rw [pr_len l q hq]; omega, by omega, fun i hi => ?_⟩
    rw [pr_len l q hq] at hi
    obtain ⟨gb, off, rfl, hg, c0, c1⟩ := h3 (q - 1 + i) (by omega)
    have e : (pr l q)[i]'(by rw [pr_len l q hq]; exact hi) = l[q - 1 + i] := by unfold pr; simp
    refine ⟨gb, off + (q - 1) * 2, by simp [Addr.add], hg, ?_, ?_⟩
    · rw [e, ← c0]; congr 2; omega
    · rw [e, ← c1]; congr 2; omega
set_option maxRecDepth 100000 in
set_option maxHeartbeats 1500000 in
theorem areRight_any (v : Value) (l : List Chg) (w : World) (h : CLie w v l) : Calls Tryz.prog 41 #[v] w fun e w' => e = .returned (.bool (rises (-1) l)) ∧ Below w.heap.size w w' := by
  have HL := hid h
  obtain ⟨ao, cap, rfl, hlc, hcm, _⟩ := h
  unfold maxLen at hcm
  go_enter Tryz.func41, Tryz.ntmps41
  go_wp2
  go_loopw [6] (fun i wr => ∃ q : Nat, i = .int .i64 q ∧ q ≤ l.length ∧ rises (-1) (l.take q) = true ∧ Below w.heap.size w wr) (fun i _ => l.length - (intOf i).toNat)
  case atStart => exact ⟨0, rfl, Nat.zero_le _, rfl, Below.refl _ _⟩
  case round =>
    obtain ⟨q, rfl, hq, hr, hb⟩ := hrel
    have HB := hid hb
    have HR := hid hr
    clear hb hr
    by_cases hql : q < l.length
    · obtain ⟨ao', cap', hcut, hcl⟩ := cut_pair (ao := ao) (cap := cap) q hql hlc
      have HCK := hid (check_any _ _ wr (hcl wr (HL.out.below HB.out)))
      have HP := hid (rises_pr l q hql HR.out)
      obtain ⟨P, hP⟩ : ∃ P, P = pr l q := ⟨_, rfl⟩
      rw [← hP] at hcut HCK HP
      clear hP hcl
      cases hrp : right P with
      | true =>
        rw [hrp] at HCK HP
        go_wp2_with (first | (go_at_call 63; refine HCK.out.mono ?_; rintro e w1 ⟨rfl, hb1⟩; have HB1 := hid (HB.out.next hb1)))
        go_roundw
        case rel => exact ⟨q + 1, by go_num, by omega, HP.out, HB1.out⟩
        case measure => simp only [intOf] at *; omega
      | false =>
        rw [hrp] at HCK HP
        go_wp2_with (first | (go_at_call 63; refine HCK.out.mono ?_; rintro e w1 ⟨rfl, hb1⟩; have HB1 := hid (HB.out.next hb1)))
        go_ret
        exact ⟨by rw [rises_stop l _ HP.out]; rfl, HB1.out⟩
    · have hqe : q = l.length := by omega
      subst hqe
      go_wp2
      go_ret
      refine ⟨?_, HB.out⟩
      have := HR.out
      rw [List.take_length] at this
      rw [this]
      rfl
end Go.Proofs.YtopebghandojbaaGreat
namespace Go.Proofs.YtopebghandojbaaGreat
open Go.RowKit Go.Maps

theorem r9_rises (x y : Nat) (hx : x ≤ 1024) : ∀ (l : List Chg) (last : Int), r9 x y last l = true → rises last l = true
  | [], _, _ => rfl
  | c :: l, last, h => by
    simp only [r9, Bool.and_eq_true, decide_eq_true_eq] at h
    obtain ⟨⟨h1, h2⟩, h3, h4, h5⟩ := h
    simp only [rises, Bool.and_eq_true, decide_eq_true_eq]
    exact ⟨h4, by omega, h3, r9_rises x y hx l c.b h5⟩
theorem r9_of2 (x y : Nat) : ∀ (l : List Chg) (last : Int), rises last l = true → withinB (1 + (y : Int)) x l = true → r9 x y last l = true
  | [], _, _, _ => rfl
  | c :: l, last, h1, h2 => by
    unfold withinB at h2
    rw [List.all_cons] at h2
    simp only [Bool.and_eq_true, decide_eq_true_eq] at h2
    simp only [rises, Bool.and_eq_true, decide_eq_true_eq] at h1
    obtain ⟨a1, a2, a3, a4⟩ := h1
    simp only [r9, Bool.and_eq_true, decide_eq_true_eq]
    exact ⟨⟨by omega, h2.1.2⟩, a3, a1, r9_of2 x y l c.b a4 h2.2⟩
set_option maxRecDepth 100000 in
set_option maxHeartbeats 1500000 in
/-- the program's Format with blocks that may not be -/
theorem format_no (x y z : Nat) (h : Sh.okS x y z) (v : Value) (L : List Chg) (h9 : r9 x y (-1) L = false) (w : World) (hL : CLie w v L) : Calls Tryz.prog 8 #[.agg #[.int .i64 x, .int .i64 y, .int .i64 z], v] w fun e w' => e = .returned (.tuple #[.pointer none, .int .i64 70]) ∧ Below w.heap.size w w' := by
  have HO := hid (fun w => Sh.of_ok x y z h w)
  unfold Sh.regS at HO
  have HR := hid (fun w' (k : Below w.heap.size w w') => areRight_any v L w' (hL.below k))
  have HW := hid (fun w' (r2 r3 r4 : Int) (k : Below w.heap.size w w') => within_any v L x y z 1 (1 + y) r2 r3 r4 w' (hL.below k))
  have hor : rises (-1) L = false ∨ (rises (-1) L = true ∧ withinB (1 + (y : Int)) x L = false) := by
    cases h1 : rises (-1) L with
    | false => exact .inl rfl
    | true =>
      refine .inr ⟨rfl, ?_⟩
      cases h2 : withinB (1 + (y : Int)) x L with
      | false => rfl
      | true => rw [r9_of2 x y L _ h1 h2] at h9; cases h9
  obtain ⟨lo, lc, rfl, _⟩ := hL
  clear h h9
  rcases hor with hr | ⟨hr, hw⟩
  · rw [hr] at HR
    go_enter Tryz.func8, Tryz.ntmps8
    go_wp2_with (first
      | (go_at_call 40; refine (HO.out _).mono ?_; rintro e w1 ⟨rfl, hb1⟩; obtain ⟨a0, a1, a2⟩ := three_cells (Sh.var_a hb1); have hs1 := lt_of_block (Sh.var_a hb1))
      | (go_at_call 41; refine (HR.out _ (((below_alloc w _).next hb1).next (below_alloc w1 _))).mono ?_; rintro e w2 ⟨rfl, hb2⟩))
    go_ret2
    exact ⟨rfl, (((below_alloc w _).next hb1).next (below_alloc w1 _)).next hb2⟩
  · rw [hr] at HR
    rw [hw] at HW
    go_enter Tryz.func8, Tryz.ntmps8
    go_wp2_with (first
      | (go_at_call 40; refine (HO.out _).mono ?_; rintro e w1 ⟨rfl, hb1⟩; obtain ⟨a0, a1, a2⟩ := three_cells (Sh.var_a hb1); have hs1 := lt_of_block (Sh.var_a hb1))
      | (go_at_call 41; refine (HR.out _ (((below_alloc w _).next hb1).next (below_alloc w1 _))).mono ?_; rintro e w2 ⟨rfl, hb2⟩
         have hv2 : Hid (Two w w.heap.size w1.heap.size _ _ w2) := hid (Two.next ⟨(Below.heap_alloc _ _ _ hs1).trans (Sh.var_a hb1), box_at _ _, ((below_alloc w _).next hb1).next (below_alloc w1 _)⟩ hb2)
         obtain ⟨a0, a1, a2⟩ := three_cells hv2.out.1
         obtain ⟨b0, b1, b2, b3, b4⟩ := Sh.five_cells hv2.out.2.1)
      | (go_at_call 42; refine (HW.out _ _ _ _ hv2.out.2.2).mono ?_; rintro e w3 ⟨rfl, hb3⟩))
    go_ret2
    exact ⟨rfl, hv2.out.2.2.next hb3⟩
set_option maxRecDepth 100000 in
set_option maxHeartbeats 4000000 in
/-- the program's Format -/
theorem format_yes (x y z : Nat) (h : Sh.okS x y z) (v : Value) (L : List Chg) (h9 : r9 x y (-1) L = true) (w : World) (hL : CLie w v L) : Calls Tryz.prog 8 #[.agg #[.int .i64 x, .int .i64 y, .int .i64 z], v] w fun e w' =>
    ∃ g fp N, e = .returned (.tuple #[.pointer (some ⟨g, 0, none⟩), .int .i64 0]) ∧ Dv.DIs w.heap.size g w' N ⟨x, fmtB x y z L, []⟩ fp ∧ Below w.heap.size w w' := by
  have hx := h.1.1
  have hy := h.1.2.1
  have hx1 : 16 ≤ x := by omega
  have hx2 : x ≤ 1024 := by omega
  have hy1 : 8 ≤ y := by omega
  have hy2 : y ≤ 256 := by omega
  have HMEM := hid (r9_mem x y L _ h9)
  have hlen : L.length ≤ 1024 := by
    rcases r9_len x y L _ h9 with e | e
    · rw [e]; simp
    · omega
  have HO := hid (fun w => Sh.of_ok x y z h w)
  unfold Sh.regS at HO
  have HR := hid (fun w' (k : Below w.heap.size w w') => areRight_any v L w' (hL.below k))
  have HW := hid (fun w' (r2 r3 r4 : Int) (k : Below w.heap.size w w') => within_any v L x y z 1 (1 + y) r2 r3 r4 w' (hL.below k))
  rw [r9_rises x y hx2 L _ h9] at HR
  rw [r9_within x y L _ h9] at HW
  have HD := hid (fun w' (k : w.heap.size ≤ w'.heap.size) => Dv.new_any x (by omega) hx2 w.heap.size w' k)
  have HJ := hid (fun w => new_j y w hy)
  have HS := hid (fun w => Sh.super_ok x y z h w)
  have HF := hid (fmtB_eq x y z L)
  have HSZ := super_size x y z
  have HHZ := hdB_size 0 1 1
  obtain ⟨su, hsu⟩ : ∃ su, su = Sh.superS x y z := ⟨_, rfl⟩
  obtain ⟨hd, hhd⟩ : ∃ hd, hd = hdB 0 1 1 := ⟨_, rfl⟩
  rw [← hsu] at HS HF HSZ
  rw [← hhd] at HF HHZ
  have HHD : Hid (∀ (g : Nat) (w : World), JS g none w ((y : Int) - 1) 0 1 0 [] → Calls Tryz.prog 45 #[.pointer (some ⟨g, 0, none⟩)] w fun e w' => e = .returned (.string hd) ∧ Below w.heap.size w w') := by
    refine hid (fun g w hj => ?_)
    rw [hhd]
    exact jheader g none _ 0 1 0 [] (by omega) (by decide) (by decide) w hj
  have HWQ : Hid (∀ (base : Nat) (fp : List Nat) (g N b : Nat) (d : ByteArray) (Q : List (Nat × ByteArray)) (w : World), d.size = 128 → b < x → N ≤ 1048577 → Q.length ≤ 100000 → Dv.DIs base g w N ⟨x, fun _ => none, Q⟩ fp → base ≤ w.heap.size → Calls Tryz.prog 29 #[.pointer (some ⟨g, 0, none⟩), .int .i64 (b : Int), .string d] w fun e w' => e = .returned (.int .i64 0) ∧ ∃ fp', Dv.DIs base g w' 1048576 ⟨x, fun _ => none, Q ++ [(b, d)]⟩ fp' ∧ Dv.Only fp w w' ∧ ∀ k ∈ fp', k ∈ fp ∨ w.heap.size ≤ k) := by
    refine hid (fun base fp g N b d Q w hd hb hN hQ hD hbs => ?_)
    have k := Dv.write_ok b d (by omega) (by omega) (by omega) (by rw [cnt_one hd]; show b + 1 ≤ x; omega) (by omega) hQ w hD hbs
    refine k.mono ?_
    rintro e w' ⟨rfl, fp', k1, k2, k3⟩
    exact ⟨rfl, fp', k1.shrink, k2, k3⟩
  obtain ⟨lo, lc, rfl, hll, hlc, hcell⟩ := hL
  unfold maxLen at hlc
  have HC := hid hcell
  clear h hsu hx hy hhd h9 hcell
  go_enter Tryz.func8, Tryz.ntmps8
  go_upto_region 9 with (first
    | (go_at_call 40; refine (HO.out _).mono ?_; rintro e w1 ⟨rfl, hb1⟩; obtain ⟨a0, a1, a2⟩ := three_cells (Sh.var_a hb1); have hs1 := lt_of_block (Sh.var_a hb1))
    | (go_at_call 41; refine (HR.out _ (((below_alloc w _).next hb1).next (below_alloc w1 _))).mono ?_; rintro e w2 ⟨rfl, hb2⟩
       have hv2 : Hid (Two w w.heap.size w1.heap.size _ _ w2) := hid (Two.next ⟨(Below.heap_alloc _ _ _ hs1).trans (Sh.var_a hb1), box_at _ _, ((below_alloc w _).next hb1).next (below_alloc w1 _)⟩ hb2)
       obtain ⟨a0, a1, a2⟩ := three_cells hv2.out.1
       obtain ⟨b0, b1, b2, b3, b4⟩ := Sh.five_cells hv2.out.2.1)
    | (go_at_call 42; refine (HW.out _ _ _ _ hv2.out.2.2).mono ?_; rintro e w3 ⟨rfl, hb3⟩
       have hv3 := hid (hv2.out.next hb3)
       obtain ⟨a0, a1, a2⟩ := three_cells hv3.out.1)
    | (go_at_call 27; refine (HD.out _ hv3.out.2.2.size).mono ?_; rintro e w4 ⟨rfl, hd4, hb4⟩
       have hv4 := hid (hv3.out.next hb4)
       have hD4 := hid hd4
       clear hd4
       obtain ⟨a0, a1, a2⟩ := three_cells hv4.out.1)
    | (go_at_call 43; refine (HJ.out _).mono ?_; rintro e w5 ⟨rfl, hj5, hb5⟩
       have hJ5 := hid hj5
       clear hj5
       have hv5 := hid (hv4.out.next hb5)
       have hD5 := hid (hD4.out.below hb5)
       obtain ⟨a0, a1, a2⟩ := three_cells hv5.out.1)
    | (go_at_call 44; refine (HS.out _).mono ?_; rintro e w6 ⟨rfl, hb6⟩
       have hv6 := hid (hv5.out.next hb6)
       have hD6 := hid (hD5.out.below hb6)
       have hJ6 := hid (hJ5.out.below hb6)
       obtain ⟨b0, b1, b2, b3, b4⟩ := Sh.five_cells hv6.out.2.1))
  have HW0 := hid (HWQ.out _ _ (w3.heap.size + 2) _ 0 su [] w6 HSZ (by omega) (by omega) (by simp) hD6.out hv6.out.2.2.size)
  go_upto_region 10 with (first
    | (go_at_call 29; refine HW0.out.mono ?_; rintro e w7 ⟨rfl, fp7, hd7, ho7, hf7⟩
       have hD7 := hid hd7
       have hO7 := hid ho7
       have hF7 := hid hf7
       clear hd7 ho7 hf7
       have hl1 := lt_of_block hv3.out.1
       have hl2 := lt_of_block hv3.out.2.1
       have hl3 := hv6.out.2.2.size
       have hv7 := hid (hv6.out.only hO7.out (by simp; omega) (by simp; omega) (by intro a ha; simp at ha; omega))
       have hl4 := hD4.out.lo (w3.heap.size + 2) (by simp)
       have hJ7 := hid (hJ6.out.only hO7.out (by simp; omega) (fun _ h => by cases h))
       have hN7 : Hid (w.heap.size ∉ fp7 ∧ w1.heap.size ∉ fp7) := by
         have k1 := lt_of_block hv6.out.1
         have k2 := lt_of_block hv6.out.2.1
         constructor <;> (intro hm; have := hF7.out _ hm; simp at this; omega)
       obtain ⟨b0, b1, b2, b3, b4⟩ := Sh.five_cells hv7.out.2.1))
  have HW1 := hid (fun w' (k : Below w7.heap.size w7 w') => HWQ.out _ _ (w3.heap.size + 2) _ 1 hd _ w' HHZ (by omega) (by omega) (by simp) (hD7.out.below k) (Nat.le_trans hv7.out.2.2.size k.size))
  go_cut [] (fun wx => ∃ fp, Dv.DIs w.heap.size (w3.heap.size + 2) wx 1048576 ⟨x, fun _ => none, [(0, su), (1, hd)]⟩ fp ∧ Below w.heap.size w wx)
  case first =>
    go_region_with (first
      | (go_at_call 45; refine (HHD.out _ w7.drew hJ7.out).mono ?_; rintro e w8 ⟨rfl, hb8⟩
         have hb8 := hid (Dv.undrew hb8)
         have hv8 := hid (hv7.out.next hb8.out)
         have hD8 := hid (hD7.out.below hb8.out)
         obtain ⟨b0, b1, b2, b3, b4⟩ := Sh.five_cells hv8.out.2.1)
      | (go_at_call 29; refine (HW1.out _ hb8.out).mono ?_; rintro e w9 ⟨rfl, fp9, hd9, ho9, hf9⟩
         have hD9 := hid hd9
         have hv9 := hid (hv8.out.only ho9 hN7.out.1 hN7.out.2 (fun a ha => (hD8.out.lo a ha).1))
         clear hd9 ho9 hf9))
    all_goals
      go_wp2
      go_meet
      exact ⟨fp9, hD9.out, hv9.out.2.2⟩
  case rest =>
    obtain ⟨fp9, hd9, hb9⟩ := hcut
    rename World => w9
    have HD9 := hid hd9
    have HB9 := hid hb9
    obtain ⟨d, hde⟩ : ∃ d, d = w3.heap.size + 2 := ⟨_, rfl⟩
    rw [← hde] at HD9 ⊢
    clear hb9 hd9 hde HW1 HW0
    go_wp2
    go_loopw [62] (fun i wr => ∃ (q : Nat) (fq : List Nat), i = .int .i64 q ∧ q ≤ L.length ∧ Dv.DIs w.heap.size d wr 1048576 ⟨x, fun _ => none, [(0, su), (1, hd)] ++ qsB (L.take q)⟩ fq ∧ Below w.heap.size w wr) (fun i _ => L.length - (intOf i).toNat)
    case atStart => exact ⟨0, fp9, rfl, Nat.zero_le _, by simpa [qsB] using HD9.out, HB9.out⟩
    case round =>
      obtain ⟨q, fq, rfl, hq, hdq, hbq⟩ := hrel
      have HDq := hid hdq
      have HBq := hid hbq
      have hsz := hbq.size
      clear hdq hbq
      by_cases hqk : q < L.length
      · obtain ⟨gb, of2, e, hgl, d0, d1⟩ := HC.out q hqk
        subst e
        have hT := qsB_take L q hqk
        have hm := HMEM.out _ (List.getElem_mem hqk)
        have hln := qsB_len (L.take q)
        rw [List.length_take] at hln
        obtain ⟨cc, hcc⟩ : ∃ cc, cc = L[q] := ⟨_, rfl⟩
        rw [← hcc] at d0 d1 hT hm
        clear hcc
        obtain ⟨cb, cd⟩ := cc
        have hm : (y : Int) < cb ∧ cb < x ∧ cd.size = 128 := hm
        obtain ⟨b, rfl⟩ : ∃ b : Nat, cb = b := ⟨cb.toNat, by omega⟩
        have hT : qsB (L.take (q + 1)) = qsB (L.take q) ++ [(b, cd)] := hT
        have HT := hid hT
        replace d0 := (HBq.out.cell (p := ⟨gb, of2 + q * 2, none⟩) hgl).trans d0
        replace d1 := (HBq.out.cell (p := ⟨gb, of2 + q * 2 + 1, none⟩) hgl).trans d1
        have d0 : wr.cell? ⟨gb, of2 + q * 2, none⟩ = some (.int .i64 (b : Int)) := d0
        have d1 : wr.cell? ⟨gb, of2 + q * 2 + 1, none⟩ = some (.string cd) := d1
        have hgr : gb < wr.heap.size := by omega
        have HB8 := hid (below_alloc wr (.cells #[.int .i64 (b : Int), .string cd] 94))
        have HW := hid (fun w' (k : Below wr.heap.size wr w') => HWQ.out _ _ d _ b cd _ w' hm.2.2 (by omega) (by omega) (by rw [List.length_append, hln]; simp; omega) (HDq.out.below k) (Nat.le_trans hsz k.size))
        have hlo := HDq.out.lo
        have HLO := hid hlo
        clear hm hln hT hlo
        go_wp2_with (first
          | (go_at_call 29; refine (HW.out _ (by exact HB8.out)).mono ?_; rintro e w8 ⟨rfl, fp8, hd8, ho8, hf8⟩))
        go_roundw
        case rel => exact ⟨q + 1, fp8, by go_num, by omega, by rw [HT.out, ← List.append_assoc]; exact hd8, HBq.out.trans ((HB8.out.mono hsz).trans (ho8.below (Nat.le_trans hsz HB8.out.size) (fun a ha => (HLO.out a ha).1)))⟩
        case measure => simp only [intOf] at *; omega
      · have hqe : q = L.length := by omega
        subst hqe
        rw [List.take_length] at HDq
        have HFL := hid (Dv.flush_any (by omega) wr HDq.out)
        have hlo := HDq.out.lo
        have HLO := hid hlo
        clear hlo
        go_wp2_with (first
          | (go_at_call 31; refine HFL.out.mono ?_; rintro e w8 ⟨rfl, hd8, ho8⟩))
        go_ret2
        exact ⟨d, fq, _, rfl, by rw [HF.out]; exact hd8, HBq.out.trans (ho8.below hsz (fun a ha => (HLO.out a ha).1))⟩
end Go.Proofs.YtopebghandojbaaGreat
