import Derived.Test.YtmcahiebcflfoaaKc
import Derived.Test.YtmcahiebcflfoaaCe
namespace Go.Proofs.Ytmcahiebcflfoaa
open Go.RowKit Go.Maps
def cc (l : List Chg) : List Value := l.flatMap encC
theorem cc_append (a b : List Chg) : cc (a ++ b) = cc a ++ cc b := by simp [cc]
theorem cc_one (x : Chg) : cc [x] = encC x := by simp [cc]
theorem cc_len : ∀ l : List Chg, (cc l).length = l.length * 2
  | [] => rfl
  | x :: l => by
    have := cc_len l
    unfold cc at *
    rw [List.flatMap_cons, List.length_append, this]
    simp [encC]
    omega
theorem cc_cons (x : Chg) (l : List Chg) : cc (x :: l) = encC x ++ cc l := by simp [cc]
theorem cc_get : ∀ (l : List Chg) (t : Nat), t < l.length * 2 → (cc l)[t]? = (encC l[t / 2]!)[t % 2]?
  | [], t, h => by simp at h
  | x :: l, t, h => by
    rw [cc_cons]
    by_cases h3 : t < 2
    · rw [List.getElem?_append_left (by simp [encC]; omega)]
      have e1 : t / 2 = 0 := by omega
      have e2 : t % 2 = t := by omega
      rw [e1, e2]
      rfl
    · rw [List.getElem?_append_right (by simp [encC]; omega)]
      have hl : (encC x).length = 2 := rfl
      rw [hl, cc_get l (t - 2) (by simp at h; omega)]
      have e1 : t / 2 = (t - 2) / 2 + 1 := by omega
      have e2 : t % 2 = (t - 2) % 2 := by omega
      rw [e1, e2]
      rfl
theorem cc_lie {B : Nat} {ty : TypeId} {w : World} {v : Value} {l : List Chg} (h : w.ownsRow B ty 2 v l.length (cc l)) : CLie w v l := by
  rcases h.2 with ⟨rfl, hz⟩ | ⟨gb, cap, cur, rfl, hbase, hgb, r1, r2, r3, r4⟩
  · have : l = [] := List.eq_nil_of_length_eq_zero hz
    subst this
    exact ⟨none, 0, rfl, Nat.le_refl _, by decide, fun i hi => by simp at hi⟩
  · refine ⟨_, cap, rfl, r1, r2, fun i hi => ⟨gb, 0, rfl, lt_of_block hgb, ?_⟩⟩
    have key : ∀ j, j < 2 → w.cell? ⟨gb, i * 2 + j, none⟩ = (encC l[i])[j]? := by
      intro j hj
      have hlt : i * 2 + j < l.length * 2 := by omega
      have e1 : cur.toList[i * 2 + j]? = (cc l)[i * 2 + j]? := by rw [← r4, List.getElem?_take_of_lt hlt]
      rw [cc_get l _ hlt] at e1
      have e2 : (i * 2 + j) / 2 = i := by omega
      have e3 : (i * 2 + j) % 2 = j := by omega
      rw [e2, e3, getElem!_pos l i hi, Array.getElem?_toList] at e1
      rw [← e1]
      simp [World.cell?, hgb]
    rw [Nat.zero_add]
    exact ⟨key 0 (by decide), key 1 (by decide)⟩
/-- a row of the call's own: the reference's writes -/
def WRow (base : Nat) (w : World) (v : Value) (l : List Chg) : Prop := w.ownsRow base 45 2 v l.length (cc l)
theorem WRow.nil (base : Nat) (w : World) : WRow base w (.slice none 0 0) [] := ⟨rfl, .inl ⟨rfl, rfl⟩⟩
theorem WRow.own {base : Nat} {w : World} {v : Value} {l : List Chg} (h : WRow base w v l) : ∀ x, v.ownBlock = some x → base ≤ x ∧ x < w.heap.size := by
  obtain ⟨e1, ⟨rfl, _⟩ | ⟨x, cap, cur, rfl, e4, e5, e6⟩⟩ := h
  · intro x hx; cases hx
  · intro y hy; cases hy; exact ⟨e4, lt_of_block e5⟩
theorem WRow.len {base : Nat} {w : World} {v : Value} {l : List Chg} (h : WRow base w v l) : ∃ ao cap, v = .slice ao l.length cap ∧ l.length ≤ cap ∧ cap ≤ maxLen := by
  rcases h.2 with ⟨rfl, hz⟩ | ⟨gb, cap, cur, rfl, _, _, r1, r2, _⟩
  · exact ⟨none, 0, by rw [hz], by omega, by decide⟩
  · exact ⟨_, cap, rfl, r1, r2⟩
theorem Try.infoX45 : (Try.prog.info? 45).map (fun i => (i.zero, i.size, i.bytes)) = some (some (.agg #[.int .i64 0, .string ⟨#[]⟩]), 2, 24) := by kernel_rfl
theorem pushW {ops : Array Oper} {rest : List Oper} {o : Oper} {a : Act} {Q : Exit → Act → World → Prop} {w0 : World} (hgd : o.guard = none) (s x : Operand)
    (ho : o.op = .call { callee := .builtin .append, args := #[s, x], argTypes := #[37, 37] }) (B1 bb : Nat) (v : Value) (T : List Chg) (y : Chg)
    (hs : a.eval s = v) (hx : a.eval x = .slice (some ⟨bb, 0, none⟩) 1 1) (hbb : bb = w0.heap.size) (hA : WRow B1 w0 v T) (hn : T.length ≤ 2000) (hbase : B1 ≤ w0.heap.size)
    (h : ∀ v' w', WRow B1 w' v' (T ++ [y]) → Below B1 w0 w' → wpList Try.prog ops Q rest (a.put o.dst v') w') :
    wpList Try.prog ops Q (o :: rest) a (w0.alloc (.cells #[.int .i64 y.b, .string y.d] 45)) := by
  subst hbb
  obtain ⟨i0, hi, hz0, hz1, hz2⟩ := info_parts Try.infoX45
  have ho2 := hA.own
  refine wpList_append_own _ hgd s x 37 ho B1 45 i0 (.agg #[.int .i64 0, .string ⟨#[]⟩]) 2 24 Try.underlying37 hi hz0 hz1 hz2 rfl (by decide) v T.length (cc T) hs (World.ownsRow.alloc hA _) ⟨w0.heap.size, 0, none⟩ 1 1 (encC y) hx rfl (by
      intro j u hu
      match j, hu with
      | 0, hu => simp [encC] at hu; subst hu; simp [Addr.add]
      | 1, hu => simp [encC] at hu; subst hu; simp [Addr.add]
      | j + 2, hu => simp [encC] at hu) (by intro u hu; simp [encC] at hu; rcases hu with rfl | rfl <;> rfl) (by unfold maxLen; omega) (by omega) (by simp; omega) ?_
  intro v' w' hown hg _
  refine h v' w' ?_ ?_
  · unfold WRow
    rw [cc_append, cc_one, List.length_append]
    exact hown
  · refine (below_alloc w0 (.cells #[.int .i64 y.b, .string y.d] 45)).mono hbase |>.trans ⟨hg.os, hg.tape, hg.output, hg.size, fun k hk => hg.block k ?_ ?_⟩
    · simp; omega
    · intro e
      have := (ho2 k e.symm).1
      omega
theorem refAppend_txn (g : Nat) (v : Value) (L : List Chg) (hr : right L = false) (w : World) (hL : CLie w v L) :
    Calls Try.prog 13 #[.pointer (some ⟨g, 0, none⟩), v] w fun e w' => e = .returned (.tuple #[.slice none 0 0, .int .i64 70]) ∧ Below w.heap.size w w' := by
  have HC := hid (right_any v L w hL)
  rw [hr] at HC
  go_enter Try.func13, Try.ntmps13
  go_wp2_with (first
    | (go_at_call 30; refine (HC.out).mono ?_; rintro e w1 ⟨rfl, hb1⟩))
  go_ret2
  exact ⟨rfl, hb1⟩
set_option maxRecDepth 100000 in
theorem refAppend_full (g : Nat) (r : Option Nat) (P : Int) (T F S : Nat) (vs : List Value) (v : Value) (L : List Chg) (hP : 0 < P) (hP2 : P ≤ 300) (hF : F + vs.length ≤ 1099511628000) (hl : vs.length ≤ 300) (hs : sumI (vs.map szOf) ≤ P) (hs2 : P < sumI (vs.map szOf) + L.length + 1 ∨ 1099511627776 < F + vs.length) (hr : right L = true) (w : World) (h : RK g r w P T F S vs) (hL : CLie w v L) :
    Calls Try.prog 13 #[.pointer (some ⟨g, 0, none⟩), v] w fun e w' => e = .returned (.tuple #[.slice none 0 0, .int .i64 5]) ∧ Below w.heap.size w w' := by
  have h48 := right_len hr
  have HC := hid (right_any v L w hL)
  rw [hr] at HC
  obtain ⟨la, lcap, rfl, hl1, hl2, _⟩ := hL
  have HFr := hid (fun w h => refFree_j g r P T F S vs (by omega) hP2 hs w h)
  have HNx := hid (fun w h => refNext_j g r P T F S vs hl (by omega) w h)
  have HK := hid h
  obtain ⟨A, hA⟩ : ∃ A, A = sumI (vs.map szOf) := ⟨_, rfl⟩
  rw [← hA] at HFr hs hs2
  have hA0 : 0 ≤ A := by
    rw [hA]
    obtain ⟨Lv, _, _, _, h3⟩ := h
    refine sumI_nn fun x hx => ?_
    obtain ⟨v, hv, rfl⟩ := List.mem_map.1 hx
    obtain ⟨a, n, c, rfl, _⟩ := h3 v hv
    show (0 : Int) ≤ (n : Int) + 1
    omega
  clear hA h hr
  by_cases hf : P < A + L.length + 1
  · clear hs2
    go_enter Try.func13, Try.ntmps13
    go_wp2_with (first
      | (go_at_call 30; refine (HC.out).mono ?_; rintro e w1 ⟨rfl, hb1⟩)
      | (go_at_call 23; refine (HFr.out _ (by exact HK.out.below hb1)).mono ?_; rintro e w2 ⟨rfl, hw⟩; have hw := hw.symm; subst hw))
    go_ret2
    exact ⟨rfl, hb1⟩
  · have hf2 : 1099511627776 < F + vs.length := by omega
    clear hs2
    go_enter Try.func13, Try.ntmps13
    go_wp2_with (first
      | (go_at_call 30; refine (HC.out).mono ?_; rintro e w1 ⟨rfl, hb1⟩)
      | (go_at_call 23; refine (HFr.out _ (by exact HK.out.below hb1)).mono ?_; rintro e w2 ⟨rfl, hw⟩; have hw := hw.symm; subst hw)
      | (go_at_call 25; refine (HNx.out _ (by exact HK.out.below hb1)).mono ?_; rintro e w3 ⟨rfl, q, hw⟩; have hw := hw.symm; subst hw))
    go_ret2
    exact ⟨rfl, hb1.next ⟨rfl, rfl, rfl, Nat.le_refl _, fun _ _ => rfl⟩⟩
set_option maxRecDepth 100000 in
set_option maxHeartbeats 4000000 in
theorem refAppend_ok (g : Nat) (r : Option Nat) (P : Int) (T F S : Nat) (vs : List Value) (v : Value) (L : List Chg) (hP : 0 < P) (hP2 : P ≤ 300) (hT : T < P) (hF0 : 1 ≤ F) (hF : F + vs.length ≤ 1099511627776) (hl : vs.length ≤ 300) (hs : sumI (vs.map szOf) + L.length + 1 ≤ P) (hr : right L = true) (w : World) (h : RK g r w P T F S vs) (hL : CLie w v L) :
    Calls Try.prog 13 #[.pointer (some ⟨g, 0, none⟩), v] w fun e w' => ∃ wv r', e = .returned (.tuple #[wv, .int .i64 0]) ∧ CLie w' wv (wrL P (T + sumI (vs.map szOf)) (encL (F + vs.length) L)) ∧ RK g r' w' P T F S (vs ++ [v]) ∧ New w r r' ∧ JFr g r w w' := by
  have hltr := h.lt
  have hgl := hltr.1
  have h48 := right_len hr
  have HC := hid (right_any v L w hL)
  rw [hr] at HC
  have HE := hid (fun w h => refEncode_ok (F + vs.length) v L (by omega) (by omega) w h hr)
  rw [show ((F + vs.length : Nat) : Int) = (F : Int) + (vs.length : Int) by omega] at HE
  have hel := encL_len (F + vs.length) L
  obtain ⟨EB, hEB⟩ : ∃ EB, EB = encL (F + vs.length) L := ⟨_, rfl⟩
  rw [← hEB] at HE hel ⊢
  clear hEB
  obtain ⟨n, hnn⟩ : ∃ n, n = L.length + 1 := ⟨_, rfl⟩
  have hn49 : n ≤ 49 := by omega
  have hn1 : 1 ≤ n := by omega
  rw [← hnn] at hel
  have HFr := hid (fun w h => refFree_j g r P T F S vs (by omega) hP2 (by omega) w h)
  have HNx := hid (fun w h => refNext_j g r P T F S vs hl (by omega) w h)
  have HK := hid h
  have HL := hid hL
  obtain ⟨la, lcap, rfl, hl1, hl2, _⟩ := hL
  obtain ⟨A, hA⟩ : ∃ A, A = sumI (vs.map szOf) := ⟨_, rfl⟩
  rw [← hA] at HFr hs ⊢
  have hA0 : 0 ≤ A := by
    rw [hA]
    obtain ⟨Lv, _, _, _, h3⟩ := h
    refine sumI_nn fun x hx => ?_
    obtain ⟨v, hv, rfl⟩ := List.mem_map.1 hx
    obtain ⟨a, n, c, rfl, _⟩ := h3 v hv
    show (0 : Int) ≤ (n : Int) + 1
    omega
  have HH3 : Hid (∀ v ∈ vs, Slc v) := by obtain ⟨Lv, _, _, _, h3⟩ := h; exact hid h3
  obtain ⟨Lv, hro, h1, h2, _⟩ := h
  obtain ⟨ao, cap, rfl, hlc, hcm⟩ := h2.len
  have HI := hid h1
  have HR := hid h2
  clear hA hr h1 h2 hnn
  go_enter Try.func13, Try.ntmps13
  go_upto_region 5 with (first
    | (go_at_call 30; refine (HC.out).mono ?_; rintro e w1 ⟨rfl, hb1⟩; have HB1 := hid hb1; clear hb1)
    | (go_at_call 23; refine (HFr.out _ (by exact HK.out.below HB1.out)).mono ?_; rintro e w2 ⟨rfl, hw⟩; have hw := hw.symm; subst hw)
    | (go_at_call 25; refine (HNx.out _ (by exact HK.out.below HB1.out)).mono ?_; rintro e w3 ⟨rfl, q, hw⟩; have hw := hw.symm; subst hw))
  have HB2 : Hid (Below w.heap.size w (w1.drewN q)) := hid (HB1.out.next ⟨rfl, rfl, rfl, Nat.le_refl _, fun _ _ => rfl⟩)
  obtain ⟨w2, hw2⟩ : ∃ w2, w2 = w1.drewN q := ⟨_, rfl⟩
  rw [← hw2] at HB2 ⊢
  clear hw2
  have HI2 := hid (HI.out.below HB2.out)
  obtain ⟨c0, c1, c2, c3, c4⟩ := HI2.out.cells
  have hlt2 := HI2.out.lt
  have hwr : IntKind.i64.wrap ((T : Int) + P) = (T : Int) + P := by rw [IntKind.wrap_i64]; omega
  have hwr2 : IntKind.i64.wrap ((T : Int) + P - (P - A)) = (T : Int) + A := by rw [IntKind.wrap_i64]; omega
  go_quiet ((go_at_call 23; exact Calls.quiet_of_same (HFr.out _ (by exact HK.out.below (HB2.out.next ⟨rfl, rfl, rfl, Nat.le_refl _, fun _ _ => rfl⟩)))))
  have HB3 : Hid (Below w.heap.size w (w2.drewN nq)) := hid (HB2.out.next ⟨rfl, rfl, rfl, Nat.le_refl _, fun _ _ => rfl⟩)
  obtain ⟨w3, hw3⟩ : ∃ w3, w3 = w2.drewN nq := ⟨_, rfl⟩
  rw [← hw3] at HB3 ⊢
  clear hw3 c0 c1 c2 c3 c4 hlt2
  go_wp2_with (first
    | (go_at_call 25; refine (HNx.out _ (by exact HK.out.below HB3.out)).mono ?_; rintro e w4 ⟨rfl, q4, hw⟩; have hw := hw.symm; subst hw)
    | (go_at_call 37; fail))
  have HB4 : Hid (Below w.heap.size w (w3.drewN q4)) := hid (HB3.out.next ⟨rfl, rfl, rfl, Nat.le_refl _, fun _ _ => rfl⟩)
  refine (HE.out _ (by exact HL.out.below HB4.out)).mono ?_
  rintro e w5 ⟨bv, rfl, hsl, hb5⟩
  have HS5 := hid hsl
  have HB5 := hid (HB4.out.next hb5)
  clear hb5
  obtain ⟨bo, bc, rfl, hbl, hbm, _⟩ := hsl
  rw [hel] at HS5 hbl ⊢
  unfold maxLen at hbm
  have HI5 := hid (HI.out.below HB5.out)
  have hWl : (wrL P (T + A) EB).length = n := by rw [wrL_len]; exact hel
  go_wp2
  go_loopw [6, 9, 47] (fun at9 ov i wr => ∃ q : Nat, i = .int .i64 q ∧ q ≤ n ∧ at9 = .int .i64 ((T : Int) + A + q) ∧ WRow w5.heap.size wr ov ((wrL P (T + A) EB).take q) ∧ Below w5.heap.size w5 wr) (fun _ _ i _ => n - (intOf i).toNat)
  case atStart => exact ⟨0, rfl, Nat.zero_le _, by simp, WRow.nil _ _, Below.refl _ _⟩
  case round =>
    obtain ⟨q, rfl, hq, rfl, hWq, hBq⟩ := hrel
    have HWq := hid hWq
    have HBq := hid hBq
    obtain ⟨oo, oc, rfl, ho1, ho2⟩ := hWq.len
    clear hWq hBq
    have hwt : ((wrL P (T + A) EB).take q).length = q := by rw [List.length_take]; omega
    rw [hwt] at HWq ho1 ⊢
    have HIq := hid (HI5.out.below HBq.out)
    obtain ⟨c0, c1, c2, c3, c4⟩ := HIq.out.cells
    have hltq := HIq.out.lt
    have hszq := HBq.out.size
    by_cases hqk : q < n
    · obtain ⟨pg, po, e, hpg, pc⟩ : ∃ pg po, bo = some ⟨pg, po, none⟩ ∧ pg < w5.heap.size ∧ w5.cell? ⟨pg, po + q, none⟩ = some (.string (EB[q]'(by omega))) := by
        obtain ⟨ao', cap', e, _, _, hc⟩ := HS5.out
        obtain ⟨g', o', e', k1, k2⟩ := hc q (by omega)
        injection e with e1 e2 e3
        exact ⟨g', o', e1.trans e', k1, k2⟩
      subst e
      replace pc := (HBq.out.cell (p := ⟨pg, po + q, none⟩) hpg).trans pc
      have hpr : pg < wr.heap.size := Nat.lt_of_lt_of_le hpg HBq.out.size
      have HS : Hid ((wrL P (T + A) EB).take (q + 1) = (wrL P (T + A) EB).take q ++ [⟨((T : Int) + A + q) % P + 1, EB[q]'(by omega)⟩]) := by
        show _ = _
        rw [List.take_succ_eq_append_getElem (by omega), wrL_get P (T + A) EB q (by omega) (by omega), Int.add_comm 1]
      have hmod := Int.emod_lt_of_pos ((T : Int) + A + q) hP
      have hmod0 := Int.emod_nonneg ((T : Int) + A + q) (show P ≠ 0 by omega)
      obtain ⟨d, hd⟩ : ∃ d, d = EB[q]'(by omega) := ⟨_, rfl⟩
      rw [← hd] at pc HS
      clear hd
      have hP' : (P == 0) = false := by simp; omega
      go_wp2_with (first
        | (at_builtin; refine pushW (w0 := wr) rfl (.tmp 51) (.tmp 61) rfl w5.heap.size wr.heap.size _ ((wrL P (T + A) EB).take q) ⟨((T : Int) + A + q) % P + 1, d⟩ rfl rfl rfl (by exact HWq.out) (by omega) hszq ?_; intro v7 w7 hw7 hb7; rw [← HS.out] at hw7; have HW7 := hid hw7; have HB7 := hid (HBq.out.trans hb7); clear hw7 hb7))
      go_roundw
      case rel => exact ⟨q + 1, by go_num, by omega, by congr 1; omega, HW7.out, HB7.out⟩
      case measure => simp [intOf]; omega
    · have hqe : q = n := by omega
      subst hqe
      rw [List.take_of_length_le (by omega)] at HWq
      have HRq : Hid (VRow wr (.slice ao vs.length cap) vs) := hid (HR.out.same fun x hx => (HB5.out.next HBq.out).block x (hltr.2 x (hro.symm.trans hx)).1)
      have hfq := frees HIq.out
      have hsz : w.heap.size ≤ w5.heap.size := HB5.out.size
      have hgr : some g ≠ (Value.slice ao vs.length cap).ownBlock := by
        intro e
        exact (hltr.2 g (hro.symm.trans e.symm)).2 rfl
      go_wp2_with (first
        | (at_builtin; refine pushV (w0 := wr) rfl (.tmp 70) (.tmp 72) rfl wr.heap.size _ vs (.slice la L.length lcap) rfl rfl rfl rfl (by exact HRq.out) (by omega) ?_; intro v7 w7 hR7 hg7 hn7; have HR7 := hid hR7; have HG7 := hid hg7; have HN7 := hid hn7; obtain ⟨a7, c7, rfl, _, _⟩ := hR7.len; have HI7 : Hid (RI g w7 P T F S (.slice ao vs.length cap)) := hid ((hg7.block g hltq hgr).trans HIq.out); clear hR7 hg7 hn7 c0 c1 c2 c3 c4 hfq; obtain ⟨c0, c1, c2, c3, c4⟩ := HI7.out.cells; have hf7 := frees HI7.out; have hlt7 := HI7.out.lt))
      rw [List.length_append, List.length_singleton] at HR7 HN7
      have ne7 : ∀ x, (Value.slice a7 (vs.length + 1) c7).ownBlock = some x → x ≠ g := by
        intro x hx
        rcases HN7.out with e | ⟨k, e, hk⟩
        · exact (hltr.2 x (hro.symm.trans (e.symm.trans hx))).2
        · rw [hx] at e
          injection e with e
          omega
      have hoo : ∀ x, (Value.slice oo q oc).ownBlock = some x → w5.heap.size ≤ x ∧ x < wr.heap.size := HWq.out.own
      refine bodyPost_ret (v := .tuple #[.slice oo q oc, .int .i64 0]) (by simp [results, Try.results13, go_sem]) rfl ⟨_, (Value.slice a7 (vs.length + 1) c7).ownBlock, rfl, ?_, ?_, ?_, ?_⟩
      · refine cc_lie (B := w5.heap.size) (ty := 45) ?_
        obtain ⟨e1, e2 | ⟨x, cap', cur, e3, e4, e5, e6⟩⟩ := HWq.out
        · exact ⟨e1, .inl e2⟩
        · have hx := hoo x (by rw [e3]; rfl)
          refine ⟨e1, .inr ⟨x, cap', cur, e3, e4, ?_, e6⟩⟩
          refine (Below.heap_setCell _ _ _ _ ?_).trans ((HG7.out.block x hx.2 ?_).trans e5)
          · show x ≠ g
            omega
          · show some x ≠ (Value.slice ao vs.length cap).ownBlock
            intro e
            have := (hltr.2 x (hro.symm.trans e.symm)).1
            omega
      · refine ⟨_, rfl, HI7.out.set4 _, HR7.out.same fun x hx => Below.heap_setCell _ _ _ _ ?_, fun y hy => ?_⟩
        · exact ne7 x hx
        · rcases List.mem_append.1 hy with hy | hy
          · exact HH3.out y hy
          · rw [List.mem_singleton] at hy
            exact ⟨la, L.length, lcap, hy, by omega⟩
      · rcases HN7.out with e | ⟨k, e, hk⟩
        · exact .inl (e.trans hro)
        · exact .inr ⟨k, e, by omega⟩
      · have kq : Below w.heap.size w wr := HB5.out.next HBq.out
        have k7 : JFr g r w w7 := (JFr.of kq).trans (.inl rfl) ⟨HG7.out.os, HG7.out.tape, HG7.out.output, HG7.out.size, fun k hk _ h2 => HG7.out.block k hk (by show some k ≠ (Value.slice ao vs.length cap).ownBlock; rw [hro]; exact h2)⟩
        exact k7.set (.inl rfl) _ _
end Go.Proofs.Ytmcahiebcflfoaa
