import Derived.Test.YtmcahiebcflfoaaKd
import Derived.Test.YtmcahiebcflfoaaJh
import Derived.Test.YtmcahiebcflfoaaMy
import Derived.Test.YtmcahiebcflfoaaLf
import Derived.Test.YtmcahiebcflfoaaLi
import Derived.Test.YtmcahiebcflfoaaJs
import Derived.OwnWalk
namespace Go.Proofs.Ytmcahiebcflfoaa
open Go.RowKit Go.Maps
set_option maxRecDepth 100000 in
theorem pushV2 {ops : Array Oper} {rest : List Oper} {o : Oper} {a : Act} {Q : Exit → Act → World → Prop} {w0 : World} (hgd : o.guard = none) (s x : Operand)
    (ho : o.op = .call { callee := .builtin .append, args := #[s, x], argTypes := #[54, 54] }) (bb : Nat) (v : Value) (T : List Value) (y : Value) (hy : y.oneCell' = true)
    (hs : a.eval s = v) (hx : a.eval x = .slice (some ⟨bb, 0, none⟩) 1 1) (hbb : bb = w0.heap.size) (hA : VRow w0 v T) (hn : T.length ≤ 2000)
    (h : ∀ v' w', VRow w' v' (T ++ [y]) → VRow w' v T → w0.grownBy w' v.ownBlock → (v'.ownBlock = v.ownBlock ∨ ∃ k, v'.ownBlock = some k ∧ w0.heap.size ≤ k) → wpList Try.prog ops Q rest (a.put o.dst v') w') :
    wpList Try.prog ops Q (o :: rest) a (w0.alloc (.cells #[y] 31)) := by
  subst hbb
  obtain ⟨i0, hi, hz0, hz1, hz2⟩ := info_parts Try.infoV31
  have hnew : ∀ j u, [y][j]? = some u → (w0.alloc (.cells #[y] 31)).cell? ((⟨w0.heap.size, 0, none⟩ : Addr).add j) = some u := cell_one_new w0 y 31
  have grow : ∀ {row : Option Nat} {w'}, (w0.alloc (.cells #[y] 31)).grownBy w' row → w0.grownBy w' row := fun hg => ⟨hg.os, hg.tape, hg.output, by have := hg.size; simp at this; omega, fun k hk hne => (hg.block k (by simp; omega) hne).trans (Below.heap_alloc _ _ k hk)⟩
  have back : ∀ {base : Nat} {w' v'}, w'.ownsRow base 31 1 v' (T.length + 1) (T ++ [y]) → VRow w' v' (T ++ [y]) := by
    intro base w' v' hown
    refine VRow.of (base := base) ?_
    rw [List.length_append]
    exact hown
  rcases hA with ⟨rfl, rfl⟩ | ⟨b, off, cap, cur, rfl, h1, h2, h3, h4, h5⟩
  · refine wpList_append_own_at _ hgd s x 54 ho 0 31 i0 (.slice none 0 0) 1 24 Try.underlying54 hi hz0 hz1 hz2 rfl (by decide) _ 0 [] hs (World.ownsRow_nil _ _ _ _) ⟨w0.heap.size, 0, none⟩ 1 1 [y] hx rfl hnew (by intro u hu; simp at hu; subst hu; exact hy) (by decide) (by decide) (Nat.zero_le _) ?_
    intro v' w' hown hg _ hat
    refine h v' w' (back hown) (VRow.nil _) (grow hg) ?_
    rcases hat with e | e
    · exact .inl e
    · exact .inr ⟨_, e, by simp⟩
  · have hb := lt_of_block h1
    have hb1 : (w0.alloc (.cells #[y] 31)).heap[b]? = some (.cells cur 31 (0, 0)) := (Below.heap_alloc _ _ b hb).trans h1
    have hcell : ∀ j, (w0.alloc (.cells #[y] 31)).cell? ⟨b, j, none⟩ = cur[j]? := fun j => cell_of hb1 j
    refine wpList_append_arg _ hgd s x 54 ho 31 i0 (.slice none 0 0) 1 24 Try.underlying54 hi hz0 hz1 hz2 rfl (by decide) b off T.length cap T hs (by simp) ?_ ⟨w0.heap.size, 0, none⟩ 1 1 [y] hx rfl hnew (by intro u hu; simp at hu; subst hu; exact hy) ?_ (by unfold maxLen; omega) (by omega) ?_ ?_
    · intro j u hu
      by_cases hj : j < T.length
      · rw [List.getElem?_eq_getElem hj] at hu
        injection hu with hu
        subst hu
        rw [hcell]
        exact h5 j hj
      · rw [List.getElem?_eq_none (by omega)] at hu; cases hu
    · intro hr j hj
      have hj0 : j = 0 := by simp at hj; exact hj
      subst hj0
      refine ⟨?_, frees hb1 _⟩
      rw [hcell, Array.getElem?_eq_getElem (show off + T.length * 1 + 0 < cur.size by omega)]
      rfl
    · intro hr
      refine h _ _ ?_ ?_ ?_ (.inl rfl)
      · refine .inr ⟨b, off, cap, cur.set! (off + T.length * 1) y, by simp, cells_set hb1 _, by simp; omega, h3, by simp; omega, fun i hi => ?_⟩
        rw [Nat.mul_one, Array.set!_eq_setIfInBounds]
        by_cases hit : i < T.length
        · rw [Array.getElem?_setIfInBounds_ne (by omega), List.getElem_append_left hit]
          exact h5 i hit
        · have hie : i = T.length := by simp at hi; omega
          subst hie
          rw [Array.getElem?_setIfInBounds_self_of_lt (by omega)]
          simp
      · refine .inr ⟨b, off, cap, cur.set! (off + T.length * 1) y, rfl, cells_set hb1 _, h2, h3, by simp; omega, fun i hi => ?_⟩
        rw [Nat.mul_one, Array.set!_eq_setIfInBounds, Array.getElem?_setIfInBounds_ne (by omega)]
        exact h5 i hi
      · refine ⟨rfl, rfl, rfl, by simp [World.setCells], fun k hk hne => ?_⟩
        show ((w0.alloc (.cells #[y] 31)).setCell ⟨b, off + T.length * 1, none⟩ y).heap[k]? = _
        rw [Below.heap_setCell _ _ _ _ (by rintro rfl; exact hne rfl)]
        exact Below.heap_alloc _ _ k hk
    · intro hr v' w' hown hg
      have hg2 := grow hg
      have hold : VRow w' (.slice (some ⟨b, off, none⟩) T.length cap) T := by
        refine .inr ⟨b, off, cap, cur, rfl, (hg2.block b hb (by simp)).trans h1, h2, h3, h4, h5⟩
      refine h v' w' (back hown) hold ⟨hg2.os, hg2.tape, hg2.output, hg2.size, fun k hk _ => hg2.block k hk (by simp)⟩ ?_
      rcases hown.2 with ⟨_, hz⟩ | ⟨k, _, _, rfl, hk, _⟩
      · omega
      · exact .inr ⟨k, rfl, by simp at hk; omega⟩
set_option maxRecDepth 100000 in
set_option maxHeartbeats 4000000 in
theorem refAppend_ok2 (g : Nat) (r : Option Nat) (P : Int) (T F S : Nat) (vs : List Value) (v : Value) (L : List Chg) (hP : 0 < P) (hP2 : P ≤ 300) (hT : T < P) (hF0 : 1 ≤ F) (hF : F + vs.length ≤ 1099511627776) (hl : vs.length ≤ 300) (hs : sumI (vs.map szOf) + L.length + 1 ≤ P) (hr : right L = true) (w : World) (Lv : Value) (hLv : Lv.ownBlock = r) (hRI : RI g w P T F S Lv) (hVR : VRow w Lv vs) (hSl : ∀ v ∈ vs, Slc v) (hL : CLie w v L) :
    Calls Try.prog 13 #[.pointer (some ⟨g, 0, none⟩), v] w fun e w' => ∃ wv r', e = .returned (.tuple #[wv, .int .i64 0]) ∧ CLie w' wv (wrL P (T + sumI (vs.map szOf)) (encL (F + vs.length) L)) ∧ RK g r' w' P T F S (vs ++ [v]) ∧ New w r r' ∧ JFr g r w w' ∧ VRow w' Lv vs := by
  have h : RK g r w P T F S vs := ⟨Lv, hLv, hRI, hVR, hSl⟩
  have hltr := h.lt
  have hgl := hltr.1
  have h48 := right_len hr
  have HC := hid (right_any v L w hL)
  rw [hr] at HC
  have HE := hid (fun w h => refEncode_ok (F + vs.length) v L (by omega) (by omega) w h hr)
  rw [show ((F + vs.length : Nat) : Int) = (F : Int) + (vs.length : Int) by omega] at HE
  have hel := encL_len (F + vs.length) L
  obtain ⟨EB, hEB⟩ : ∃ EB, EB = encL (F + vs.length) L := ⟨_, rfl⟩
  rw [← hEB] at HE hel ⊢
  clear hEB
  obtain ⟨n, hnn⟩ : ∃ n, n = L.length + 1 := ⟨_, rfl⟩
  have hn49 : n ≤ 49 := by omega
  have hn1 : 1 ≤ n := by omega
  rw [← hnn] at hel
  have HFr := hid (fun w h => refFree_j g r P T F S vs (by omega) hP2 (by omega) w h)
  have HNx := hid (fun w h => refNext_j g r P T F S vs hl (by omega) w h)
  have HK := hid h
  have HL := hid hL
  obtain ⟨la, lcap, rfl, hl1, hl2, _⟩ := hL
  obtain ⟨A, hA⟩ : ∃ A, A = sumI (vs.map szOf) := ⟨_, rfl⟩
  rw [← hA] at HFr hs ⊢
  have hA0 : 0 ≤ A := by
    rw [hA]
    obtain ⟨Lv, _, _, _, h3⟩ := h
    refine sumI_nn fun x hx => ?_
    obtain ⟨v, hv, rfl⟩ := List.mem_map.1 hx
    obtain ⟨a, n, c, rfl, _⟩ := h3 v hv
    show (0 : Int) ≤ (n : Int) + 1
    omega
  have HH3 : Hid (∀ v ∈ vs, Slc v) := by obtain ⟨Lv, _, _, _, h3⟩ := h; exact hid h3
  have hro := hLv
  have h1 := hRI
  have h2 := hVR
  clear hLv hRI hVR hSl h
  obtain ⟨ao, cap, rfl, hlc, hcm⟩ := h2.len
  have HI := hid h1
  have HR := hid h2
  clear hA hr h1 h2 hnn
  go_enter Try.func13, Try.ntmps13
  go_upto_region 5 with (first
    | (go_at_call 30; refine (HC.out).mono ?_; rintro e w1 ⟨rfl, hb1⟩; have HB1 := hid hb1; clear hb1)
    | (go_at_call 23; refine (HFr.out _ (by exact HK.out.below HB1.out)).mono ?_; rintro e w2 ⟨rfl, hw⟩; have hw := hw.symm; subst hw)
    | (go_at_call 25; refine (HNx.out _ (by exact HK.out.below HB1.out)).mono ?_; rintro e w3 ⟨rfl, q, hw⟩; have hw := hw.symm; subst hw))
  have HB2 : Hid (Below w.heap.size w (w1.drewN q)) := hid (HB1.out.next ⟨rfl, rfl, rfl, Nat.le_refl _, fun _ _ => rfl⟩)
  obtain ⟨w2, hw2⟩ : ∃ w2, w2 = w1.drewN q := ⟨_, rfl⟩
  rw [← hw2] at HB2 ⊢
  clear hw2
  have HI2 := hid (HI.out.below HB2.out)
  obtain ⟨c0, c1, c2, c3, c4⟩ := HI2.out.cells
  have hlt2 := HI2.out.lt
  have hwr : IntKind.i64.wrap ((T : Int) + P) = (T : Int) + P := by rw [IntKind.wrap_i64]; omega
  have hwr2 : IntKind.i64.wrap ((T : Int) + P - (P - A)) = (T : Int) + A := by rw [IntKind.wrap_i64]; omega
  go_quiet ((go_at_call 23; exact Calls.quiet_of_same (HFr.out _ (by exact HK.out.below (HB2.out.next ⟨rfl, rfl, rfl, Nat.le_refl _, fun _ _ => rfl⟩)))))
  have HB3 : Hid (Below w.heap.size w (w2.drewN nq)) := hid (HB2.out.next ⟨rfl, rfl, rfl, Nat.le_refl _, fun _ _ => rfl⟩)
  obtain ⟨w3, hw3⟩ : ∃ w3, w3 = w2.drewN nq := ⟨_, rfl⟩
  rw [← hw3] at HB3 ⊢
  clear hw3 c0 c1 c2 c3 c4 hlt2
  go_wp2_with (first
    | (go_at_call 25; refine (HNx.out _ (by exact HK.out.below HB3.out)).mono ?_; rintro e w4 ⟨rfl, q4, hw⟩; have hw := hw.symm; subst hw)
    | (go_at_call 37; fail))
  have HB4 : Hid (Below w.heap.size w (w3.drewN q4)) := hid (HB3.out.next ⟨rfl, rfl, rfl, Nat.le_refl _, fun _ _ => rfl⟩)
  refine (HE.out _ (by exact HL.out.below HB4.out)).mono ?_
  rintro e w5 ⟨bv, rfl, hsl, hb5⟩
  have HS5 := hid hsl
  have HB5 := hid (HB4.out.next hb5)
  clear hb5
  obtain ⟨bo, bc, rfl, hbl, hbm, _⟩ := hsl
  rw [hel] at HS5 hbl ⊢
  unfold maxLen at hbm
  have HI5 := hid (HI.out.below HB5.out)
  have hWl : (wrL P (T + A) EB).length = n := by rw [wrL_len]; exact hel
  go_wp2
  go_loopw [6, 9, 47] (fun at9 ov i wr => ∃ q : Nat, i = .int .i64 q ∧ q ≤ n ∧ at9 = .int .i64 ((T : Int) + A + q) ∧ WRow w5.heap.size wr ov ((wrL P (T + A) EB).take q) ∧ Below w5.heap.size w5 wr) (fun _ _ i _ => n - (intOf i).toNat)
  case atStart => exact ⟨0, rfl, Nat.zero_le _, by simp, WRow.nil _ _, Below.refl _ _⟩
  case round =>
    obtain ⟨q, rfl, hq, rfl, hWq, hBq⟩ := hrel
    have HWq := hid hWq
    have HBq := hid hBq
    obtain ⟨oo, oc, rfl, ho1, ho2⟩ := hWq.len
    clear hWq hBq
    have hwt : ((wrL P (T + A) EB).take q).length = q := by rw [List.length_take]; omega
    rw [hwt] at HWq ho1 ⊢
    have HIq := hid (HI5.out.below HBq.out)
    obtain ⟨c0, c1, c2, c3, c4⟩ := HIq.out.cells
    have hltq := HIq.out.lt
    have hszq := HBq.out.size
    by_cases hqk : q < n
    · obtain ⟨pg, po, e, hpg, pc⟩ : ∃ pg po, bo = some ⟨pg, po, none⟩ ∧ pg < w5.heap.size ∧ w5.cell? ⟨pg, po + q, none⟩ = some (.string (EB[q]'(by omega))) := by
        obtain ⟨ao', cap', e, _, _, hc⟩ := HS5.out
        obtain ⟨g', o', e', k1, k2⟩ := hc q (by omega)
        injection e with e1 e2 e3
        exact ⟨g', o', e1.trans e', k1, k2⟩
      subst e
      replace pc := (HBq.out.cell (p := ⟨pg, po + q, none⟩) hpg).trans pc
      have hpr : pg < wr.heap.size := Nat.lt_of_lt_of_le hpg HBq.out.size
      have HS : Hid ((wrL P (T + A) EB).take (q + 1) = (wrL P (T + A) EB).take q ++ [⟨((T : Int) + A + q) % P + 1, EB[q]'(by omega)⟩]) := by
        show _ = _
        rw [List.take_succ_eq_append_getElem (by omega), wrL_get P (T + A) EB q (by omega) (by omega), Int.add_comm 1]
      have hmod := Int.emod_lt_of_pos ((T : Int) + A + q) hP
      have hmod0 := Int.emod_nonneg ((T : Int) + A + q) (show P ≠ 0 by omega)
      obtain ⟨d, hd⟩ : ∃ d, d = EB[q]'(by omega) := ⟨_, rfl⟩
      rw [← hd] at pc HS
      clear hd
      have hP' : (P == 0) = false := by simp; omega
      go_wp2_with (first
        | (at_builtin; refine pushW (w0 := wr) rfl (.tmp 51) (.tmp 61) rfl w5.heap.size wr.heap.size _ ((wrL P (T + A) EB).take q) ⟨((T : Int) + A + q) % P + 1, d⟩ rfl rfl rfl (by exact HWq.out) (by omega) hszq ?_; intro v7 w7 hw7 hb7; rw [← HS.out] at hw7; have HW7 := hid hw7; have HB7 := hid (HBq.out.trans hb7); clear hw7 hb7))
      go_roundw
      case rel => exact ⟨q + 1, by go_num, by omega, by congr 1; omega, HW7.out, HB7.out⟩
      case measure => simp [intOf]; omega
    · have hqe : q = n := by omega
      subst hqe
      rw [List.take_of_length_le (by omega)] at HWq
      have HRq : Hid (VRow wr (.slice ao vs.length cap) vs) := hid (HR.out.same fun x hx => (HB5.out.next HBq.out).block x (hltr.2 x (hro.symm.trans hx)).1)
      have hfq := frees HIq.out
      have hsz : w.heap.size ≤ w5.heap.size := HB5.out.size
      have hgr : some g ≠ (Value.slice ao vs.length cap).ownBlock := by
        intro e
        exact (hltr.2 g (hro.symm.trans e.symm)).2 rfl
      go_wp2_with (first
        | (at_builtin; refine pushV2 (w0 := wr) rfl (.tmp 70) (.tmp 72) rfl wr.heap.size _ vs (.slice la L.length lcap) rfl rfl rfl rfl (by exact HRq.out) (by omega) ?_; intro v7 w7 hR7 hO7 hg7 hn7; have HR7 := hid hR7; have HO7 := hid hO7; have HG7 := hid hg7; have HN7 := hid hn7; obtain ⟨a7, c7, rfl, _, _⟩ := hR7.len; have HI7 : Hid (RI g w7 P T F S (.slice ao vs.length cap)) := hid ((hg7.block g hltq hgr).trans HIq.out); clear hR7 hO7 hg7 hn7 c0 c1 c2 c3 c4 hfq; obtain ⟨c0, c1, c2, c3, c4⟩ := HI7.out.cells; have hf7 := frees HI7.out; have hlt7 := HI7.out.lt))
      rw [List.length_append, List.length_singleton] at HR7 HN7
      have ne7 : ∀ x, (Value.slice a7 (vs.length + 1) c7).ownBlock = some x → x ≠ g := by
        intro x hx
        rcases HN7.out with e | ⟨k, e, hk⟩
        · exact (hltr.2 x (hro.symm.trans (e.symm.trans hx))).2
        · rw [hx] at e
          injection e with e
          omega
      have hoo : ∀ x, (Value.slice oo q oc).ownBlock = some x → w5.heap.size ≤ x ∧ x < wr.heap.size := HWq.out.own
      refine bodyPost_ret (v := .tuple #[.slice oo q oc, .int .i64 0]) (by simp [results, Try.results13, go_sem]) rfl ⟨_, (Value.slice a7 (vs.length + 1) c7).ownBlock, rfl, ?_, ?_, ?_, ?_, ?_⟩
      · refine cc_lie (B := w5.heap.size) (ty := 45) ?_
        obtain ⟨e1, e2 | ⟨x, cap', cur, e3, e4, e5, e6⟩⟩ := HWq.out
        · exact ⟨e1, .inl e2⟩
        · have hx := hoo x (by rw [e3]; rfl)
          refine ⟨e1, .inr ⟨x, cap', cur, e3, e4, ?_, e6⟩⟩
          refine (Below.heap_setCell _ _ _ _ ?_).trans ((HG7.out.block x hx.2 ?_).trans e5)
          · show x ≠ g
            omega
          · show some x ≠ (Value.slice ao vs.length cap).ownBlock
            intro e
            have := (hltr.2 x (hro.symm.trans e.symm)).1
            omega
      · refine ⟨_, rfl, HI7.out.set4 _, HR7.out.same fun x hx => Below.heap_setCell _ _ _ _ ?_, fun y hy => ?_⟩
        · exact ne7 x hx
        · rcases List.mem_append.1 hy with hy | hy
          · exact HH3.out y hy
          · rw [List.mem_singleton] at hy
            exact ⟨la, L.length, lcap, hy, by omega⟩
      · rcases HN7.out with e | ⟨k, e, hk⟩
        · exact .inl (e.trans hro)
        · exact .inr ⟨k, e, by omega⟩
      · have kq : Below w.heap.size w wr := HB5.out.next HBq.out
        have k7 : JFr g r w w7 := (JFr.of kq).trans (.inl rfl) ⟨HG7.out.os, HG7.out.tape, HG7.out.output, HG7.out.size, fun k hk _ h2 => HG7.out.block k hk (by show some k ≠ (Value.slice ao vs.length cap).ownBlock; rw [hro]; exact h2)⟩
        exact k7.set (.inl rfl) _ _
      · exact HO7.out.same fun x hx => Below.heap_setCell _ _ _ _ (hltr.2 x (hro.symm.trans hx)).2
set_option maxRecDepth 100000 in
theorem jappend_full2 (g : Nat) (r : Option Nat) (P : Int) (T F S : Nat) (l : List Int) (v : Value) (L : List Chg) (hP : 0 < P) (hP2 : P ≤ 300) (hF0 : 1 ≤ F) (hF : F + l.length ≤ 1099511629000) (hF3 : F ≤ 1099511627776) (hl : l.length ≤ 300) (hn : ∀ x ∈ l, 0 ≤ x) (hs : sumI l ≤ P) (hs2 : P < sumI l + L.length + 1 ∨ 1099511627776 < F + l.length) (hr : right L = true) (w : World) (h : JS g r w P T F S l) (hL : CLie w v L) :
    Calls Try.prog 12 #[.pointer (some ⟨g, 0, none⟩), v] w fun e w' => e = .returned (.tuple #[.slice none 0 0, .int .i64 5]) ∧ Below w.heap.size w w' := by
  have h48 := right_len hr
  have HC := hid (check_any v L w hL)
  rw [hr] at HC
  simp only [if_true] at HC
  have hs0 := sumI_nn hn
  obtain ⟨sv, hro, h1, h2⟩ := h
  obtain ⟨ao, cap, rfl, hlc, hcm⟩ := h2.len
  have HNx := hid (fun w h => next_any g P T F S ao l.length cap hl (by omega) (by omega) hP w h)
  have HJ := hid h1
  have HL := hid hL
  by_cases hmx : 1099511627776 < F + l.length
  · have HE := hid (fun w => encode_arg ((F : Int) + (l.length : Int)) v (by omega) w)
    clear h1 h2 hn hL hr hs2
    go_enter Try.func12, Try.ntmps12
    go_wp2_with (first
      | (go_at_call 33; refine (HC.out).mono ?_; rintro e w1 ⟨rfl, hb1⟩; have HB1 := hid hb1; clear hb1)
      | (go_at_call 24; refine (HNx.out _ (by exact HJ.out.below HB1.out)).mono ?_; rintro e w2 ⟨rfl, q2, hw⟩; have hw := hw.symm; subst hw)
      | (go_at_call 34; refine (HE.out _).mono ?_; rintro e w3 ⟨rfl, hw⟩; have hw := hw.symm; subst hw))
    go_ret2
    exact ⟨rfl, HB1.out.next ⟨rfl, rfl, rfl, Nat.le_refl _, fun _ _ => rfl⟩⟩
  · have hs3 : P < sumI l + L.length + 1 := by omega
    have HE := hid (fun w h => encode_ok (F + l.length) v L (by omega) (by omega) w h hr)
    rw [show ((F + l.length : Nat) : Int) = (F : Int) + (l.length : Int) by omega] at HE
    have hel := encL_len (F + l.length) L
    obtain ⟨EB, hEB⟩ : ∃ EB, EB = encL (F + l.length) L := ⟨_, rfl⟩
    rw [← hEB] at HE hel
    clear hEB
    obtain ⟨n, hnn⟩ : ∃ n, n = L.length + 1 := ⟨_, rfl⟩
    have hni : (L.length : Int) + 1 = (n : Int) := by omega
    rw [← hnn] at hel
    have hn49 : n ≤ 49 := by omega
    have hsn : P < sumI l + n := by omega
    have HFr := hid (fun w h hl => free_any g P T F S (.slice ao l.length cap) l hn hs hP hP2 w h hl)
    have HR := hid h2
    obtain ⟨A, hA⟩ : ∃ A, A = sumI l := ⟨_, rfl⟩
    rw [← hA] at HFr hsn hs0 hs
    clear h1 h2 hn hL hr hs2 hA hs3 hni hnn h48
    go_enter Try.func12, Try.ntmps12
    go_wp2_with (first
      | (go_at_call 33; refine (HC.out).mono ?_; rintro e w1 ⟨rfl, hb1⟩; have HB1 := hid hb1; clear hb1)
      | (go_at_call 24; refine (HNx.out _ (by exact HJ.out.below HB1.out)).mono ?_; rintro e w2 ⟨rfl, q2, hw⟩; have hw := hw.symm; subst hw)
      | (go_at_call 34; fail))
    refine (HE.out _ (by exact HL.out.below (HB1.out.next ⟨rfl, rfl, rfl, Nat.le_refl _, fun _ _ => rfl⟩))).mono ?_
    rintro e w3 ⟨bv, rfl, hsl, hb3⟩
    have k2 : Below w.heap.size w (w1.drewN q2) := HB1.out.next ⟨rfl, rfl, rfl, Nat.le_refl _, fun _ _ => rfl⟩
    have HB3 : Hid (Below w.heap.size w w3) := hid (k2.next hb3)
    clear k2
    clear hb3
    obtain ⟨bo, bc, rfl, hbl, hbm, hbc⟩ := hsl
    rw [hel] at hbl ⊢
    clear hbc
    go_wp2_with (first
      | (go_at_call 22; refine (HFr.out _ (by exact HJ.out.below HB3.out) (by exact (HR.out.below HB3.out).lie)).mono ?_; rintro e w4 ⟨rfl, q4, hw⟩; have hw := hw.symm; subst hw))
    go_ret2
    exact ⟨rfl, HB3.out.next ⟨rfl, rfl, rfl, Nat.le_refl _, fun _ _ => rfl⟩⟩
set_option maxRecDepth 100000 in
theorem refAppend_full2 (g : Nat) (r : Option Nat) (P : Int) (T F S : Nat) (vs : List Value) (v : Value) (L : List Chg) (hP : 0 < P) (hP2 : P ≤ 300) (hF : F + vs.length ≤ 1099511629000) (hF3 : F ≤ 1099511627776) (hl : vs.length ≤ 300) (hs : sumI (vs.map szOf) ≤ P) (hs2 : P < sumI (vs.map szOf) + L.length + 1 ∨ 1099511627776 < F + vs.length) (hr : right L = true) (w : World) (h : RK g r w P T F S vs) (hL : CLie w v L) :
    Calls Try.prog 13 #[.pointer (some ⟨g, 0, none⟩), v] w fun e w' => e = .returned (.tuple #[.slice none 0 0, .int .i64 5]) ∧ Below w.heap.size w w' := by
  have h48 := right_len hr
  have HC := hid (right_any v L w hL)
  rw [hr] at HC
  obtain ⟨la, lcap, rfl, hl1, hl2, _⟩ := hL
  have HFr := hid (fun w h => refFree_j g r P T F S vs (by omega) hP2 hs w h)
  have HNx := hid (fun w h => refNext_j g r P T F S vs hl (by omega) w h)
  have HK := hid h
  obtain ⟨A, hA⟩ : ∃ A, A = sumI (vs.map szOf) := ⟨_, rfl⟩
  rw [← hA] at HFr hs hs2
  have hA0 : 0 ≤ A := by
    rw [hA]
    obtain ⟨Lv, _, _, _, h3⟩ := h
    refine sumI_nn fun x hx => ?_
    obtain ⟨v, hv, rfl⟩ := List.mem_map.1 hx
    obtain ⟨a, n, c, rfl, _⟩ := h3 v hv
    show (0 : Int) ≤ (n : Int) + 1
    omega
  clear hA h hr
  by_cases hf : P < A + L.length + 1
  · clear hs2
    go_enter Try.func13, Try.ntmps13
    go_wp2_with (first
      | (go_at_call 30; refine (HC.out).mono ?_; rintro e w1 ⟨rfl, hb1⟩)
      | (go_at_call 23; refine (HFr.out _ (by exact HK.out.below hb1)).mono ?_; rintro e w2 ⟨rfl, hw⟩; have hw := hw.symm; subst hw))
    go_ret2
    exact ⟨rfl, hb1⟩
  · have hf2 : 1099511627776 < F + vs.length := by omega
    clear hs2
    go_enter Try.func13, Try.ntmps13
    go_wp2_with (first
      | (go_at_call 30; refine (HC.out).mono ?_; rintro e w1 ⟨rfl, hb1⟩)
      | (go_at_call 23; refine (HFr.out _ (by exact HK.out.below hb1)).mono ?_; rintro e w2 ⟨rfl, hw⟩; have hw := hw.symm; subst hw)
      | (go_at_call 25; refine (HNx.out _ (by exact HK.out.below hb1)).mono ?_; rintro e w3 ⟨rfl, q, hw⟩; have hw := hw.symm; subst hw))
    go_ret2
    exact ⟨rfl, hb1.next ⟨rfl, rfl, rfl, Nat.le_refl _, fun _ _ => rfl⟩⟩
end Go.Proofs.Ytmcahiebcflfoaa
namespace Go.Proofs.Ytmcahiebcflfoaa
open Go.RowKit Go.Maps
theorem hdr_num {b : ByteArray} {T F E : Nat} (h : isHdr b T F E) : ∃ s, unV b = (s, 0) ∧ s.size = 19 ∧ nT s = T ∧ nF s = F ∧ nE s = E ∧ hdB T F E = b := by
  obtain ⟨hu, h1, h2, h3⟩ := h
  have p2 : (256 : Nat) ^ 2 = 65536 := by decide
  have p8 : (256 : Nat) ^ 8 = 18446744073709551616 := by decide
  have e0 : ((st (hdL T F E)).extract 1 (st (hdL T F E)).size).data.toList = fEnc T 2 ++ (fEnc F 8 ++ fEnc E 8) := by
    rw [st_cut]; unfold hdL; simp
  have e1 : (nR1 (st (hdL T F E))).data.toList = fEnc F 8 ++ fEnc E 8 := by
    unfold nR1
    rw [ext_list, List.take_of_length_le (by rw [len_list]; exact Nat.le_refl _), e0, List.drop_left' (fEnc_len _ _)]
  have e2 : (nR2 (st (hdL T F E))).data.toList = fEnc E 8 := by
    unfold nR2
    rw [ext_list, List.take_of_length_le (by rw [len_list]; exact Nat.le_refl _), e1, List.drop_left' (fEnc_len _ _)]
  refine ⟨_, hu, by rw [st_size, hdL_len], ?_, ?_, ?_, ?_⟩
  · unfold nT
    rw [e0, List.take_left' (fEnc_len _ _), fval_big, big_fEnc _ _ (by omega)]
  · unfold nF
    rw [e1, List.take_left' (fEnc_len _ _), fval_big, big_fEnc _ _ (by omega)]
  · unfold nE
    rw [e2, List.take_of_length_le (by rw [fEnc_len]; exact Nat.le_refl _), fval_big, big_fEnc _ _ (by omega)]
  · have := (un_back b (by rw [hu])).1
    rw [hu] at this
    simp only [st_list] at this
    exact this
/-- the reference's Open of what is no header -/
theorem ropen_no (v : Value) (b0 : ByteArray) (ring : List ByteArray) (w : World) (hv : SLie w v (b0 :: ring)) (hb : b0.size ≤ 150000000000000) (hn : 7 ≤ ring.length ∧ ring.length ≤ 255)
    (h : ¬ ∃ T F E, isHdr b0 T F E ∧ F ≤ E ∧ E - F ≤ ring.length ∧ T < ring.length ∧ 1 ≤ F ∧ F ≤ 1099511627776) : Calls Try.prog 27 #[v] w fun e w' => RON e ∧ Below w.heap.size w w' := by
  by_cases h1 : (unV b0).2 = 0 ∧ (unV b0).1.size = 19
  · have hu : unV b0 = ((unV b0).1, 0) := by rw [← h1.1]
    obtain ⟨s, hs⟩ : ∃ s, s = (unV b0).1 := ⟨_, rfl⟩
    rw [← hs] at hu h1
    by_cases hf : nF s < 9223372036854775808
    · by_cases he : nE s < 9223372036854775808
      · by_cases hc : nF s ≤ nE s ∧ nE s - nF s ≤ ring.length ∧ nT s < ring.length ∧ 1 ≤ nF s ∧ nF s ≤ 1099511627776
        · by_cases hx : hdB (nT s) (nF s) (nE s) = b0
          · exact absurd ⟨nT s, nF s, nE s, by rw [← hx]; exact hdB_isHdr (n_sizes h1.2).2.2.2 hf he, hc⟩ h
          · exact ropen_hdr v b0 ring w hv hb hn s hu h1.2 hf he hc hx
        · exact ropen_bad v b0 ring w hv hb hn s hu h1.2 hf he hc
      · exact ropen_g v b0 ring w hv hb hn s hu h1.2 hf he
    · exact ropen_f v b0 ring w hv hb hn s hu h1.2 hf
  · exact ropen_form v b0 ring w hv hb hn h1
theorem ropen_yes (v : Value) (b0 : ByteArray) (ring : List ByteArray) (w : World) (hv : SLie w v (b0 :: ring)) (hz : ∀ b ∈ b0 :: ring, b.size ≤ 150000000000000) (hn : 7 ≤ ring.length ∧ ring.length ≤ 255) (T F S : Nat) (hh : isHdr b0 T F (F + S)) (h1 : T < ring.length) (h2 : 1 ≤ F) (h3 : F ≤ 1099511627776) (h4 : S ≤ ring.length) :
    Calls Try.prog 27 #[v] w fun e w' => ROP w.heap.size ring.length T F S (ring.drop T ++ ring.take T) e w' ∧ Below w.heap.size w w' := by
  obtain ⟨s, hu, hs, rfl, rfl, he, hx⟩ := hdr_num hh
  have := ropen_go v b0 ring w hv hz hn s hu hs hh.2.2.1 (by rw [he]; exact hh.2.2.2) (by omega) (by rw [he]; exact hx)
  rw [he, show nF s + S - nF s = S by omega] at this
  exact this
set_option maxRecDepth 100000 in
theorem popen_size (v : Value) (R : List ByteArray) (w : World) (hv : SLie w v R) (hn : ¬ (8 ≤ R.length ∧ R.length ≤ 256)) : Calls Try.prog 26 #[v] w fun e w' => ON e ∧ Below w.heap.size w w' := by
  obtain ⟨ao, cap, rfl, hlc, hcm, _⟩ := hv
  unfold maxLen at hcm
  have HI := hid (fun w => isRegion_any (R.length : Int) w)
  rw [decide_eq_false (by omega)] at HI
  clear hn
  go_enter Try.func26, Try.ntmps26
  go_wp2_with (first | (go_at_call 31; refine (HI.out _).mono ?_; rintro e w1 ⟨rfl, hw⟩; have hw := hw.symm; subst hw))
  go_ret3
  exact ⟨rfl, Below.refl _ _⟩
set_option maxRecDepth 100000 in
theorem popen_hdr (v : Value) (b0 : ByteArray) (ring : List ByteArray) (w : World) (hv : SLie w v (b0 :: ring)) (hn : 7 ≤ ring.length ∧ ring.length ≤ 255) (HH : ∀ w, Calls Try.prog 46 #[.string b0, .int .i64 (ring.length : Int)] w fun e w' => e = .returned (.tuple #[.pointer none, .bool false]) ∧ Below w.heap.size w w') :
    Calls Try.prog 26 #[v] w fun e w' => ON e ∧ Below w.heap.size w w' := by
  have HX := hid HH
  clear HH
  obtain ⟨ao, cap, rfl, hlc, hcm, hcell⟩ := hv
  obtain ⟨b, off, rfl, hbl, c0⟩ := hcell 0 (by simp)
  rw [List.getElem_cons_zero, Nat.add_zero] at c0
  rw [List.length_cons] at hlc ⊢
  have HIR := hid (fun w => isRegion_any ((ring.length : Int) + 1) w)
  rw [decide_eq_true (show (8:Int) ≤ (ring.length : Int) + 1 ∧ (ring.length : Int) + 1 ≤ 256 by omega)] at HIR
  unfold maxLen at hcm
  clear hcell
  have i2 : IntKind.i64.wrap ((ring.length : Int) + 1 - 1) = (ring.length : Int) := by rw [IntKind.wrap_i64]; omega
  go_enter Try.func26, Try.ntmps26
  go_wp2_with (first
    | (go_at_call 31; refine (HIR.out _).mono ?_; rintro e w1 ⟨rfl, hw⟩; have hw := hw.symm; subst hw)
    | (go_at_call 46; refine (HX.out _).mono ?_; rintro e w2 ⟨rfl, hb2⟩; have HB2 := hid hb2; clear hb2))
  go_ret3
  exact ⟨rfl, HB2.out⟩
theorem popen_no (v : Value) (b0 : ByteArray) (ring : List ByteArray) (w : World) (hv : SLie w v (b0 :: ring)) (hb : b0.size ≤ 150000000000000) (hn : 7 ≤ ring.length ∧ ring.length ≤ 255)
    (h : ¬ ∃ T F E, isHdr b0 T F E ∧ F ≤ E ∧ E - F ≤ ring.length ∧ T < ring.length ∧ 1 ≤ F ∧ F ≤ 1099511627776) : Calls Try.prog 26 #[v] w fun e w' => ON e ∧ Below w.heap.size w w' := by
  by_cases hh : ∃ T F E, isHdr b0 T F E
  · obtain ⟨T, F, E, hh⟩ := hh
    refine popen_hdr v b0 ring w hv hn fun w => (hdr_yes b0 hb (ring.length : Int) T F E hh w).mono fun e w' ⟨_, k, hbw⟩ => ⟨k fun hk => h ⟨T, F, E, hh, by omega, by omega, by omega, by omega, by omega⟩, hbw⟩
  · exact popen_hdr v b0 ring w hv hn fun w => hdr_not b0 hb (ring.length : Int) hh w
/-- what is far from a journal is as it was -/
theorem ROS.far {B g g' : Nat} {r r' : Option Nat} {w w' : World} {P : Int} {T F S : Nat} {Ls : List (List Chg)} {us : List Value} (h : ROS B g' r' w P T F S Ls us) (hf : JFr g r w w') (hg : g < B) (hr : ∀ x, r = some x → x < B) : ROS B g' r' w' P T F S Ls us := by
  have hs := hf.size
  have hl := h.rk.lt
  have k : ∀ x, B ≤ x → x < w.heap.size → w'.heap[x]? = w.heap[x]? := fun x hx hxs => hf.block x hxs (by omega) (fun e => by have := hr x e.symm; omega)
  refine ⟨h.rk.same (k _ h.b1 hl.1) (fun x hx => k x (h.b2 x hx) (hl.2 x hx).1), h.ln, fun i hi hj => (h.cl i hi hj).kept hs ?_, fun u hu => ?_, h.b1, h.b2⟩
  · rcases h.vo _ (List.getElem_mem hi) with hz | hx
    · exact .inl hz
    · exact .inr fun x e => by have := hx x e; exact k x this.1 this.2.1
  · rcases h.vo u hu with hz | hx
    · exact .inl hz
    · exact .inr fun x e => by have := hx x e; exact ⟨this.1, by omega, this.2.2⟩
theorem ROS.sizes {B g : Nat} {r : Option Nat} {w : World} {P : Int} {T F S : Nat} {Ls : List (List Chg)} {us : List Value} (h : ROS B g r w P T F S Ls us) : us.map szOf = Ls.map szL := by
  apply List.ext_getElem
  · simp [h.ln]
  · intro i h1 h2
    rw [List.getElem_map, List.getElem_map]
    obtain ⟨ao, cap, e, _⟩ := h.cl i (by simpa using h1) (by simpa using h2)
    rw [e]
    rfl
theorem used_nn (Ls : List (List Chg)) : ∀ x ∈ Ls.map szL, 0 ≤ x := by
  intro x hx
  obtain ⟨L, _, rfl⟩ := List.mem_map.1 hx
  unfold szL; omega
end Go.Proofs.Ytmcahiebcflfoaa
namespace Go.Proofs.Ytmcahiebcflfoaa
open Go.RowKit Go.Maps
set_option maxRecDepth 100000 in
set_option maxHeartbeats 8000000 in
theorem opens_no (v mv : Value) (W : World) (HP : Calls Try.prog 26 #[v] W fun e w' => ON e ∧ Below W.heap.size W w') (HR : ∀ w, Below W.heap.size W w → Calls Try.prog 27 #[v] w fun e w' => RON e ∧ Below w.heap.size w w') :
    Calls Try.prog 4 #[v, mv] W fun e w' => e = .returned (.bool true) ∧ Below W.heap.size W w' := by
  have HSp := hid (fun w => speaks_any w)
  have H1 := hid HP
  have H2 := hid HR
  clear HP HR
  go_enter Try.func4, Try.ntmps4
  go_wp2_with (first
    | (go_at_call 26; refine (H1.out).mono ?_; rintro e w1 ⟨rfl, hb1⟩; have HB1 := hid hb1; clear hb1)
    | (go_at_call 27; refine (H2.out _ HB1.out).mono ?_; rintro e w2 ⟨rfl, hb2⟩; have HB2 := hid (HB1.out.next hb2); clear hb2)
    | (go_at_call 11; refine (HSp.out _).mono ?_; rintro e w3 ⟨rfl, hb3⟩; have HB3 := hid (HB2.out.next hb3); clear hb3))
  go_ret
  exact ⟨rfl, HB3.out⟩
set_option maxRecDepth 100000 in
set_option maxHeartbeats 8000000 in
theorem opens_yes (v mv : Value) (L : List Chg) (W : World) (hm : CLie W mv L) (p T F S : Nat) (Ls : List (List Chg)) (hp : 7 ≤ p ∧ p ≤ 255) (hT : T < p) (h2 : 1 ≤ F) (h3 : F ≤ 1099511627776) (h4 : S ≤ p) (hLs : Ls.length = S) (hul : used Ls ≤ p)
    (HP : Calls Try.prog 26 #[v] W fun e w' => OY W.heap.size p T F S Ls e w' ∧ Below W.heap.size W w')
    (HR : ∀ w, Below W.heap.size W w → Calls Try.prog 27 #[v] w fun e w' => (∃ g r us, e = .returned (.tuple #[.pointer (some ⟨g, 0, none⟩), .int .i64 0]) ∧ ROS w.heap.size g r w' p T F S Ls us) ∧ Below w.heap.size w w') :
    Calls Try.prog 4 #[v, mv] W fun e w' => e = .returned (.bool true) ∧ Below W.heap.size W w' := by
  have HSp := hid (fun w => speaks_any w)
  have H1 := hid HP
  have H2 := hid HR
  have HM := hid hm
  have hsu := hid (sum_used Ls)
  clear HP HR hm
  go_enter Try.func4, Try.ntmps4
  go_upto_region 3 with (first
    | (go_at_call 26; refine (H1.out).mono ?_; rintro e w1 ⟨⟨g, r, tb, vs, rfl, hos⟩, hb1⟩; have HB1 := hid hb1; have HO1 := hid hos; clear hb1 hos)
    | (go_at_call 27; refine (H2.out _ HB1.out).mono ?_; rintro e w2 ⟨⟨g', r', us, rfl, hros⟩, hb2⟩; have HB2 := hid (HB1.out.next hb2); have HO2 := hid (HO1.out.keep hb2); have HR2 := hid hros; clear hb2 hros))
  have hgl1 := HO1.out.js.lt
  have htl1 := HO1.out.tlt
  have hz12 : w1.heap.size ≤ w2.heap.size := by
    have := HR2.out.b1
    have := HR2.out.rk.lt.1
    omega
  have hsz := HR2.out.sizes
  have HSZ := hid hsz
  have hlu : us.length = S := by rw [HR2.out.ln]; exact hLs
  obtain ⟨Lv, hLo, hRI, hVR, hSl⟩ := HR2.out.rk
  have HLO := hid hLo
  have HRI := hid hRI
  have HVR := hid hVR
  have HSL := hid hSl
  have HGL := hid hgl1
  have HTL := hid htl1
  have HLU := hid hlu
  have HLL := hid hLs
  have HUL := hid hul
  clear hLo hRI hVR hSl hgl1 htl1 hlu hLs hul hsz
  have HM2 := hid (HM.out.below HB2.out)
  have hgg : g' < w2.heap.size := HR2.out.rk.lt.1
  have HRL2 := hid HR2.out.rk.lt
  have hpi : (0 : Int) < (p : Int) := by omega
  by_cases hr : right L = true
  · by_cases hfit : used Ls + L.length + 1 ≤ p ∧ F + S ≤ 1099511627776
    · have HA1 := hid (jappend g r p T F S (Ls.map szL) mv L (by omega) (by omega) (by omega) h2 (by rw [List.length_map, HLL.out]; exact hfit.2) (by rw [List.length_map, HLL.out]; omega) (used_nn Ls) (by rw [hsu.out]; omega) hr w2 HO2.out.js HM2.out)
      have HA2 := hid (fun w hI hV hM => refAppend_ok2 g' r' p T F S us mv L (by omega) (by omega) (by omega) h2 (by rw [HLU.out]; exact hfit.2) (by rw [HLU.out]; omega) (by rw [HSZ.out, hsu.out]; omega) hr w Lv HLO.out hI hV HSL.out hM)
      rw [hsu.out, List.length_map, HLL.out] at HA1
      rw [HSZ.out, hsu.out, HLU.out] at HA2
      obtain ⟨WL, hWL⟩ : ∃ WL, WL = wrL p (T + (used Ls : Int)) (encL (F + S) L) := ⟨_, rfl⟩
      rw [← hWL] at HA1 HA2
      have HFT := hid hfit
      clear hWL hfit
      go_upto_region 10 with (first
        | (go_at_call 12; refine (HA1.out).mono ?_; rintro e w3 ⟨wb, r2, rfl, hwb, hwr, hcw, hj3, hn3, hf3⟩; have HWB := hid hwb; have HCW := hid hcw; have HJ3 := hid hj3; have HN3 := hid hn3; have HF3 := hid hf3; have HROS3 := hid (HR2.out.far hf3 HGL.out.1 (fun x hx => (HGL.out.2 x hx).1)); have HOS3 := hid (HO2.out.jstep rfl hj3 hn3 hf3); have HI3 : Hid (RI g' w3 p T F S Lv) := hid ((hf3.block g' hgg (by have := HR2.out.b1; have := HGL.out.1; omega) (fun e => by have := (HGL.out.2 g' e.symm).1; have := HR2.out.b1; omega)).trans HRI.out); obtain ⟨c0, c1, c2, c3, c4⟩ := HI3.out.cells; have hg3 := HI3.out.lt; clear hwb hwr hcw hj3 hn3 hf3)
        | (go_at_call 13; refine (HA2.out _ HI3.out (HVR.out.same fun x hx => HF3.out.block x (HRL2.out.2 x (HLO.out.symm.trans hx)).1 (by have := HR2.out.b2 x (HLO.out.symm.trans hx); have := HGL.out.1; omega) (fun e => by have := (HGL.out.2 x e.symm).1; have := HR2.out.b2 x (HLO.out.symm.trans hx); omega)) (HM.out.below (HB2.out.trans HOS3.out.2))).mono ?_; rintro e w4 ⟨bv, r4, rfl, hcb, hk4, hn4, hf4, hv4⟩; have HW2 := hid hcb; have HK4 := hid hk4; have HF4 := hid hf4; have HV4 := hid hv4; clear hcb hk4 hn4 hf4 hv4))
      have hz23 := HF3.out.size
      have hz34 := HF4.out.size
      have HG1 := hid HGL.out.1
      -- blocks that are far from the reference's journal
      have HFAR : Hid (∀ x, x < w3.heap.size → (x < w1.heap.size ∨ w2.heap.size ≤ x) → w4.heap[x]? = w3.heap[x]?) := by
        intro x hx hd
        refine HF4.out.block x hx ?_ ?_
        · intro e; have := HR2.out.b1; omega
        · intro e
          have h1 := HR2.out.b2 x e.symm
          have h2 := (HRL2.out.2 x e.symm).1
          omega
      have hj3l := HJ3.out.lt
      have HJ4 : Hid (JS g r2 w4 p T F S (Ls.map szL ++ [(L.length : Int) + 1])) := by
        refine hid (HJ3.out.same (HFAR.out g hj3l.1 (.inl HG1.out)) fun x hx => HFAR.out x (hj3l.2 x hx).1 ?_)
        rcases HN3.out with e | ⟨k, e, hk⟩
        · exact .inl ((HGL.out.2 x (e.symm.trans hx)).1)
        · rw [hx] at e; injection e with e; exact .inr (by omega)
      have HVL1 : Hid (VL w4 (.slice (some ⟨tb, 0, none⟩) S S) Ls) := by
        have h1 := HOS3.out.1.tr
        have h2 := h1.same hz34 (HFAR.out tb HOS3.out.1.tlt (.inl HTL.out)) (fun u hu x hx => HFAR.out x (HOS3.out.1.vo u hu x hx).2.1 (.inl (HO1.out.vo u hu x hx).2.1))
        rw [← HLL.out] at h2 ⊢
        exact hid (h2.vl (by rw [HLL.out]; omega))
      have HVL2 : Hid (VL w4 Lv Ls) := by
        refine hid (HV4.out.vl HROS3.out.ln fun i hi hj => (HROS3.out.cl i hi hj).kept hz34 ?_)
        rcases HROS3.out.vo _ (List.getElem_mem hi) with hz | hx
        · exact .inl hz
        · exact .inr fun x e => by obtain ⟨_, a, b, c⟩ := hx x e; exact HF4.out.block x a b c
      have HW1 : Hid (CLie w4 (.slice (some ⟨wb, 0, none⟩) (L.length + 1) (L.length + 1)) WL) := by
        refine hid (HCW.out.same hz34 fun x hx => ?_)
        have hx : wb = x := by simpa [Value.ownBlock] using hx
        subst hx
        obtain ⟨ao, cap, e, _, _, hc⟩ := HCW.out
        injection e with e1 e2 e3
        obtain ⟨gb, off, e, hgb, _⟩ := hc 0 (by omega)
        rw [e] at e1
        injection e1 with e1
        injection e1 with e1 _ _
        subst e1
        exact HFAR.out wb hgb (.inr HWB.out)
      have HH1 := hid (fun w h => jheader g r2 p T F S (Ls.map szL ++ [(L.length : Int) + 1]) (by omega) (by omega) (by have := HFT.out.2; omega) w h)
      have HH2 := hid (fun w h => refHeader_j g' r4 p T F S (us ++ [mv]) (by omega) (by have := HFT.out.2; omega) w h)
      have hnn : ∀ x ∈ Ls.map szL ++ [(L.length : Int) + 1], 0 ≤ x := by
        intro x hx
        rcases List.mem_append.1 hx with hx | hx
        · exact used_nn Ls x hx
        · rw [List.mem_singleton] at hx; omega
      have hs1 : sumI (Ls.map szL ++ [(L.length : Int) + 1]) = (used Ls : Int) + ((L.length : Int) + 1) := by rw [sumI_snoc, hsu.out]
      have hs2 : sumI ((us ++ [mv]).map szOf) = (used Ls : Int) + ((L.length : Int) + 1) := by
        obtain ⟨ao, cap, e, _⟩ := HM.out
        rw [List.map_append, sumI_app, HSZ.out, hsu.out, e]
        show (used Ls : Int) + ((L.length : Int) + 1 + 0) = _
        omega
      have HF1 := hid (fun w h => jfree g r2 p T F S (Ls.map szL ++ [(L.length : Int) + 1]) (by omega) (by omega) hnn (by rw [hs1]; have := HFT.out.1; omega) w h)
      have HF2 := hid (fun w h => refFree_j g' r4 p T F S (us ++ [mv]) (by omega) (by omega) (by rw [hs2]; have := HFT.out.1; omega) w h)
      rw [hs1] at HF1
      rw [hs2] at HF2
      obtain ⟨fr, hfr⟩ : ∃ fr, fr = (p : Int) - ((used Ls : Int) + ((L.length : Int) + 1)) := ⟨_, rfl⟩
      rw [← hfr] at HF1 HF2
      have HW4 : Hid (Below W.heap.size W w4) := by
        refine hid ((HB2.out.trans HOS3.out.2).trans ?_)
        have hz := HB1.out.size
        exact ⟨HF4.out.os, HF4.out.tape, HF4.out.output, HF4.out.size, fun x hx => HFAR.out x (by omega) (.inl (by omega))⟩
      have HZ4 : Hid (W.heap.size ≤ w4.heap.size) := hid HW4.out.size
      clear hs1 hs2 hnn hfr hj3l hz23 hz34 c0 c1 c2 c3 c4 hg3
      go_wp2_with (first
        | (go_at_call 28; refine (told_same _ _ Ls _ HVL1.out HVL2.out).mono ?_; rintro e w5 ⟨rfl, hb5⟩; have HB5 := hid hb5; clear hb5)
        | (go_at_call 14; refine (writes_same _ _ WL _ (HW1.out.below HB5.out) (HW2.out.below HB5.out)).mono ?_; rintro e w6 ⟨rfl, hb6⟩; have HB6 := hid (HB5.out.next hb6); clear hb6)
        | (go_at_call 20; refine (HH1.out _ (HJ4.out.below HB6.out)).mono ?_; rintro e w7 ⟨rfl, hb7⟩; have HB7 := hid (HB6.out.next hb7); clear hb7)
        | (go_at_call 21; refine (HH2.out _ (HK4.out.below HB7.out)).mono ?_; rintro e w8 ⟨rfl, hb8⟩; have HB8 := hid (HB7.out.next hb8); clear hb8)
        | (go_at_call 22; refine (HF1.out _ (HJ4.out.below HB8.out)).mono ?_; rintro e w9 ⟨rfl, q9, hw9⟩; have HB9 : Hid (Below w4.heap.size w4 w9) := hid (by rw [hw9]; exact HB8.out.dN _); clear hw9)
        | (go_at_call 23; refine (HF2.out _ (HK4.out.below HB9.out)).mono ?_; rintro e wA ⟨rfl, hw⟩; have hw := hw.symm; subst hw)
        | (go_at_call 11; refine (HSp.out _).mono ?_; rintro e wB ⟨rfl, hbB⟩; have HBB := hid (HB9.out.next hbB); clear hbB))
      go_ret
      exact ⟨rfl, HW4.out.trans (HBB.out.mono HZ4.out)⟩
    · have HA1 := hid (jappend_full2 g r p T F S (Ls.map szL) mv L (by omega) (by omega) h2 (by rw [List.length_map, HLL.out]; omega) h3 (by rw [List.length_map, HLL.out]; omega) (used_nn Ls) (by rw [hsu.out]; have := HUL.out; omega) (by rw [hsu.out, List.length_map, HLL.out]; omega) hr w2 HO2.out.js HM2.out)
      have HA2 := hid (fun w hK hM => refAppend_full2 g' r' p T F S us mv L (by omega) (by omega) (by rw [HLU.out]; omega) h3 (by rw [HLU.out]; omega) (by rw [HSZ.out, hsu.out]; have := HUL.out; omega) (by rw [HSZ.out, hsu.out, HLU.out]; omega) hr w hK hM)
      clear hfit
      obtain ⟨c0, c1, c2, c3, c4⟩ := HRI.out.cells
      go_upto_region 10 with (first
        | (go_at_call 12; refine (HA1.out).mono ?_; rintro e w3 ⟨rfl, hb3⟩; have HB3 := hid hb3; have HI3 := hid (HRI.out.below hb3); obtain ⟨c0, c1, c2, c3, c4⟩ := HI3.out.cells; have hg3 := HI3.out.lt; clear hb3)
        | (go_at_call 13; refine (HA2.out _ (HR2.out.rk.below HB3.out) (HM2.out.below HB3.out)).mono ?_; rintro e w4 ⟨rfl, hb4⟩; have HB4 := hid (HB3.out.next hb4); clear hb4))
      have HJ4 := hid (HO2.out.js.below HB4.out)
      have HK4 := hid (HR2.out.rk.below HB4.out)
      have HVL1 : Hid (VL w4 (.slice (some ⟨tb, 0, none⟩) S S) Ls) := by
        have h1 := (HO2.out.keep HB4.out).tr
        rw [← HLL.out] at h1 ⊢
        exact hid (h1.vl (by rw [HLL.out]; omega))
      have HVL2 : Hid (VL w4 Lv Ls) := by
        have hk := HR2.out.keep HB4.out
        refine hid (VRow.vl (HVR.out.same fun x hx => HB4.out.block x (HRL2.out.2 x (HLO.out.symm.trans hx)).1) hk.ln hk.cl)
      obtain ⟨WL, hWL⟩ : ∃ WL : List Chg, WL = [] := ⟨_, rfl⟩
      have HW1 : Hid (CLie w4 (.slice none 0 0) WL) := hid (by rw [hWL]; exact Ov.nil _ _ _ (by decide))
      have HW2 := hid HW1.out
      have HH1 := hid (fun w h => jheader g r p T F S (Ls.map szL) (by omega) (by omega) (by omega) w h)
      have HH2 := hid (fun w h => refHeader_j g' r' p T F S us (by omega) (by omega) w h)
      have HF1 := hid (fun w h => jfree g r p T F S (Ls.map szL) (by omega) (by omega) (used_nn Ls) (by rw [hsu.out]; have := HUL.out; omega) w h)
      have HF2 := hid (fun w h => refFree_j g' r' p T F S us (by omega) (by omega) (by rw [HSZ.out, hsu.out]; have := HUL.out; omega) w h)
      rw [hsu.out] at HF1
      rw [HSZ.out, hsu.out] at HF2
      obtain ⟨fr, hfr⟩ : ∃ fr, fr = (p : Int) - (used Ls : Int) := ⟨_, rfl⟩
      rw [← hfr] at HF1 HF2
      have HW4 : Hid (Below W.heap.size W w4) := hid (HB2.out.next HB4.out)
      have HZ4 : Hid (W.heap.size ≤ w4.heap.size) := hid HW4.out.size
      clear hWL hfr c0 c1 c2 c3 c4 hg3
      go_wp2_with (first
        | (go_at_call 28; refine (told_same _ _ Ls _ HVL1.out HVL2.out).mono ?_; rintro e w5 ⟨rfl, hb5⟩; have HB5 := hid hb5; clear hb5)
        | (go_at_call 14; refine (writes_same _ _ WL _ (HW1.out.below HB5.out) (HW2.out.below HB5.out)).mono ?_; rintro e w6 ⟨rfl, hb6⟩; have HB6 := hid (HB5.out.next hb6); clear hb6)
        | (go_at_call 20; refine (HH1.out _ (HJ4.out.below HB6.out)).mono ?_; rintro e w7 ⟨rfl, hb7⟩; have HB7 := hid (HB6.out.next hb7); clear hb7)
        | (go_at_call 21; refine (HH2.out _ (HK4.out.below HB7.out)).mono ?_; rintro e w8 ⟨rfl, hb8⟩; have HB8 := hid (HB7.out.next hb8); clear hb8)
        | (go_at_call 22; refine (HF1.out _ (HJ4.out.below HB8.out)).mono ?_; rintro e w9 ⟨rfl, q9, hw9⟩; have HB9 : Hid (Below w4.heap.size w4 w9) := hid (by rw [hw9]; exact HB8.out.dN _); clear hw9)
        | (go_at_call 23; refine (HF2.out _ (HK4.out.below HB9.out)).mono ?_; rintro e wA ⟨rfl, hw⟩; have hw := hw.symm; subst hw)
        | (go_at_call 11; refine (HSp.out _).mono ?_; rintro e wB ⟨rfl, hbB⟩; have HBB := hid (HB9.out.next hbB); clear hbB))
      go_ret
      exact ⟨rfl, HW4.out.trans (HBB.out.mono HZ4.out)⟩
  · have hr : right L = false := by simpa using hr
    have HA1 := hid (jappend_txn g mv L hr w2 HM2.out)
    have HA2 := hid (fun w (_ : RK g' r' w p T F S us) hM => refAppend_txn g' mv L hr w hM)
    obtain ⟨c0, c1, c2, c3, c4⟩ := HRI.out.cells
    go_upto_region 10 with (first
      | (go_at_call 12; refine (HA1.out).mono ?_; rintro e w3 ⟨rfl, hb3⟩; have HB3 := hid hb3; have HI3 := hid (HRI.out.below hb3); obtain ⟨c0, c1, c2, c3, c4⟩ := HI3.out.cells; have hg3 := HI3.out.lt; clear hb3)
      | (go_at_call 13; refine (HA2.out _ (HR2.out.rk.below HB3.out) (HM2.out.below HB3.out)).mono ?_; rintro e w4 ⟨rfl, hb4⟩; have HB4 := hid (HB3.out.next hb4); clear hb4))
    have HJ4 := hid (HO2.out.js.below HB4.out)
    have HK4 := hid (HR2.out.rk.below HB4.out)
    have HVL1 : Hid (VL w4 (.slice (some ⟨tb, 0, none⟩) S S) Ls) := by
      have h1 := (HO2.out.keep HB4.out).tr
      rw [← HLL.out] at h1 ⊢
      exact hid (h1.vl (by rw [HLL.out]; omega))
    have HVL2 : Hid (VL w4 Lv Ls) := by
      have hk := HR2.out.keep HB4.out
      refine hid (VRow.vl (HVR.out.same fun x hx => HB4.out.block x (HRL2.out.2 x (HLO.out.symm.trans hx)).1) hk.ln hk.cl)
    obtain ⟨WL, hWL⟩ : ∃ WL : List Chg, WL = [] := ⟨_, rfl⟩
    have HW1 : Hid (CLie w4 (.slice none 0 0) WL) := hid (by rw [hWL]; exact Ov.nil _ _ _ (by decide))
    have HW2 := hid HW1.out
    have HH1 := hid (fun w h => jheader g r p T F S (Ls.map szL) (by omega) (by omega) (by omega) w h)
    have HH2 := hid (fun w h => refHeader_j g' r' p T F S us (by omega) (by omega) w h)
    have HF1 := hid (fun w h => jfree g r p T F S (Ls.map szL) (by omega) (by omega) (used_nn Ls) (by rw [hsu.out]; have := HUL.out; omega) w h)
    have HF2 := hid (fun w h => refFree_j g' r' p T F S us (by omega) (by omega) (by rw [HSZ.out, hsu.out]; have := HUL.out; omega) w h)
    rw [hsu.out] at HF1
    rw [HSZ.out, hsu.out] at HF2
    obtain ⟨fr, hfr⟩ : ∃ fr, fr = (p : Int) - (used Ls : Int) := ⟨_, rfl⟩
    rw [← hfr] at HF1 HF2
    have HW4 : Hid (Below W.heap.size W w4) := hid (HB2.out.next HB4.out)
    have HZ4 : Hid (W.heap.size ≤ w4.heap.size) := hid HW4.out.size
    clear hWL hfr c0 c1 c2 c3 c4 hg3
    go_wp2_with (first
      | (go_at_call 28; refine (told_same _ _ Ls _ HVL1.out HVL2.out).mono ?_; rintro e w5 ⟨rfl, hb5⟩; have HB5 := hid hb5; clear hb5)
      | (go_at_call 14; refine (writes_same _ _ WL _ (HW1.out.below HB5.out) (HW2.out.below HB5.out)).mono ?_; rintro e w6 ⟨rfl, hb6⟩; have HB6 := hid (HB5.out.next hb6); clear hb6)
      | (go_at_call 20; refine (HH1.out _ (HJ4.out.below HB6.out)).mono ?_; rintro e w7 ⟨rfl, hb7⟩; have HB7 := hid (HB6.out.next hb7); clear hb7)
      | (go_at_call 21; refine (HH2.out _ (HK4.out.below HB7.out)).mono ?_; rintro e w8 ⟨rfl, hb8⟩; have HB8 := hid (HB7.out.next hb8); clear hb8)
      | (go_at_call 22; refine (HF1.out _ (HJ4.out.below HB8.out)).mono ?_; rintro e w9 ⟨rfl, q9, hw9⟩; have HB9 : Hid (Below w4.heap.size w4 w9) := hid (by rw [hw9]; exact HB8.out.dN _); clear hw9)
      | (go_at_call 23; refine (HF2.out _ (HK4.out.below HB9.out)).mono ?_; rintro e wA ⟨rfl, hw⟩; have hw := hw.symm; subst hw)
      | (go_at_call 11; refine (HSp.out _).mono ?_; rintro e wB ⟨rfl, hbB⟩; have HBB := hid (HB9.out.next hbB); clear hbB))
    go_ret
    exact ⟨rfl, HW4.out.trans (HBB.out.mono HZ4.out)⟩
end Go.Proofs.Ytmcahiebcflfoaa
namespace Go.Proofs.Ytmcahiebcflfoaa
open Go.RowKit Go.Maps
theorem opens_walk (v mv : Value) (R : List ByteArray) (L : List Chg) (W : World) (hv : SLie W v R) (hz : ∀ x ∈ R, x.size ≤ 140737488351232) (hm : CLie W mv L) : Calls Try.prog 4 #[v, mv] W fun e w' => e = .returned (.bool true) ∧ Below W.heap.size W w' := by
  by_cases hn : 8 ≤ R.length ∧ R.length ≤ 256
  · cases R with
    | nil => simp at hn
    | cons b0 ring =>
      have hn' : 7 ≤ ring.length ∧ ring.length ≤ 255 := by simp at hn; omega
      have hz' : ∀ b ∈ b0 :: ring, b.size ≤ 150000000000000 := fun b hb => by have := hz b hb; omega
      have hb := hz' b0 (by simp)
      by_cases hh : ∃ T F E, isHdr b0 T F E ∧ F ≤ E ∧ E - F ≤ ring.length ∧ T < ring.length ∧ 1 ≤ F ∧ F ≤ 1099511627776
      · obtain ⟨T, F, E, hh, h1, h2, h3, h4, h5⟩ := hh
        obtain ⟨S, rfl⟩ : ∃ S, E = F + S := ⟨E - F, by omega⟩
        have h2 : S ≤ ring.length := by omega
        have HP := open_go v b0 ring W hv hz' hn' T F S hh h3 h4 h5 h2
        have HR := fun w (k : Below W.heap.size W w) => ropen_yes v b0 ring w (hv.below k) hz' hn' T F S hh h3 h4 h5 h2
        by_cases hd : ∃ Ls, Ls.length = S ∧ decs F (ring.drop T ++ ring.take T) Ls
        · obtain ⟨Ls, hl, hd⟩ := hd
          have hu := hd.used_le
          have hrl : (ring.drop T ++ ring.take T).length = ring.length := by rw [List.length_append, List.length_drop, List.length_take]; omega
          rw [hrl] at hu
          exact opens_yes v mv L W hm ring.length T F S Ls hn' h3 h4 h5 h2 hl hu (HP.mono fun e w' ⟨k, hb⟩ => ⟨k.1 Ls hl hd, hb⟩) (fun w k => (HR w k).mono fun e w' ⟨k, hb⟩ => ⟨k.1 Ls hl hd, hb⟩)
        · exact opens_no v mv W (HP.mono fun e w' ⟨k, hb⟩ => ⟨k.2 hd, hb⟩) (fun w k => (HR w k).mono fun e w' ⟨k, hb⟩ => ⟨k.2 hd, hb⟩)
      · exact opens_no v mv W (popen_no v b0 ring W hv hb hn' hh) (fun w k => ropen_no v b0 ring w (hv.below k) hb hn' hh)
  · exact opens_no v mv W (popen_size v R W hv hn) (fun w k => ropen_size v R w (hv.below k) hn)
end Go.Proofs.Ytmcahiebcflfoaa
