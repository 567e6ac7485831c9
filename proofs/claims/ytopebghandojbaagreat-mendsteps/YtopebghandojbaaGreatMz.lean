import Derived.Test.YtopebghandojbaaGreatMy
import Derived.Test.YtopebghandojbaaGreatJh
import Derived.Test.YtopebghandojbaaGreatLf
import Derived.OwnWalk
namespace Go.Proofs.YtopebghandojbaaGreat
open Go.RowKit Go.Maps
set_option maxRecDepth 100000 in
theorem pushV2 {ops : Array Oper} {rest : List Oper} {o : Oper} {a : Act} {Q : Exit → Act → World → Prop} {w0 : World} (hgd : o.guard = none) (s x : Operand)
    (ho : o.op = .call { callee := .builtin .append, args := #[s, x], argTypes := #[69, 69] }) (bb : Nat) (v : Value) (T : List Value) (y : Value) (hy : y.oneCell' = true)
    (hs : a.eval s = v) (hx : a.eval x = .slice (some ⟨bb, 0, none⟩) 1 1) (hbb : bb = w0.heap.size) (hA : VRow w0 v T) (hn : T.length ≤ 2000)
    (h : ∀ v' w', VRow w' v' (T ++ [y]) → VRow w' v T → w0.grownBy w' v.ownBlock → (v'.ownBlock = v.ownBlock ∨ ∃ k, v'.ownBlock = some k ∧ w0.heap.size ≤ k) → wpList Tryz.prog ops Q rest (a.put o.dst v') w') :
    wpList Tryz.prog ops Q (o :: rest) a (w0.alloc (.cells #[y] 24)) := by
  subst hbb
  obtain ⟨i0, hi, hz0, hz1, hz2⟩ := info_parts Tryz.infoV31
  have hnew : ∀ j u, [y][j]? = some u → (w0.alloc (.cells #[y] 24)).cell? ((⟨w0.heap.size, 0, none⟩ : Addr).add j) = some u := cell_one_new w0 y 24
  have grow : ∀ {row : Option Nat} {w'}, (w0.alloc (.cells #[y] 24)).grownBy w' row → w0.grownBy w' row := fun hg => ⟨hg.os, hg.tape, hg.output, by have := hg.size; simp at this; omega, fun k hk hne => (hg.block k (by simp; omega) hne).trans (Below.heap_alloc _ _ k hk)⟩
  have back : ∀ {base : Nat} {w' v'}, w'.ownsRow base 24 1 v' (T.length + 1) (T ++ [y]) → VRow w' v' (T ++ [y]) := by
    intro base w' v' hown
    refine VRow.of (base := base) ?_
    rw [List.length_append]
    exact hown
  rcases hA with ⟨rfl, rfl⟩ | ⟨b, off, cap, cur, rfl, h1, h2, h3, h4, h5⟩
  · refine wpList_append_own_at _ hgd s x 69 ho 0 24 i0 (.slice none 0 0) 1 24 Tryz.underlying69 hi hz0 hz1 hz2 rfl (by decide) _ 0 [] hs (World.ownsRow_nil _ _ _ _) ⟨w0.heap.size, 0, none⟩ 1 1 [y] hx rfl hnew (by intro u hu; simp at hu; subst hu; exact hy) (by decide) (by decide) (Nat.zero_le _) ?_
    intro v' w' hown hg _ hat
    refine h v' w' (back hown) (VRow.nil _) (grow hg) ?_
    rcases hat with e | e
    · exact .inl e
    · exact .inr ⟨_, e, by simp⟩
  · have hb := lt_of_block h1
    have hb1 : (w0.alloc (.cells #[y] 24)).heap[b]? = some (.cells cur 24 (0, 0)) := (Below.heap_alloc _ _ b hb).trans h1
    have hcell : ∀ j, (w0.alloc (.cells #[y] 24)).cell? ⟨b, j, none⟩ = cur[j]? := fun j => cell_of hb1 j
    refine wpList_append_arg _ hgd s x 69 ho 24 i0 (.slice none 0 0) 1 24 Tryz.underlying69 hi hz0 hz1 hz2 rfl (by decide) b off T.length cap T hs (by simp) ?_ ⟨w0.heap.size, 0, none⟩ 1 1 [y] hx rfl hnew (by intro u hu; simp at hu; subst hu; exact hy) ?_ (by unfold maxLen; omega) (by omega) ?_ ?_
    · intro j u hu
      by_cases hj : j < T.length
      · rw [List.getElem?_eq_getElem hj] at hu
        injection hu with hu
        subst hu
        rw [hcell]
        exact h5 j hj
      · rw [List.getElem?_eq_none (by omega)] at hu; cases hu
    · intro hr j hj
      have hj0 : j = 0 := by simp at hj; exact hj
      subst hj0
      refine ⟨?_, frees hb1 _⟩
      rw [hcell, Array.getElem?_eq_getElem (show off + T.length * 1 + 0 < cur.size by omega)]
      rfl
    · intro hr
      refine h _ _ ?_ ?_ ?_ (.inl rfl)
      · refine .inr ⟨b, off, cap, cur.set! (off + T.length * 1) y, by simp, cells_set hb1 _, by simp; omega, h3, by simp; omega, fun i hi => ?_⟩
        rw [Nat.mul_one, Array.set!_eq_setIfInBounds]
        by_cases hit : i < T.length
        · rw [Array.getElem?_setIfInBounds_ne (by omega), List.getElem_append_left hit]
          exact h5 i hit
        · have hie : i = T.length := by simp at hi; omega
          subst hie
          rw [Array.getElem?_setIfInBounds_self_of_lt (by omega)]
          simp
      · refine .inr ⟨b, off, cap, cur.set! (off + T.length * 1) y, rfl, cells_set hb1 _, h2, h3, by simp; omega, fun i hi => ?_⟩
        rw [Nat.mul_one, Array.set!_eq_setIfInBounds, Array.getElem?_setIfInBounds_ne (by omega)]
        exact h5 i hi
      · refine ⟨rfl, rfl, rfl, by simp [World.setCells], fun k hk hne => ?_⟩
        show ((w0.alloc (.cells #[y] 24)).setCell ⟨b, off + T.length * 1, none⟩ y).heap[k]? = _
        rw [Below.heap_setCell _ _ _ _ (by rintro rfl; exact hne rfl)]
        exact Below.heap_alloc _ _ k hk
    · intro hr v' w' hown hg
      have hg2 := grow hg
      have hold : VRow w' (.slice (some ⟨b, off, none⟩) T.length cap) T := by
        refine .inr ⟨b, off, cap, cur, rfl, (hg2.block b hb (by simp)).trans h1, h2, h3, h4, h5⟩
      refine h v' w' (back hown) hold ⟨hg2.os, hg2.tape, hg2.output, hg2.size, fun k hk _ => hg2.block k hk (by simp)⟩ ?_
      rcases hown.2 with ⟨_, hz⟩ | ⟨k, _, _, rfl, hk, _⟩
      · omega
      · exact .inr ⟨k, rfl, by simp at hk; omega⟩
set_option maxRecDepth 100000 in
set_option maxHeartbeats 4000000 in
theorem refAppend_ok2 (g : Nat) (r : Option Nat) (P : Int) (T F S : Nat) (vs : List Value) (v : Value) (L : List Chg) (hP : 0 < P) (hP2 : P ≤ 300) (hT : T < P) (hF0 : 1 ≤ F) (hF : F + vs.length ≤ 1099511627776) (hl : vs.length ≤ 300) (hs : sumI (vs.map szOf) + L.length + 1 ≤ P) (hr : right L = true) (w : World) (Lv : Value) (hLv : Lv.ownBlock = r) (hRI : RI g w P T F S Lv) (hVR : VRow w Lv vs) (hSl : ∀ v ∈ vs, Slc v) (hL : CLie w v L) :
    Calls Tryz.prog 72 #[.pointer (some ⟨g, 0, none⟩), v] w fun e w' => ∃ wv r', e = .returned (.tuple #[wv, .int .i64 0]) ∧ CLie w' wv (wrL P (T + sumI (vs.map szOf)) (encL (F + vs.length) L)) ∧ RK g r' w' P T F S (vs ++ [v]) ∧ New w r r' ∧ JFr g r w w' ∧ VRow w' Lv vs ∧ ∀ x, wv.ownBlock = some x → w.heap.size ≤ x := by
  have h : RK g r w P T F S vs := ⟨Lv, hLv, hRI, hVR, hSl⟩
  have hltr := h.lt
  have hgl := hltr.1
  have h48 := right_len hr
  have HC := hid (right_any v L w hL)
  rw [hr] at HC
  have HE := hid (fun w h => refEncode_ok (F + vs.length) v L (by omega) (by omega) w h hr)
  rw [show ((F + vs.length : Nat) : Int) = (F : Int) + (vs.length : Int) by omega] at HE
  have hel := encL_len (F + vs.length) L
  obtain ⟨EB, hEB⟩ : ∃ EB, EB = encL (F + vs.length) L := ⟨_, rfl⟩
  rw [← hEB] at HE hel ⊢
  clear hEB
  obtain ⟨n, hnn⟩ : ∃ n, n = L.length + 1 := ⟨_, rfl⟩
  have hn49 : n ≤ 49 := by omega
  have hn1 : 1 ≤ n := by omega
  rw [← hnn] at hel
  have HFr := hid (fun w h => refFree_j g r P T F S vs (by omega) hP2 (by omega) w h)
  have HNx := hid (fun w h => refNext_j g r P T F S vs hl (by omega) w h)
  have HK := hid h
  have HL := hid hL
  obtain ⟨la, lcap, rfl, hl1, hl2, _⟩ := hL
  obtain ⟨A, hA⟩ : ∃ A, A = sumI (vs.map szOf) := ⟨_, rfl⟩
  rw [← hA] at HFr hs ⊢
  have hA0 : 0 ≤ A := by
    rw [hA]
    obtain ⟨Lv, _, _, _, h3⟩ := h
    refine sumI_nn fun x hx => ?_
    obtain ⟨v, hv, rfl⟩ := List.mem_map.1 hx
    obtain ⟨a, n, c, rfl, _⟩ := h3 v hv
    show (0 : Int) ≤ (n : Int) + 1
    omega
  have HH3 : Hid (∀ v ∈ vs, Slc v) := by obtain ⟨Lv, _, _, _, h3⟩ := h; exact hid h3
  have hro := hLv
  have h1 := hRI
  have h2 := hVR
  clear hLv hRI hVR hSl h
  obtain ⟨ao, cap, rfl, hlc, hcm⟩ := h2.len
  have HI := hid h1
  have HR := hid h2
  clear hA hr h1 h2 hnn
  go_enter Tryz.func72, Tryz.ntmps72
  go_upto_region 5 with (first
    | (go_at_call 33; refine (HC.out).mono ?_; rintro e w1 ⟨rfl, hb1⟩; have HB1 := hid hb1; clear hb1)
    | (go_at_call 70; refine (HFr.out _ (by exact HK.out.below HB1.out)).mono ?_; rintro e w2 ⟨rfl, hw⟩; have hw := hw.symm; subst hw)
    | (go_at_call 59; refine (HNx.out _ (by exact HK.out.below HB1.out)).mono ?_; rintro e w3 ⟨rfl, q, hw⟩; have hw := hw.symm; subst hw))
  have HB2 : Hid (Below w.heap.size w (w1.drewN q)) := hid (HB1.out.next ⟨rfl, rfl, rfl, Nat.le_refl _, fun _ _ => rfl⟩)
  obtain ⟨w2, hw2⟩ : ∃ w2, w2 = w1.drewN q := ⟨_, rfl⟩
  rw [← hw2] at HB2 ⊢
  clear hw2
  have HI2 := hid (HI.out.below HB2.out)
  obtain ⟨c0, c1, c2, c3, c4⟩ := HI2.out.cells
  have hlt2 := HI2.out.lt
  have hwr : IntKind.i64.wrap ((T : Int) + P) = (T : Int) + P := by rw [IntKind.wrap_i64]; omega
  have hwr2 : IntKind.i64.wrap ((T : Int) + P - (P - A)) = (T : Int) + A := by rw [IntKind.wrap_i64]; omega
  go_quiet ((go_at_call 70; exact Calls.quiet_of_same (HFr.out _ (by exact HK.out.below (HB2.out.next ⟨rfl, rfl, rfl, Nat.le_refl _, fun _ _ => rfl⟩)))))
  have HB3 : Hid (Below w.heap.size w (w2.drewN nq)) := hid (HB2.out.next ⟨rfl, rfl, rfl, Nat.le_refl _, fun _ _ => rfl⟩)
  obtain ⟨w3, hw3⟩ : ∃ w3, w3 = w2.drewN nq := ⟨_, rfl⟩
  rw [← hw3] at HB3 ⊢
  clear hw3 c0 c1 c2 c3 c4 hlt2
  go_wp2_with (first
    | (go_at_call 59; refine (HNx.out _ (by exact HK.out.below HB3.out)).mono ?_; rintro e w4 ⟨rfl, q4, hw⟩; have hw := hw.symm; subst hw)
    | (go_at_call 116; fail))
  have HB4 : Hid (Below w.heap.size w (w3.drewN q4)) := hid (HB3.out.next ⟨rfl, rfl, rfl, Nat.le_refl _, fun _ _ => rfl⟩)
  refine (HE.out _ (by exact HL.out.below HB4.out)).mono ?_
  rintro e w5 ⟨bv, rfl, hsl, hb5⟩
  have HS5 := hid hsl
  have HB5 := hid (HB4.out.next hb5)
  clear hb5
  obtain ⟨bo, bc, rfl, hbl, hbm, _⟩ := hsl
  rw [hel] at HS5 hbl ⊢
  unfold maxLen at hbm
  have HI5 := hid (HI.out.below HB5.out)
  have hWl : (wrL P (T + A) EB).length = n := by rw [wrL_len]; exact hel
  go_wp2
  go_loopw [6, 9, 47] (fun at9 ov i wr => ∃ q : Nat, i = .int .i64 q ∧ q ≤ n ∧ at9 = .int .i64 ((T : Int) + A + q) ∧ WRow w5.heap.size wr ov ((wrL P (T + A) EB).take q) ∧ Below w5.heap.size w5 wr) (fun _ _ i _ => n - (intOf i).toNat)
  case atStart => exact ⟨0, rfl, Nat.zero_le _, by simp, WRow.nil _ _, Below.refl _ _⟩
  case round =>
    obtain ⟨q, rfl, hq, rfl, hWq, hBq⟩ := hrel
    have HWq := hid hWq
    have HBq := hid hBq
    obtain ⟨oo, oc, rfl, ho1, ho2⟩ := hWq.len
    clear hWq hBq
    have hwt : ((wrL P (T + A) EB).take q).length = q := by rw [List.length_take]; omega
    rw [hwt] at HWq ho1 ⊢
    have HIq := hid (HI5.out.below HBq.out)
    obtain ⟨c0, c1, c2, c3, c4⟩ := HIq.out.cells
    have hltq := HIq.out.lt
    have hszq := HBq.out.size
    by_cases hqk : q < n
    · obtain ⟨pg, po, e, hpg, pc⟩ : ∃ pg po, bo = some ⟨pg, po, none⟩ ∧ pg < w5.heap.size ∧ w5.cell? ⟨pg, po + q, none⟩ = some (.string (EB[q]'(by omega))) := by
        obtain ⟨ao', cap', e, _, _, hc⟩ := HS5.out
        obtain ⟨g', o', e', k1, k2⟩ := hc q (by omega)
        injection e with e1 e2 e3
        exact ⟨g', o', e1.trans e', k1, k2⟩
      subst e
      replace pc := (HBq.out.cell (p := ⟨pg, po + q, none⟩) hpg).trans pc
      have hpr : pg < wr.heap.size := Nat.lt_of_lt_of_le hpg HBq.out.size
      have HS : Hid ((wrL P (T + A) EB).take (q + 1) = (wrL P (T + A) EB).take q ++ [⟨((T : Int) + A + q) % P + 1, EB[q]'(by omega)⟩]) := by
        show _ = _
        rw [List.take_succ_eq_append_getElem (by omega), wrL_get P (T + A) EB q (by omega) (by omega), Int.add_comm 1]
      have hmod := Int.emod_lt_of_pos ((T : Int) + A + q) hP
      have hmod0 := Int.emod_nonneg ((T : Int) + A + q) (show P ≠ 0 by omega)
      obtain ⟨d, hd⟩ : ∃ d, d = EB[q]'(by omega) := ⟨_, rfl⟩
      rw [← hd] at pc HS
      clear hd
      have hP' : (P == 0) = false := by simp; omega
      go_wp2_with (first
        | (at_builtin; refine pushW (w0 := wr) rfl (.tmp 51) (.tmp 61) rfl w5.heap.size wr.heap.size _ ((wrL P (T + A) EB).take q) ⟨((T : Int) + A + q) % P + 1, d⟩ rfl rfl rfl (by exact HWq.out) (by omega) hszq ?_; intro v7 w7 hw7 hb7; rw [← HS.out] at hw7; have HW7 := hid hw7; have HB7 := hid (HBq.out.trans hb7); clear hw7 hb7))
      go_roundw
      case rel => exact ⟨q + 1, by go_num, by omega, by congr 1; omega, HW7.out, HB7.out⟩
      case measure => simp [intOf]; omega
    · have hqe : q = n := by omega
      subst hqe
      rw [List.take_of_length_le (by omega)] at HWq
      have HRq : Hid (VRow wr (.slice ao vs.length cap) vs) := hid (HR.out.same fun x hx => (HB5.out.next HBq.out).block x (hltr.2 x (hro.symm.trans hx)).1)
      have hfq := frees HIq.out
      have hsz : w.heap.size ≤ w5.heap.size := HB5.out.size
      have hgr : some g ≠ (Value.slice ao vs.length cap).ownBlock := by
        intro e
        exact (hltr.2 g (hro.symm.trans e.symm)).2 rfl
      go_wp2_with (first
        | (at_builtin; refine pushV2 (w0 := wr) rfl (.tmp 70) (.tmp 72) rfl wr.heap.size _ vs (.slice la L.length lcap) rfl rfl rfl rfl (by exact HRq.out) (by omega) ?_; intro v7 w7 hR7 hO7 hg7 hn7; have HR7 := hid hR7; have HO7 := hid hO7; have HG7 := hid hg7; have HN7 := hid hn7; obtain ⟨a7, c7, rfl, _, _⟩ := hR7.len; have HI7 : Hid (RI g w7 P T F S (.slice ao vs.length cap)) := hid ((hg7.block g hltq hgr).trans HIq.out); clear hR7 hO7 hg7 hn7 c0 c1 c2 c3 c4 hfq; obtain ⟨c0, c1, c2, c3, c4⟩ := HI7.out.cells; have hf7 := frees HI7.out; have hlt7 := HI7.out.lt))
      rw [List.length_append, List.length_singleton] at HR7 HN7
      have ne7 : ∀ x, (Value.slice a7 (vs.length + 1) c7).ownBlock = some x → x ≠ g := by
        intro x hx
        rcases HN7.out with e | ⟨k, e, hk⟩
        · exact (hltr.2 x (hro.symm.trans (e.symm.trans hx))).2
        · rw [hx] at e
          injection e with e
          omega
      have hoo : ∀ x, (Value.slice oo q oc).ownBlock = some x → w5.heap.size ≤ x ∧ x < wr.heap.size := HWq.out.own
      refine bodyPost_ret (v := .tuple #[.slice oo q oc, .int .i64 0]) (by simp [results, Tryz.results72, go_sem]) rfl ⟨_, (Value.slice a7 (vs.length + 1) c7).ownBlock, rfl, ?_, ?_, ?_, ?_, ?_, ?_⟩
      · refine cc_lie (B := w5.heap.size) (ty := 128) ?_
        obtain ⟨e1, e2 | ⟨x, cap', cur, e3, e4, e5, e6⟩⟩ := HWq.out
        · exact ⟨e1, .inl e2⟩
        · have hx := hoo x (by rw [e3]; rfl)
          refine ⟨e1, .inr ⟨x, cap', cur, e3, e4, ?_, e6⟩⟩
          refine (Below.heap_setCell _ _ _ _ ?_).trans ((HG7.out.block x hx.2 ?_).trans e5)
          · show x ≠ g
            omega
          · show some x ≠ (Value.slice ao vs.length cap).ownBlock
            intro e
            have := (hltr.2 x (hro.symm.trans e.symm)).1
            omega
      · refine ⟨_, rfl, HI7.out.set4 _, HR7.out.same fun x hx => Below.heap_setCell _ _ _ _ ?_, fun y hy => ?_⟩
        · exact ne7 x hx
        · rcases List.mem_append.1 hy with hy | hy
          · exact HH3.out y hy
          · rw [List.mem_singleton] at hy
            exact ⟨la, L.length, lcap, hy, by omega⟩
      · rcases HN7.out with e | ⟨k, e, hk⟩
        · exact .inl (e.trans hro)
        · exact .inr ⟨k, e, by omega⟩
      · have kq : Below w.heap.size w wr := HB5.out.next HBq.out
        have k7 : JFr g r w w7 := (JFr.of kq).trans (.inl rfl) ⟨HG7.out.os, HG7.out.tape, HG7.out.output, HG7.out.size, fun k hk _ h2 => HG7.out.block k hk (by show some k ≠ (Value.slice ao vs.length cap).ownBlock; rw [hro]; exact h2)⟩
        exact k7.set (.inl rfl) _ _
      · exact HO7.out.same fun x hx => Below.heap_setCell _ _ _ _ (hltr.2 x (hro.symm.trans hx)).2
      · exact fun x hx => by have := (hoo x hx).1; omega
set_option maxRecDepth 100000 in
theorem jappend_full2 (g : Nat) (r : Option Nat) (P : Int) (T F S : Nat) (l : List Int) (v : Value) (L : List Chg) (hP : 0 < P) (hP2 : P ≤ 300) (hF0 : 1 ≤ F) (hF : F + l.length ≤ 1099511629000) (hF3 : F ≤ 1099511627776) (hl : l.length ≤ 300) (hn : ∀ x ∈ l, 0 ≤ x) (hs : sumI l ≤ P) (hs2 : P < sumI l + L.length + 1 ∨ 1099511627776 < F + l.length) (hr : right L = true) (w : World) (h : JS g r w P T F S l) (hL : CLie w v L) :
    Calls Tryz.prog 65 #[.pointer (some ⟨g, 0, none⟩), v] w fun e w' => e = .returned (.tuple #[.slice none 0 0, .int .i64 5]) ∧ Below w.heap.size w w' := by
  have h48 := right_len hr
  have HC := hid (check_any v L w hL)
  rw [hr] at HC
  simp only [if_true] at HC
  have hs0 := sumI_nn hn
  obtain ⟨sv, hro, h1, h2⟩ := h
  obtain ⟨ao, cap, rfl, hlc, hcm⟩ := h2.len
  have HNx := hid (fun w h => next_any g P T F S ao l.length cap hl (by omega) (by omega) hP w h)
  have HJ := hid h1
  have HL := hid hL
  by_cases hmx : 1099511627776 < F + l.length
  · have HE := hid (fun w => encode_arg ((F : Int) + (l.length : Int)) v (by omega) w)
    clear h1 h2 hn hL hr hs2
    go_enter Tryz.func65, Tryz.ntmps65
    go_wp2_with (first
      | (go_at_call 63; refine (HC.out).mono ?_; rintro e w1 ⟨rfl, hb1⟩; have HB1 := hid hb1; clear hb1)
      | (go_at_call 54; refine (HNx.out _ (by exact HJ.out.below HB1.out)).mono ?_; rintro e w2 ⟨rfl, q2, hw⟩; have hw := hw.symm; subst hw)
      | (go_at_call 112; refine (HE.out _).mono ?_; rintro e w3 ⟨rfl, hw⟩; have hw := hw.symm; subst hw))
    go_ret2
    exact ⟨rfl, HB1.out.next ⟨rfl, rfl, rfl, Nat.le_refl _, fun _ _ => rfl⟩⟩
  · have hs3 : P < sumI l + L.length + 1 := by omega
    have HE := hid (fun w h => encode_ok (F + l.length) v L (by omega) (by omega) w h hr)
    rw [show ((F + l.length : Nat) : Int) = (F : Int) + (l.length : Int) by omega] at HE
    have hel := encL_len (F + l.length) L
    obtain ⟨EB, hEB⟩ : ∃ EB, EB = encL (F + l.length) L := ⟨_, rfl⟩
    rw [← hEB] at HE hel
    clear hEB
    obtain ⟨n, hnn⟩ : ∃ n, n = L.length + 1 := ⟨_, rfl⟩
    have hni : (L.length : Int) + 1 = (n : Int) := by omega
    rw [← hnn] at hel
    have hn49 : n ≤ 49 := by omega
    have hsn : P < sumI l + n := by omega
    have HFr := hid (fun w h hl => free_any g P T F S (.slice ao l.length cap) l hn hs hP hP2 w h hl)
    have HR := hid h2
    obtain ⟨A, hA⟩ : ∃ A, A = sumI l := ⟨_, rfl⟩
    rw [← hA] at HFr hsn hs0 hs
    clear h1 h2 hn hL hr hs2 hA hs3 hni hnn h48
    go_enter Tryz.func65, Tryz.ntmps65
    go_wp2_with (first
      | (go_at_call 63; refine (HC.out).mono ?_; rintro e w1 ⟨rfl, hb1⟩; have HB1 := hid hb1; clear hb1)
      | (go_at_call 54; refine (HNx.out _ (by exact HJ.out.below HB1.out)).mono ?_; rintro e w2 ⟨rfl, q2, hw⟩; have hw := hw.symm; subst hw)
      | (go_at_call 112; fail))
    refine (HE.out _ (by exact HL.out.below (HB1.out.next ⟨rfl, rfl, rfl, Nat.le_refl _, fun _ _ => rfl⟩))).mono ?_
    rintro e w3 ⟨bv, rfl, hsl, hb3⟩
    have k2 : Below w.heap.size w (w1.drewN q2) := HB1.out.next ⟨rfl, rfl, rfl, Nat.le_refl _, fun _ _ => rfl⟩
    have HB3 : Hid (Below w.heap.size w w3) := hid (k2.next hb3)
    clear k2
    clear hb3
    obtain ⟨bo, bc, rfl, hbl, hbm, hbc⟩ := hsl
    rw [hel] at hbl ⊢
    clear hbc
    go_wp2_with (first
      | (go_at_call 64; refine (HFr.out _ (by exact HJ.out.below HB3.out) (by exact (HR.out.below HB3.out).lie)).mono ?_; rintro e w4 ⟨rfl, q4, hw⟩; have hw := hw.symm; subst hw))
    go_ret2
    exact ⟨rfl, HB3.out.next ⟨rfl, rfl, rfl, Nat.le_refl _, fun _ _ => rfl⟩⟩
set_option maxRecDepth 100000 in
theorem refAppend_full2 (g : Nat) (r : Option Nat) (P : Int) (T F S : Nat) (vs : List Value) (v : Value) (L : List Chg) (hP : 0 < P) (hP2 : P ≤ 300) (hF : F + vs.length ≤ 1099511629000) (hF3 : F ≤ 1099511627776) (hl : vs.length ≤ 300) (hs : sumI (vs.map szOf) ≤ P) (hs2 : P < sumI (vs.map szOf) + L.length + 1 ∨ 1099511627776 < F + vs.length) (hr : right L = true) (w : World) (h : RK g r w P T F S vs) (hL : CLie w v L) :
    Calls Tryz.prog 72 #[.pointer (some ⟨g, 0, none⟩), v] w fun e w' => e = .returned (.tuple #[.slice none 0 0, .int .i64 5]) ∧ Below w.heap.size w w' := by
  have h48 := right_len hr
  have HC := hid (right_any v L w hL)
  rw [hr] at HC
  obtain ⟨la, lcap, rfl, hl1, hl2, _⟩ := hL
  have HFr := hid (fun w h => refFree_j g r P T F S vs (by omega) hP2 hs w h)
  have HNx := hid (fun w h => refNext_j g r P T F S vs hl (by omega) w h)
  have HK := hid h
  obtain ⟨A, hA⟩ : ∃ A, A = sumI (vs.map szOf) := ⟨_, rfl⟩
  rw [← hA] at HFr hs hs2
  have hA0 : 0 ≤ A := by
    rw [hA]
    obtain ⟨Lv, _, _, _, h3⟩ := h
    refine sumI_nn fun x hx => ?_
    obtain ⟨v, hv, rfl⟩ := List.mem_map.1 hx
    obtain ⟨a, n, c, rfl, _⟩ := h3 v hv
    show (0 : Int) ≤ (n : Int) + 1
    omega
  clear hA h hr
  by_cases hf : P < A + L.length + 1
  · clear hs2
    go_enter Tryz.func72, Tryz.ntmps72
    go_wp2_with (first
      | (go_at_call 33; refine (HC.out).mono ?_; rintro e w1 ⟨rfl, hb1⟩)
      | (go_at_call 70; refine (HFr.out _ (by exact HK.out.below hb1)).mono ?_; rintro e w2 ⟨rfl, hw⟩; have hw := hw.symm; subst hw))
    go_ret2
    exact ⟨rfl, hb1⟩
  · have hf2 : 1099511627776 < F + vs.length := by omega
    clear hs2
    go_enter Tryz.func72, Tryz.ntmps72
    go_wp2_with (first
      | (go_at_call 33; refine (HC.out).mono ?_; rintro e w1 ⟨rfl, hb1⟩)
      | (go_at_call 70; refine (HFr.out _ (by exact HK.out.below hb1)).mono ?_; rintro e w2 ⟨rfl, hw⟩; have hw := hw.symm; subst hw)
      | (go_at_call 59; refine (HNx.out _ (by exact HK.out.below hb1)).mono ?_; rintro e w3 ⟨rfl, q, hw⟩; have hw := hw.symm; subst hw))
    go_ret2
    exact ⟨rfl, hb1.next ⟨rfl, rfl, rfl, Nat.le_refl _, fun _ _ => rfl⟩⟩
end Go.Proofs.YtopebghandojbaaGreat
namespace Go.Proofs.YtopebghandojbaaGreat
open Go.RowKit Go.Maps
theorem hdr_num {b : ByteArray} {T F E : Nat} (h : isHdr b T F E) : ∃ s, unV b = (s, 0) ∧ s.size = 19 ∧ nT s = T ∧ nF s = F ∧ nE s = E ∧ hdB T F E = b := by
  obtain ⟨hu, h1, h2, h3⟩ := h
  have p2 : (256 : Nat) ^ 2 = 65536 := by decide
  have p8 : (256 : Nat) ^ 8 = 18446744073709551616 := by decide
  have e0 : ((st (hdL T F E)).extract 1 (st (hdL T F E)).size).data.toList = fEnc T 2 ++ (fEnc F 8 ++ fEnc E 8) := by
    rw [st_cut]; unfold hdL; simp
  have e1 : (nR1 (st (hdL T F E))).data.toList = fEnc F 8 ++ fEnc E 8 := by
    unfold nR1
    rw [ext_list, List.take_of_length_le (by rw [len_list]; exact Nat.le_refl _), e0, List.drop_left' (fEnc_len _ _)]
  have e2 : (nR2 (st (hdL T F E))).data.toList = fEnc E 8 := by
    unfold nR2
    rw [ext_list, List.take_of_length_le (by rw [len_list]; exact Nat.le_refl _), e1, List.drop_left' (fEnc_len _ _)]
  refine ⟨_, hu, by rw [st_size, hdL_len], ?_, ?_, ?_, ?_⟩
  · unfold nT
    rw [e0, List.take_left' (fEnc_len _ _), fval_big, big_fEnc _ _ (by omega)]
  · unfold nF
    rw [e1, List.take_left' (fEnc_len _ _), fval_big, big_fEnc _ _ (by omega)]
  · unfold nE
    rw [e2, List.take_of_length_le (by rw [fEnc_len]; exact Nat.le_refl _), fval_big, big_fEnc _ _ (by omega)]
  · have := (un_back b (by rw [hu])).1
    rw [hu] at this
    simp only [st_list] at this
    exact this
/-- the reference's Open of what is no header -/
theorem ropen_no (v : Value) (b0 : ByteArray) (ring : List ByteArray) (w : World) (hv : SLie w v (b0 :: ring)) (hb : b0.size ≤ 150000000000000) (hn : 7 ≤ ring.length ∧ ring.length ≤ 255)
    (h : ¬ ∃ T F E, isHdr b0 T F E ∧ F ≤ E ∧ E - F ≤ ring.length ∧ T < ring.length ∧ 1 ≤ F ∧ F ≤ 1099511627776) : Calls Tryz.prog 58 #[v] w fun e w' => RON e ∧ Below w.heap.size w w' := by
  by_cases h1 : (unV b0).2 = 0 ∧ (unV b0).1.size = 19
  · have hu : unV b0 = ((unV b0).1, 0) := by rw [← h1.1]
    obtain ⟨s, hs⟩ : ∃ s, s = (unV b0).1 := ⟨_, rfl⟩
    rw [← hs] at hu h1
    by_cases hf : nF s < 9223372036854775808
    · by_cases he : nE s < 9223372036854775808
      · by_cases hc : nF s ≤ nE s ∧ nE s - nF s ≤ ring.length ∧ nT s < ring.length ∧ 1 ≤ nF s ∧ nF s ≤ 1099511627776
        · by_cases hx : hdB (nT s) (nF s) (nE s) = b0
          · exact absurd ⟨nT s, nF s, nE s, by rw [← hx]; exact hdB_isHdr (n_sizes h1.2).2.2.2 hf he, hc⟩ h
          · exact ropen_hdr v b0 ring w hv hb hn s hu h1.2 hf he hc hx
        · exact ropen_bad v b0 ring w hv hb hn s hu h1.2 hf he hc
      · exact ropen_g v b0 ring w hv hb hn s hu h1.2 hf he
    · exact ropen_f v b0 ring w hv hb hn s hu h1.2 hf
  · exact ropen_form v b0 ring w hv hb hn h1
theorem ropen_yes (v : Value) (b0 : ByteArray) (ring : List ByteArray) (w : World) (hv : SLie w v (b0 :: ring)) (hz : ∀ b ∈ b0 :: ring, b.size ≤ 150000000000000) (hn : 7 ≤ ring.length ∧ ring.length ≤ 255) (T F S : Nat) (hh : isHdr b0 T F (F + S)) (h1 : T < ring.length) (h2 : 1 ≤ F) (h3 : F ≤ 1099511627776) (h4 : S ≤ ring.length) :
    Calls Tryz.prog 58 #[v] w fun e w' => ROP w.heap.size ring.length T F S (ring.drop T ++ ring.take T) e w' ∧ Below w.heap.size w w' := by
  obtain ⟨s, hu, hs, rfl, rfl, he, hx⟩ := hdr_num hh
  have := ropen_go v b0 ring w hv hz hn s hu hs hh.2.2.1 (by rw [he]; exact hh.2.2.2) (by omega) (by rw [he]; exact hx)
  rw [he, show nF s + S - nF s = S by omega] at this
  exact this
set_option maxRecDepth 100000 in
theorem popen_size (v : Value) (R : List ByteArray) (w : World) (hv : SLie w v R) (hn : ¬ (8 ≤ R.length ∧ R.length ≤ 256)) : Calls Tryz.prog 52 #[v] w fun e w' => ON e ∧ Below w.heap.size w w' := by
  obtain ⟨ao, cap, rfl, hlc, hcm, _⟩ := hv
  unfold maxLen at hcm
  have HI := hid (fun w => isRegion_any (R.length : Int) w)
  rw [decide_eq_false (by omega)] at HI
  clear hn
  go_enter Tryz.func52, Tryz.ntmps52
  go_wp2_with (first | (go_at_call 85; refine (HI.out _).mono ?_; rintro e w1 ⟨rfl, hw⟩; have hw := hw.symm; subst hw))
  go_ret3
  exact ⟨rfl, Below.refl _ _⟩
set_option maxRecDepth 100000 in
theorem popen_hdr (v : Value) (b0 : ByteArray) (ring : List ByteArray) (w : World) (hv : SLie w v (b0 :: ring)) (hn : 7 ≤ ring.length ∧ ring.length ≤ 255) (HH : ∀ w, Calls Tryz.prog 99 #[.string b0, .int .i64 (ring.length : Int)] w fun e w' => e = .returned (.tuple #[.pointer none, .bool false]) ∧ Below w.heap.size w w') :
    Calls Tryz.prog 52 #[v] w fun e w' => ON e ∧ Below w.heap.size w w' := by
  have HX := hid HH
  clear HH
  obtain ⟨ao, cap, rfl, hlc, hcm, hcell⟩ := hv
  obtain ⟨b, off, rfl, hbl, c0⟩ := hcell 0 (by simp)
  rw [List.getElem_cons_zero, Nat.add_zero] at c0
  rw [List.length_cons] at hlc ⊢
  have HIR := hid (fun w => isRegion_any ((ring.length : Int) + 1) w)
  rw [decide_eq_true (show (8:Int) ≤ (ring.length : Int) + 1 ∧ (ring.length : Int) + 1 ≤ 256 by omega)] at HIR
  unfold maxLen at hcm
  clear hcell
  have i2 : IntKind.i64.wrap ((ring.length : Int) + 1 - 1) = (ring.length : Int) := by rw [IntKind.wrap_i64]; omega
  go_enter Tryz.func52, Tryz.ntmps52
  go_wp2_with (first
    | (go_at_call 85; refine (HIR.out _).mono ?_; rintro e w1 ⟨rfl, hw⟩; have hw := hw.symm; subst hw)
    | (go_at_call 99; refine (HX.out _).mono ?_; rintro e w2 ⟨rfl, hb2⟩; have HB2 := hid hb2; clear hb2))
  go_ret3
  exact ⟨rfl, HB2.out⟩
theorem popen_no (v : Value) (b0 : ByteArray) (ring : List ByteArray) (w : World) (hv : SLie w v (b0 :: ring)) (hb : b0.size ≤ 150000000000000) (hn : 7 ≤ ring.length ∧ ring.length ≤ 255)
    (h : ¬ ∃ T F E, isHdr b0 T F E ∧ F ≤ E ∧ E - F ≤ ring.length ∧ T < ring.length ∧ 1 ≤ F ∧ F ≤ 1099511627776) : Calls Tryz.prog 52 #[v] w fun e w' => ON e ∧ Below w.heap.size w w' := by
  by_cases hh : ∃ T F E, isHdr b0 T F E
  · obtain ⟨T, F, E, hh⟩ := hh
    refine popen_hdr v b0 ring w hv hn fun w => (hdr_yes b0 hb (ring.length : Int) T F E hh w).mono fun e w' ⟨_, k, hbw⟩ => ⟨k fun hk => h ⟨T, F, E, hh, by omega, by omega, by omega, by omega, by omega⟩, hbw⟩
  · exact popen_hdr v b0 ring w hv hn fun w => hdr_not b0 hb (ring.length : Int) hh w
/-- what is far from a journal is as it was -/
theorem ROS.far {B g g' : Nat} {r r' : Option Nat} {w w' : World} {P : Int} {T F S : Nat} {Ls : List (List Chg)} {us : List Value} (h : ROS B g' r' w P T F S Ls us) (hf : JFr g r w w') (hg : g < B) (hr : ∀ x, r = some x → x < B) : ROS B g' r' w' P T F S Ls us := by
  have hs := hf.size
  have hl := h.rk.lt
  have k : ∀ x, B ≤ x → x < w.heap.size → w'.heap[x]? = w.heap[x]? := fun x hx hxs => hf.block x hxs (by omega) (fun e => by have := hr x e.symm; omega)
  refine ⟨h.rk.same (k _ h.b1 hl.1) (fun x hx => k x (h.b2 x hx) (hl.2 x hx).1), h.ln, fun i hi hj => (h.cl i hi hj).kept hs ?_, fun u hu => ?_, h.b1, h.b2⟩
  · rcases h.vo _ (List.getElem_mem hi) with hz | hx
    · exact .inl hz
    · exact .inr fun x e => by have := hx x e; exact k x this.1 this.2.1
  · rcases h.vo u hu with hz | hx
    · exact .inl hz
    · exact .inr fun x e => by have := hx x e; exact ⟨this.1, by omega, this.2.2⟩
theorem ROS.sizes {B g : Nat} {r : Option Nat} {w : World} {P : Int} {T F S : Nat} {Ls : List (List Chg)} {us : List Value} (h : ROS B g r w P T F S Ls us) : us.map szOf = Ls.map szL := by
  apply List.ext_getElem
  · simp [h.ln]
  · intro i h1 h2
    rw [List.getElem_map, List.getElem_map]
    obtain ⟨ao, cap, e, _⟩ := h.cl i (by simpa using h1) (by simpa using h2)
    rw [e]
    rfl
theorem used_nn (Ls : List (List Chg)) : ∀ x ∈ Ls.map szL, 0 ≤ x := by
  intro x hx
  obtain ⟨L, _, rfl⟩ := List.mem_map.1 hx
  unfold szL; omega
end Go.Proofs.YtopebghandojbaaGreat
namespace Go.Proofs.YtopebghandojbaaGreat
open Go.RowKit Go.Maps
end Go.Proofs.YtopebghandojbaaGreat
