import Derived.Test.YtnoocgodnpjnoaaDoorSd
namespace Go.Proofs.YtnoocgodnpjnoaaDoor
open Go.RowKit

theorem FRow.mono {b b2 : Nat} {w : World} {v : Value} {l : List Fil} (h : FRow b2 w v l) (hb : b ≤ b2) : FRow b w v l := by
  obtain ⟨e1, e2 | ⟨x, cap, cur, rfl, e4, e5⟩⟩ := h
  · exact ⟨e1, .inl e2⟩
  · exact ⟨e1, .inr ⟨x, cap, cur, rfl, Nat.le_trans hb e4, e5⟩⟩
theorem flie_new (w : World) (q : Nat) (hq : q = w.heap.size) (f a : Int) (p : ByteArray) : FLie (w.alloc (.cells #[.int .i64 f, .int .i64 a, .string p] 34)) (.slice (some ⟨q, 0, none⟩) 1 1) [⟨f, a, p⟩] := by
  subst hq
  refine ⟨_, 1, rfl, Nat.le_refl _, by decide, fun i hi => ⟨w.heap.size, 0, rfl, by simp, ?_⟩⟩
  have hb := box_at w (.cells #[.int .i64 f, .int .i64 a, .string p] 34)
  match i, hi with
  | 0, _ => exact ⟨by simp only [World.cell?, hb]; rfl, by simp only [World.cell?, hb]; rfl, by simp only [World.cell?, hb]; rfl⟩
theorem erase_step (l : List Fil) (k i : Nat) (h : i < l.length) : (l.take (i + 1)).eraseIdx k = (l.take i).eraseIdx k ++ (if i = k then [] else [l[i]]) := by
  rw [List.take_succ_eq_append_getElem h]
  by_cases hk : k < i
  · rw [List.eraseIdx_append_of_lt_length (by rw [List.length_take]; omega), if_neg (by omega)]
  · by_cases hik : i = k
    · rw [if_pos hik, List.append_nil, List.eraseIdx_append_of_length_le (by rw [List.length_take]; omega)]
      rw [show k - (l.take i).length = 0 by rw [List.length_take]; omega]
      rw [List.eraseIdx_of_length_le (l := l.take i) (by rw [List.length_take]; omega)]
      simp
    · rw [if_neg hik, List.eraseIdx_of_length_le (by rw [List.length_append, List.length_take]; simp; omega), List.eraseIdx_of_length_le (by rw [List.length_take]; omega)]
set_option maxRecDepth 100000 in
set_option maxHeartbeats 1000000 in
theorem close_ref {base top r : Nat} {w : World} {D : Nat → Dsc} (fd : Int) (h : RT base top r w (fl D 16)) (hbase : base ≤ w.heap.size) : Calls Tryd.prog 22 #[.pointer (some ⟨r, 0, none⟩), .int .i64 fd] w fun e w' => e = .returned (.int .i64 (closE D fd)) ∧ RI base r w' (fl (closD D fd) 16) ∧ KR base top r w w' := by
  have HF := hid (find_ref fd h.ri)
  have HH := hid h
  clear h
  unfold closD closE
  unfold idx at HF
  cases ho : opn D fd with
  | true =>
    rw [ho] at HF
    obtain ⟨k, rfl, hk, hd⟩ := opn_parts ho
    rw [if_pos rfl, Int.toNat_natCast] at HF
    simp only [if_true, Int.toNat_natCast]
    have HO := hid hd
    have HSH : Hid (fl (upd D k Dsc.zero) 16 = (fl D 16).eraseIdx (cnt D k)) := hid (fl_shut hd rfl 16 hk)
    rw [HSH.out]
    have hll : (fl D 16).length ≤ 16 := by rw [fl_len]; exact cnt_le D 16
    have HAT := hid (fun w' (b : Below w.heap.size w w') => (HH.out.below b).at hk hd)
    obtain ⟨l, hl⟩ : ∃ l, l = fl D 16 := ⟨_, rfl⟩
    obtain ⟨ci, hci⟩ : ∃ c, c = cnt D k := ⟨_, rfl⟩
    rw [← hl, ← hci]
    rw [← hl] at hll HH HAT
    rw [← hci] at HF HAT
    clear hd ho HSH hl HO
    clear hci
    go_enter Tryd.func22, Tryd.ntmps22
    go_wp2_with (first | (go_at_call 10; refine (HF.out).mono ?_; rintro e w2 ⟨rfl, b2⟩; have HB := hid b2; clear b2; obtain ⟨x, nn, cap, c0, hnc, hcm, hcn, hbx, hxt, hxl, HR, HR1, _⟩ := HAT.out _ HB.out; obtain ⟨ao, cap3, hv, hlc, hcm3, hcell⟩ := HR.lie; cases hv; have HC := hid hcell; replace HR := hid HR; replace HR1 := hid HR1; unfold maxLen at hcm; clear hcell hlc hcm3))
    go_loopw [6, 19] (fun s i wr => ∃ j : Nat, i = .int .i64 j ∧ j ≤ l.length ∧ Hid (FRow w2.heap.size wr s ((l.take j).eraseIdx ci)) ∧ Hid (Below w2.heap.size w2 wr)) (fun _ i _ => l.length - (intOf i).toNat)
    case atStart => exact ⟨0, rfl, Nat.zero_le _, hid (FRow.nil _ _), hid (Below.refl _ _)⟩
    case round =>
      obtain ⟨j, rfl, hj, HI, HW⟩ := hrel
      rename World => wr
      by_cases hlt : j < l.length
      · have hlt' := hlt
        obtain ⟨gb, off, ea, hgb, hat⟩ := HC.out j hlt'
        cases ea
        have hgr : x < wr.heap.size := Nat.lt_of_lt_of_le hxl HW.out.size
        obtain ⟨d0, d1, d2⟩ := hat.same (HW.out.block x hxl)
        have HST := hid (erase_step l ci j hlt')
        obtain ⟨y, hy⟩ : ∃ y, y = l[j] := ⟨_, rfl⟩
        rw [← hy] at d0 d1 d2 HST
        clear hy hat hlt'
        obtain ⟨yf, ya, yp⟩ := y
        simp only [Nat.zero_add] at d0 d1 d2
        by_cases hjc : j = ci
        · subst hjc
          rw [if_pos rfl, List.append_nil] at HST
          go_wp2
          go_roundw
          case rel => exact ⟨j + 1, by go_num, by omega, hid (by rw [HST.out]; exact HI.out.below (below_alloc _ _)), hid (HW.out.next (below_alloc _ _))⟩
          case measure => simp [intOf]; omega
        · rw [if_neg hjc] at HST
          have hjb : ((j : Int) == (ci : Int)) = false := by rw [beq_eq_false_iff_ne]; omega
          have hle : ((l.take j).eraseIdx ci).length ≤ 1000 := by
            have h1 := List.length_eraseIdx_le (l.take j) ci
            have h2 := List.length_take_le j l
            omega
          have HI1 := hid (HI.out.below (below_alloc wr (.cells #[.int .i64 yf, .int .i64 ya, .string yp] 34)))
          have HW1 := hid (HW.out.next (below_alloc wr (.cells #[.int .i64 yf, .int .i64 ya, .string yp] 34)))
          go_wp2_with (first
            | (at_builtin; refine appF rfl (.tmp 27) (.tmp 29) rfl w2.heap.size _ _ ((l.take j).eraseIdx ci) [⟨yf, ya, yp⟩] rfl rfl (HI1.out.below (below_alloc _ _)) (flie_new _ _ (by simp) yf ya yp) (by simp) (by simp only [List.length_cons, List.length_nil]; omega) (HW1.out.next (below_alloc _ _)).size ?_; intro v3 w3 r3 b3 _ _; have HR3 := hid r3; have HW3 := hid ((HW1.out.next (below_alloc _ _)).trans b3); clear r3 b3))
          go_roundw
          case rel => exact ⟨j + 1, by go_num, by omega, hid (by rw [HST.out]; exact HR3.out), HW3⟩
          case measure => simp [intOf]; omega
      · have hjl : j = l.length := by omega
        have HE : Hid ((l.take j).eraseIdx ci = l.eraseIdx ci) := hid (by rw [hjl, List.take_length])
        rw [HE.out] at HI
        have hrs : w2.heap.size ≠ r := by have := lt_of_block HR1.out; omega
        have c0' : ∃ v, wr.cell? ⟨r, 0, none⟩ = some v := ⟨_, by simp only [World.cell?, HW.out.block r (lt_of_block HR1.out), HR1.out]; rfl⟩
        obtain ⟨v0, c0'⟩ := c0'
        have f0 : wr.frozen? ⟨r, 0, none⟩ = false := by simp [World.frozen?, HW.out.block r (lt_of_block HR1.out), HR1.out]
        clear hjl
        obtain ⟨ao6, cap6, hv6, _, _⟩ := HI.out.len
        subst hv6
        obtain ⟨n6, hn6⟩ : ∃ n, n = (l.eraseIdx ci).length := ⟨_, rfl⟩
        rw [← hn6] at HI
        rw [← hn6]
        clear hn6
        go_wp2
        go_ret
        refine ⟨rfl, ⟨_, set_at ((HW.out.block r (lt_of_block HR1.out)).trans HR1.out) 0 _, ?_⟩, ?_⟩
        · have hb2 : base ≤ w2.heap.size := Nat.le_trans hbase HB.out.size
          refine (HI.out.mono hb2).frame fun b hb => Below.heap_setCell _ _ _ _ ?_
          have := (HI.out.own b hb).1
          have := lt_of_block HR1.out
          show b ≠ r
          omega
        · exact ((KR.of_below HB.out).trans (KR.of_below HW.out)).trans (KR.setr _ _)
  | false =>
    rw [ho] at HF
    simp only [Bool.false_eq_true, if_false] at HF ⊢
    clear ho
    go_enter Tryd.func22, Tryd.ntmps22
    go_wp2_with (first | (go_at_call 10; refine (HF.out).mono ?_; rintro e w2 ⟨rfl, b2⟩; have HB := hid b2; clear b2))
    go_ret
    exact ⟨rfl, (HH.out.below HB.out).ri, KR.of_below HB.out⟩
end Go.Proofs.YtnoocgodnpjnoaaDoor
