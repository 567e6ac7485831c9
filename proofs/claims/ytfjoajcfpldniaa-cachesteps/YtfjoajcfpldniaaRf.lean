import Derived.Test.YtfjoajcfpldniaaRd
namespace Go.Proofs.Ytfjoajcfpldniaa
open Go.RowKit Go.Maps

theorem idle_at {P : List Fm} {q : Nat} (hq : q < P.length) (he : idleP P[q] = true) (hno : ∀ j (hj : j < P.length), j < q → idleP P[j] = false) : P.find? idleP = some P[q] := by
  rw [List.find?_eq_some_iff_getElem]
  exact ⟨he, q, hq, rfl, fun j hj => by simp [hno j (by omega) hj]⟩
theorem idle_no {P : List Fm} (hno : ∀ j (hj : j < P.length), idleP P[j] = false) : P.find? idleP = none := by
  rw [List.find?_eq_none]
  intro x hx
  obtain ⟨j, hj, rfl⟩ := List.getElem_of_mem hx
  simp [hno j hj]
section
variable {B g : Nat} {N : Nat} {P : List Fm} {lv : Value}
set_option maxRecDepth 100000 in
theorem rload (k : Int) (d : ByteArray) (w : World) (h : RC B g w N P lv) (hn : (P.map (·.b)).Nodup) (hP : P.length ≤ 100) (hr : ∀ f ∈ P, 0 ≤ f.p) : Calls Try.prog 25 #[.pointer (some ⟨g, 0, none⟩), .int .i64 k, .string d] w fun e w' => e = .returned (.tuple #[.int .i64 (loadR N P k d).1, .int .i64 (loadR N P k d).2.1]) ∧ ∃ lv', RC B g w' N (loadR N P k d).2.2 lv' ∧ OR w w' ∧ Below B w w' := by
  have HRi := hid (fun w => right_any k d w)
  have HF := hid (rfind k w h)
  have hBw : B ≤ w.heap.size := Nat.le_trans h.b (Nat.le_of_lt h.lt)
  have HH := hid h
  by_cases hb : isB k d = false
  · rw [show loadR N P k d = (0, 1, P) by unfold loadR; rw [if_pos hb]]
    rw [hb] at HRi
    clear h hn hb hr
    go_enter Try.func25, Try.ntmps25
    go_wp2_with (first
      | (go_at_call 40; refine (HRi.out _).mono ?_; rintro e w2 ⟨rfl, hw⟩; have hw := hw.symm; subst hw))
    go_ret2
    exact ⟨rfl, _, HH.out, OR.refl _, Below.refl _ _⟩
  · have hb' := hb
    rw [Bool.not_eq_false] at hb'
    rw [hb'] at HRi
    clear hb'
    rcases idx_cases P k with ⟨e1, e2⟩ | ⟨i, hi, e1, e2, e3⟩
    · rw [e1] at HF
      have HED := hid (fun i hi => erase_drop P hn i hi)
      have HHr := hid hr
      clear h e1 hn hr
      by_cases hl : P.length < N
      · rw [show loadR N P k d = (-1, 0, P ++ [⟨k, 0, false, d⟩]) by unfold loadR; rw [if_neg hb, e2]; simp only; rw [if_pos hl]]
        clear e2 hb
        go_enter Try.func25, Try.ntmps25
        go_wp2_with (first
          | (go_at_call 40; refine (HRi.out _).mono ?_; rintro e w2 ⟨rfl, hw⟩; have hw := hw.symm; subst hw)
          | (go_at_call 35; fail))
        refine (HF.out).mono ?_
        rintro e w2 ⟨rfl, hb2⟩
        have HR := hid (HH.out.below hb2)
        have HB2 := hid hb2
        obtain ⟨c0, c1⟩ := HR.out.cells
        obtain ⟨ao, cap, rfl, hlc, hcm⟩ := HR.out.r.len
        unfold maxLen at hcm
        have hgl := HR.out.lt
        have hfz := frees HR.out.c
        have hgb := HR.out.b
        clear hb2 HF
        go_wp2
        go_quiet ((fail))
        have HB3 := hid (HB2.out.drewN nq)
        have HR3 := hid (HH.out.below HB3.out)
        clear HR HB2 c0 c1 hgl hfz
        obtain ⟨w3, hw3⟩ : ∃ w3, w3 = w2.drewN nq := ⟨_, rfl⟩
        rw [← hw3] at HB3 HR3 ⊢
        clear hw3
        obtain ⟨c0, c1⟩ := HR3.out.cells
        have hgl := HR3.out.lt
        have hfz := frees HR3.out.c
        have hs3 := HB3.out.size
        have hbB : B ≤ w3.heap.size := by omega
        have HRw := hid HR3.out.r
        have HE := hid hP
        have HAp := hid (HR3.out.r.apart HR3.out.c (by decide))
        go_wp2_with (first
          | (at_builtin; refine pushF (w0 := w3) rfl (.tmp 86) (.tmp 90) rfl B w3.heap.size _ P ⟨k, 0, false, d⟩ rfl rfl rfl HRw.out (by have := HE.out; omega) hbB ?_
             intro v6 w6 hI6 hb6 ho6 hk6
             obtain ⟨o6, n6, hv6, l6, k6⟩ := hI6.len
             obtain ⟨q6, hq6⟩ : ∃ q6, q6 = (P ++ [(⟨k, 0, false, d⟩ : Fm)]).length := ⟨_, rfl⟩
             rw [← hq6] at hv6
             subst hv6
             clear hq6 l6 k6
             have hc6 := (hk6 g HR3.out.lt HAp.out).trans HR3.out.c
             have hgl := lt_of_block hc6
             obtain ⟨y0, y1⟩ := two_cellsK hc6
             have hfz := frees hc6
             have HP := hid (RC.put hc6 hgb hI6)))
        go_ret2
        exact ⟨rfl, _, HP.out.1, (OR.of_below HB3.out).trans (ho6.trans HP.out.2.1), (HB3.out.mono hBw).trans (hb6.trans HP.out.2.2)⟩
      · have HRn : Hid ((∀ j (hj : j < P.length), idleP P[j] = false) → loadR N P k d = (0, 5, P)) := hid (fun hno => by unfold loadR; rw [if_neg hb, e2]; simp only; rw [if_neg hl, idle_no hno])
        have HRs : Hid (∀ q (hq : q < P.length), idleP P[q] = true → (∀ j (hj : j < P.length), j < q → idleP P[j] = false) → loadR N P k d = (P[q].b, 0, P.eraseIdx q ++ [⟨k, 0, false, d⟩])) := hid (fun q hq he hno => by unfold loadR; rw [if_neg hb, e2]; simp only; rw [if_neg hl, idle_at hq he hno, HED.out q hq])
        obtain ⟨R, hR⟩ : ∃ R, R = loadR N P k d := ⟨_, rfl⟩
        rw [← hR] at HRn HRs ⊢
        clear hR HED e2 hb
        obtain ⟨r1, r2, r3⟩ := R
        simp only
        go_enter Try.func25, Try.ntmps25
        go_wp2_with (first
          | (go_at_call 40; refine (HRi.out _).mono ?_; rintro e w2 ⟨rfl, hw⟩; have hw := hw.symm; subst hw)
          | (go_at_call 35; fail))
        refine (HF.out).mono ?_
        rintro e w2 ⟨rfl, hb2⟩
        have HR := hid (HH.out.below hb2)
        have HB2 := hid hb2
        obtain ⟨c0, c1⟩ := HR.out.cells
        obtain ⟨ao, cap, rfl, hlc, hcm⟩ := HR.out.r.len
        unfold maxLen at hcm
        have hgl := HR.out.lt
        have hfz := frees HR.out.c
        have hgb := HR.out.b
        clear hb2 HF
        go_wp2
        go_quiet ((fail))
        have HB3 := hid (HB2.out.drewN nq)
        have HR3 := hid (HH.out.below HB3.out)
        clear HR HB2 c0 c1 hgl hfz
        obtain ⟨w3, hw3⟩ : ∃ w3, w3 = w2.drewN nq := ⟨_, rfl⟩
        rw [← hw3] at HB3 HR3 ⊢
        clear hw3
        obtain ⟨c0, c1⟩ := HR3.out.cells
        have hgl := HR3.out.lt
        go_wp2
        go_loopw [9] (fun iv wr => ∃ q : Nat, iv = .int .i64 q ∧ q ≤ P.length ∧ (∀ j (hj : j < P.length), j < q → idleP P[j] = false) ∧ wr = w3) (fun iv _ => P.length - (intOf iv).toNat)
        case atStart => exact ⟨0, rfl, Nat.zero_le _, fun j hj h => by omega, rfl⟩
        case round =>
          obtain ⟨q, rfl, hq, hno, rfl⟩ := hrel
          have HNo := hid hno
          clear hno
          by_cases hlt : q < P.length
          · obtain ⟨gb, rfl, hgl2, _, m0, m1, m2, m3, _⟩ := HR3.out.r.cell q hlt
            have hp0 := HHr.out P[q] (List.getElem_mem hlt)
            have HG : Hid (idleP P[q] = false → ∀ j (hj : j < P.length), j < q + 1 → idleP P[j] = false) := hid (fun hne j hj hjq => by
              by_cases e : j = q
              · subst e; exact hne
              · exact HNo.out j hj (by omega))
            have HS := hid (fun he => HRs.out q hlt he HNo.out)
            have HEr := hid (rwithout q hlt hP wr HR3.out.r)
            have HE := hid (show (P.eraseIdx q).length ≤ 100 from Nat.le_trans (List.length_eraseIdx_le P q) hP)
            obtain ⟨Q, hQ⟩ : ∃ Q, Q = P.eraseIdx q := ⟨_, rfl⟩
            rw [← hQ] at HS HEr HE
            obtain ⟨f, hf⟩ : ∃ f, f = P[q] := ⟨_, rfl⟩
            rw [← hf] at m0 m1 m2 m3 hp0 HG HS
            clear hf hQ
            obtain ⟨fb, fp, fy, fd⟩ := f
            simp only at m0 m1 m2 m3 hp0 HS
            by_cases hz : fp = 0
            · subst hz
              cases fy
              · have hS := HS.out rfl
                injection hS with hs1 hs2
                injection hs2 with hs2 hs3
                have hs1 := hs1.symm
                have hs2 := hs2.symm
                have hs3 := hs3.symm
                subst hs1 hs2 hs3
                clear hp0 HG HS
                have hqn : ((q : Int) == (P.length : Int)) = false := beq_eq_false_iff_ne.2 (by omega)
                go_wp2_with (go_at_call 41; fail)
                refine (HEr.out).mono ?_
                rintro e w4 ⟨v4, rfl, hF4, hb4⟩
                have HR4 := hid (HR3.out.below hb4)
                have HB4 := hid (HB3.out.next hb4)
                have hs3 := HB3.out.size
                have HF4 := hid (hF4.base (b' := B) (by omega))
                obtain ⟨o4, n4, rfl, l4, k4⟩ := HF4.out.len
                unfold maxLen at k4
                have HP4 := hid (RC.put HR4.out.c hgb HF4.out)
                clear hF4 hb4 c0 c1 hgl m0 m1 m2 m3 HEr
                obtain ⟨c0, c1⟩ := HR4.out.cells
                have hgl := HR4.out.lt
                have hfz := frees HR4.out.c
                have hs4 := HB4.out.size
                have hbB0 : B ≤ w4.heap.size := by omega
                go_upto_region 14 with fail
                obtain ⟨w5, hw5⟩ : ∃ w5, w5 = w4.setCell ⟨g, 1, none⟩ (.slice o4 Q.length n4) := ⟨_, rfl⟩
                have hbB : B ≤ w5.heap.size := by rw [hw5]; simpa using hbB0
                rw [← hw5] at HP4 ⊢
                clear hw5 c0 c1 hgl hfz
                have HR5 := hid HP4.out.1
                obtain ⟨c0, c1⟩ := HR5.out.cells
                have hgl := HR5.out.lt
                have hfz := frees HR5.out.c
                have HRw := hid HR5.out.r
                have HAp := hid (HR5.out.r.apart HR5.out.c (by decide))
                go_wp2_with (first
                  | (at_builtin; refine pushF (w0 := w5) rfl (.tmp 86) (.tmp 90) rfl B w5.heap.size _ Q ⟨k, 0, false, d⟩ rfl rfl rfl HRw.out (by have := HE.out; omega) hbB ?_
                     intro v6 w6 hI6 hb6 ho6 hk6
                     obtain ⟨o6, n6, hv6, l6, k6⟩ := hI6.len
                     obtain ⟨q6, hq6⟩ : ∃ q6, q6 = (Q ++ [(⟨k, 0, false, d⟩ : Fm)]).length := ⟨_, rfl⟩
                     rw [← hq6] at hv6
                     subst hv6
                     clear hq6 l6 k6
                     have hc6 := (hk6 g HR5.out.lt HAp.out).trans HR5.out.c
                     have hgl := lt_of_block hc6
                     obtain ⟨y0, y1⟩ := two_cellsK hc6
                     have hfz := frees hc6
                     have HP := hid (RC.put hc6 hgb hI6)))
                go_ret2
                exact ⟨rfl, _, HP.out.1, (OR.of_below HB4.out).trans (HP4.out.2.1.trans (ho6.trans HP.out.2.1)), (HB4.out.mono hBw).trans (HP4.out.2.2.trans (hb6.trans HP.out.2.2))⟩
              · have HN := hid (HG.out rfl)
                clear HG HS HEr hp0
                go_wp2
                go_roundw
                case rel => exact ⟨q + 1, by go_num, by omega, HN.out, by trivial⟩
                case measure => simp [intOf]; omega
            · have HN := hid (HG.out (by simp [idleP, hz]))
              have hpp : 0 < fp := by omega
              clear HG HS HEr hp0 hz
              go_wp2
              go_roundw
              case rel => exact ⟨q + 1, by go_num, by omega, HN.out, by trivial⟩
              case measure => simp [intOf]; omega
          · have hqe : q = P.length := by omega
            subst hqe
            have hS := HRn.out (fun j hj => HNo.out j hj hj)
            injection hS with hs1 hs2
            injection hs2 with hs2 hs3
            subst hs1 hs2 hs3
            go_wp2
            go_ret2
            exact ⟨rfl, ⟨_, HR3.out⟩, OR.of_below HB3.out, HB3.out.mono hBw⟩
    · rw [show loadR N P k d = (0, 7, P) by unfold loadR; rw [if_neg hb, e3]]
      rw [e1] at HF
      clear h e1 e2 e3 hn hr hb
      go_enter Try.func25, Try.ntmps25
      go_wp2_with (first
        | (go_at_call 40; refine (HRi.out _).mono ?_; rintro e w2 ⟨rfl, hw⟩; have hw := hw.symm; subst hw)
        | (go_at_call 35; refine (HF.out).mono ?_; rintro e w2 ⟨rfl, hb2⟩))
      go_ret2
      exact ⟨rfl, _, HH.out.below hb2, OR.of_below hb2, hb2.mono hBw⟩
end
end Go.Proofs.Ytfjoajcfpldniaa
