import Derived.Test.YtfjoajcfpldniaaRc
import Derived.BigRegion
namespace Go.Proofs.Ytfjoajcfpldniaa
open Go.RowKit Go.Maps

theorem drew_below (b : Nat) (w : World) : Below b w w.drew := ⟨rfl, rfl, rfl, Nat.le_refl _, fun _ _ => rfl⟩
theorem RC.nz {B g : Nat} {w : World} {N : Nat} {P : List Fm} {gb n cap : Nat} (h : RC B g w N P (.slice (some ⟨gb, 0, none⟩) n cap)) : gb ≠ g := by
  intro e
  subst e
  exact h.ne rfl
theorem RC.setF {B g : Nat} {w : World} {N : Nat} {P : List Fm} {gb n cap : Nat} (h : RC B g w N P (.slice (some ⟨gb, 0, none⟩) n cap)) (i : Nat) (hi : i < P.length) (t : Nat) (ht : t < 4) (f : Fm) (x : Value) (hf : encP f = (encP P[i]).set t x) : RC B g (w.setCell ⟨gb, i * 4 + t, none⟩ x) N (P.set i f) (.slice (some ⟨gb, 0, none⟩) n cap) :=
  ⟨(heap_setCell_other _ _ _ _ (fun e => h.nz e.symm)).trans h.c, h.r.set i hi t ht f x hf, h.b⟩
theorem FRow.low {base : Nat} {w : World} {gb n cap : Nat} {P : List Fm} (h : FRow base w (.slice (some ⟨gb, 0, none⟩) n cap) P) (i : Nat) (x : Value) : Below base w (w.setCell ⟨gb, i, none⟩ x) := by
  obtain ⟨hb, cur, hc⟩ := h.own gb rfl
  exact ⟨rfl, rfl, rfl, by simp, fun k hk => heap_setCell_other _ _ _ _ (by simp; omega)⟩
section
variable {B g : Nat} {N : Nat} {P : List Fm} {lv : Value}
set_option maxRecDepth 100000 in
theorem rlook (k : Int) (w : World) (h : RC B g w N P lv) (hn : (P.map (·.b)).Nodup) (hP : P.length ≤ 100) : Calls Try.prog 26 #[.pointer (some ⟨g, 0, none⟩), .int .i64 k] w fun e w' => e = .returned (.tuple #[.string (lookR P k).1, .bool (lookR P k).2.1]) ∧ ∃ lv', RC B g w' N (lookR P k).2.2 lv' ∧ OR w w' ∧ Below B w w' := by
  have HF := hid (rfind k w h)
  have hBw : B ≤ w.heap.size := Nat.le_trans h.b (Nat.le_of_lt h.lt)
  have HH := hid h
  unfold lookR
  rcases idx_cases P k with ⟨e1, e2⟩ | ⟨i, hi, e1, e2, e3⟩
  · rw [e2]
    rw [e1] at HF
    clear h e1 e2 hn
    go_enter Try.func26, Try.ntmps26
    go_wp2_with (first
      | (go_at_call 35; refine (HF.out).mono ?_; rintro e w2 ⟨rfl, hb2⟩))
    go_ret2
    exact ⟨rfl, _, HH.out.below hb2, OR.of_below hb2, hb2.mono hBw⟩
  · rw [e3]
    rw [e1] at HF
    have HE := hid (erase_drop P hn i hi)
    rw [e2] at HE
    obtain ⟨c0, c1⟩ := h.cells
    clear h e1 e2 e3 hn c0 c1
    simp only
    rw [← HE.out]
    have HU := hid (fun w2 hR => ruse (B := B) (g := g) (N := N) (P := P) (lv := lv) i hi hP w2 hR)
    obtain ⟨f, hf⟩ : ∃ f, f = P[i] := ⟨_, rfl⟩
    rw [← hf] at HU ⊢
    have HFe := hid hf
    obtain ⟨Q, hQ⟩ : ∃ Q, Q = P.eraseIdx i ++ [f] := ⟨_, rfl⟩
    rw [← hQ] at HU ⊢
    clear hf hQ HE
    go_enter Try.func26, Try.ntmps26
    go_wp2_with (go_at_call 35; fail)
    refine (HF.out).mono ?_
    rintro e w2 ⟨rfl, hb2⟩
    have HR := hid (HH.out.below hb2)
    have HB2 := hid hb2
    have HU2 := hid (HU.out w2 HR.out)
    obtain ⟨c0, c1⟩ := HR.out.cells
    obtain ⟨ao, cap, rfl, hlc, hcm⟩ := HR.out.r.len
    unfold maxLen at hcm
    obtain ⟨gb, rfl, hgl2, _, m0, m1, m2, m3, _⟩ := HR.out.r.cell i hi
    have hgl := HR.out.lt
    clear hb2
    rw [← HFe.out] at m0 m1 m2 m3
    clear HF
    go_wp2_with (go_at_call 42; fail)
    refine (HU2.out).mono ?_
    rintro e w3 ⟨rfl, lv3, hR3, hO3, hB3⟩
    go_wp2
    go_ret2
    exact ⟨rfl, _, hR3, (OR.of_below HB2.out).trans hO3, (HB2.out.mono hBw).trans hB3⟩
set_option maxRecDepth 100000 in
theorem rpin (k : Int) (w : World) (h : RC B g w N P lv) (hn : (P.map (·.b)).Nodup) (hr : ∀ f ∈ P, 0 ≤ f.p ∧ f.p ≤ 90000) : Calls Try.prog 28 #[.pointer (some ⟨g, 0, none⟩), .int .i64 k] w fun e w' => e = .returned (.int .i64 (pinR P k).1) ∧ ∃ lv', RC B g w' N (pinR P k).2 lv' ∧ OR w w' ∧ Below B w w' := by
  have HF := hid (rfind k w h)
  have hBw : B ≤ w.heap.size := Nat.le_trans h.b (Nat.le_of_lt h.lt)
  have HH := hid h
  unfold pinR
  rcases idx_cases P k with ⟨e1, e2⟩ | ⟨i, hi, e1, e2, e3⟩
  · rw [e2]
    rw [e1] at HF
    clear h e1 e2 hn
    go_enter Try.func28, Try.ntmps28
    go_wp2_with (first
      | (go_at_call 35; refine (HF.out).mono ?_; rintro e w2 ⟨rfl, hb2⟩))
    go_ret
    exact ⟨rfl, _, HH.out.below hb2, OR.of_below hb2, hb2.mono hBw⟩
  · rw [e3]
    rw [e1] at HF
    obtain ⟨r0, r1⟩ := hr P[i] (List.getElem_mem hi)
    have HS := hid (set_setP P hn i hi { P[i] with p := P[i].p + 1 } rfl)
    simp only
    rw [← HS.out]
    clear h e1 e2 e3 hn hr HS
    obtain ⟨f, hf⟩ : ∃ f, f = P[i] := ⟨_, rfl⟩
    have HFe := hid hf
    obtain ⟨Q, hQ⟩ : ∃ Q, Q = P.set i { f with p := f.p + 1 } := ⟨_, rfl⟩
    have HQe := hid hQ
    rw [← hf, ← hQ]
    rw [← hf] at r0 r1
    clear hf hQ
    go_enter Try.func28, Try.ntmps28
    go_wp2_with (go_at_call 35; fail)
    refine (HF.out).mono ?_
    rintro e w2 ⟨rfl, hb2⟩
    have HR := hid (HH.out.below hb2)
    have HB2 := hid hb2
    obtain ⟨c0, c1⟩ := HR.out.cells
    obtain ⟨ao, cap, rfl, hlc, hcm⟩ := HR.out.r.len
    unfold maxLen at hcm
    obtain ⟨gb, rfl, hgl2, _, m0, m1, m2, m3, hfz⟩ := HR.out.r.cell i hi
    have hgl := HR.out.lt
    have HX := hid (HR.out.setF i hi 1 (by decide) { f with p := f.p + 1 } (.int .i64 (f.p + 1)) (by rw [HFe.out]; rfl))
    have HO := hid (HR.out.r.or (i * 4 + 1) (.int .i64 (f.p + 1)))
    have HL := hid (HR.out.r.low (i * 4 + 1) (.int .i64 (f.p + 1)))
    rw [← HQe.out] at HX
    rw [← HFe.out] at m0 m1 m2 m3
    clear hb2 HF
    go_wp2
    go_region
    go_wp2
    go_ret
    exact ⟨rfl, _, HX.out.below (drew_below _ _), (OR.of_below HB2.out).trans (HO.out.trans (OR.of_below (drew_below _ _))), (HB2.out.mono hBw).trans (HL.out.trans (drew_below _ _))⟩
set_option maxRecDepth 100000 in
theorem runpin (k : Int) (w : World) (h : RC B g w N P lv) (hn : (P.map (·.b)).Nodup) (hr : ∀ f ∈ P, 0 ≤ f.p ∧ f.p ≤ 90000) : Calls Try.prog 29 #[.pointer (some ⟨g, 0, none⟩), .int .i64 k] w fun e w' => e = .returned (.int .i64 (unpinR P k).1) ∧ ∃ lv', RC B g w' N (unpinR P k).2 lv' ∧ OR w w' ∧ Below B w w' := by
  have HF := hid (rfind k w h)
  have hBw : B ≤ w.heap.size := Nat.le_trans h.b (Nat.le_of_lt h.lt)
  have HH := hid h
  unfold unpinR
  rcases idx_cases P k with ⟨e1, e2⟩ | ⟨i, hi, e1, e2, e3⟩
  · rw [e2]
    rw [e1] at HF
    clear h e1 e2 hn
    go_enter Try.func29, Try.ntmps29
    go_wp2_with (first
      | (go_at_call 35; refine (HF.out).mono ?_; rintro e w2 ⟨rfl, hb2⟩))
    go_ret
    exact ⟨rfl, _, HH.out.below hb2, OR.of_below hb2, hb2.mono hBw⟩
  · rw [e3]
    rw [e1] at HF
    obtain ⟨r0, r1⟩ := hr P[i] (List.getElem_mem hi)
    have HS := hid (set_setP P hn i hi { P[i] with p := P[i].p - 1 } rfl)
    simp only
    by_cases hz : P[i].p = 0
    · rw [if_pos hz]
      clear h e1 e2 e3 hn hr HS
      go_enter Try.func29, Try.ntmps29
      go_wp2_with (go_at_call 35; fail)
      refine (HF.out).mono ?_
      rintro e w2 ⟨rfl, hb2⟩
      have HR := hid (HH.out.below hb2)
      have HB2 := hid hb2
      obtain ⟨c0, c1⟩ := HR.out.cells
      obtain ⟨ao, cap, rfl, hlc, hcm⟩ := HR.out.r.len
      unfold maxLen at hcm
      obtain ⟨gb, rfl, hgl2, _, m0, m1, m2, m3, hfz⟩ := HR.out.r.cell i hi
      have hgl := HR.out.lt
      rw [hz] at m1
      clear hb2 hz r0 r1 HF
      go_wp2
      go_ret
      exact ⟨rfl, _, HR.out, OR.of_below HB2.out, HB2.out.mono hBw⟩
    · rw [if_neg hz, ← HS.out]
      clear h e1 e2 e3 hn hr HS
      obtain ⟨f, hf⟩ : ∃ f, f = P[i] := ⟨_, rfl⟩
      have HFe := hid hf
      obtain ⟨Q, hQ⟩ : ∃ Q, Q = P.set i { f with p := f.p - 1 } := ⟨_, rfl⟩
      have HQe := hid hQ
      rw [← hf, ← hQ]
      rw [← hf] at r0 r1 hz
      clear hf hQ
      go_enter Try.func29, Try.ntmps29
      go_wp2_with (go_at_call 35; fail)
      refine (HF.out).mono ?_
      rintro e w2 ⟨rfl, hb2⟩
      have HR := hid (HH.out.below hb2)
      have HB2 := hid hb2
      obtain ⟨c0, c1⟩ := HR.out.cells
      obtain ⟨ao, cap, rfl, hlc, hcm⟩ := HR.out.r.len
      unfold maxLen at hcm
      obtain ⟨gb, rfl, hgl2, _, m0, m1, m2, m3, hfz⟩ := HR.out.r.cell i hi
      have hgl := HR.out.lt
      have HX := hid (HR.out.setF i hi 1 (by decide) { f with p := f.p - 1 } (.int .i64 (f.p - 1)) (by rw [HFe.out]; rfl))
      have HO := hid (HR.out.r.or (i * 4 + 1) (.int .i64 (f.p - 1)))
      have HL := hid (HR.out.r.low (i * 4 + 1) (.int .i64 (f.p - 1)))
      rw [← HQe.out] at HX
      rw [← HFe.out] at m0 m1 m2 m3
      have hzb : (f.p == 0) = false := by simp [hz]
      clear hz
      clear hb2 HF
      go_wp2
      go_region
      go_wp2
      go_ret
      exact ⟨rfl, _, HX.out.below (drew_below _ _), (OR.of_below HB2.out).trans (HO.out.trans (OR.of_below (drew_below _ _))), (HB2.out.mono hBw).trans (HL.out.trans (drew_below _ _))⟩
set_option maxRecDepth 100000 in
theorem rstore (k : Int) (d : ByteArray) (w : World) (h : RC B g w N P lv) (hn : (P.map (·.b)).Nodup) (hP : P.length ≤ 100) : Calls Try.prog 27 #[.pointer (some ⟨g, 0, none⟩), .int .i64 k, .string d] w fun e w' => e = .returned (.int .i64 (storeR P k d).1) ∧ ∃ lv', RC B g w' N (storeR P k d).2 lv' ∧ OR w w' ∧ Below B w w' := by
  have HRi := hid (fun w => right_any k d w)
  have HF := hid (rfind k w h)
  have hBw : B ≤ w.heap.size := Nat.le_trans h.b (Nat.le_of_lt h.lt)
  have HH := hid h
  unfold storeR
  by_cases hb : isB k d = false
  · rw [if_pos hb]
    rw [hb] at HRi
    clear h hn hb
    go_enter Try.func27, Try.ntmps27
    go_wp2_with (first
      | (go_at_call 40; refine (HRi.out _).mono ?_; rintro e w2 ⟨rfl, hw⟩; have hw := hw.symm; subst hw))
    go_ret
    exact ⟨rfl, _, HH.out, OR.refl _, Below.refl _ _⟩
  · rw [if_neg hb]
    rw [Bool.not_eq_false] at hb
    rw [hb] at HRi
    clear hb
    rcases idx_cases P k with ⟨e1, e2⟩ | ⟨i, hi, e1, e2, e3⟩
    · rw [e2]
      rw [e1] at HF
      clear h e1 e2 hn
      go_enter Try.func27, Try.ntmps27
      go_wp2_with (first
        | (go_at_call 40; refine (HRi.out _).mono ?_; rintro e w2 ⟨rfl, hw⟩; have hw := hw.symm; subst hw)
        | (go_at_call 35; refine (HF.out).mono ?_; rintro e w2 ⟨rfl, hb2⟩))
      go_ret
      exact ⟨rfl, _, HH.out.below hb2, OR.of_below hb2, hb2.mono hBw⟩
    · rw [e3]
      rw [e1] at HF
      have HE := hid (erase_drop P hn i hi)
      rw [e2] at HE
      simp only
      rw [← HE.out]
      clear h e1 e2 e3 hn HE
      have HFe : Hid (∃ f, f = P[i]) := hid ⟨_, rfl⟩
      obtain ⟨f, hf⟩ := HFe.out
      clear HFe
      have HFe := hid hf
      rw [← hf]
      clear hf
      have HU : Hid (∀ w2 lv, RC B g w2 N ((P.set i { f with d := d }).set i { f with d := d, y := true }) lv → _) := hid (fun w2 lv hR => ruse (B := B) (g := g) (N := N) (lv := lv) i (by simpa using hi) (by simpa using hP) w2 hR)
      have HQ : Hid (((P.set i { f with d := d }).set i { f with d := d, y := true }).eraseIdx i ++ [((P.set i { f with d := d }).set i { f with d := d, y := true })[i]'(by simpa using hi)] = P.eraseIdx i ++ [{ f with d := d, y := true }]) := hid (by simp [List.eraseIdx_set_eq])
      simp only [HQ.out] at HU
      clear HQ
      obtain ⟨Q, hQ⟩ : ∃ Q, Q = P.eraseIdx i ++ [{ f with d := d, y := true }] := ⟨_, rfl⟩
      rw [← hQ]
      simp only [← hQ] at HU
      clear hQ
      go_enter Try.func27, Try.ntmps27
      go_wp2_with (first
        | (go_at_call 40; refine (HRi.out _).mono ?_; rintro e w2 ⟨rfl, hw⟩; have hw := hw.symm; subst hw)
        | (go_at_call 35; fail))
      refine (HF.out).mono ?_
      rintro e w2 ⟨rfl, hb2⟩
      have HR := hid (HH.out.below hb2)
      have HB2 := hid hb2
      obtain ⟨c0, c1⟩ := HR.out.cells
      obtain ⟨ao, cap, rfl, hlc, hcm⟩ := HR.out.r.len
      unfold maxLen at hcm
      obtain ⟨gb, rfl, hgl2, _, m0, m1, m2, m3, hfz⟩ := HR.out.r.cell i hi
      have hgl := HR.out.lt
      have hne := HR.out.nz
      have HX := hid (HR.out.setF i hi 2 (by decide) { f with d := d } (.string d) (by rw [HFe.out]; rfl))
      have HX2 := hid (HX.out.setF i (by simpa using hi) 3 (by decide) { f with d := d, y := true } (.bool true) (by rw [List.getElem_set_self]; rfl))
      have HO := hid ((HR.out.r.or (i * 4 + 2) (.string d)).trans (HX.out.r.or (i * 4 + 3) (.bool true)))
      have HL := hid ((HR.out.r.low (i * 4 + 2) (.string d)).trans (HX.out.r.low (i * 4 + 3) (.bool true)))
      have HU2 := hid (HU.out _ _ HX2.out)
      rw [← HFe.out] at m0 m1 m2 m3
      clear hb2 HF HU
      go_wp2_with (go_at_call 42; fail)
      refine (HU2.out).mono ?_
      rintro e w3 ⟨rfl, lv3, hR3, hO3, hB3⟩
      go_wp2
      go_ret
      exact ⟨rfl, _, hR3, (OR.of_below HB2.out).trans (HO.out.trans hO3), (HB2.out.mono hBw).trans (HL.out.trans hB3)⟩
end
end Go.Proofs.Ytfjoajcfpldniaa
