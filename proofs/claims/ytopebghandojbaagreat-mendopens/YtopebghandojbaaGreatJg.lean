import Derived.Test.YtopebghandojbaaGreatJf
import Derived.Deep.DeepCutAuto
import Derived.Deep.CutBlock
import Derived.BigRegion
namespace Go.Proofs.YtopebghandojbaaGreat
open Go.RowKit Go.Maps
set_option maxRecDepth 100000 in
theorem JIs.set1 {g : Nat} {w : World} {P T F S : Int} {sv : Value} (h : JIs g w P T F sv S) (T' : Int) : JIs g (w.setCell ⟨g, 1, none⟩ (.int .i64 T')) P T' F sv S := by
  unfold JIs at *
  simp [World.setCell, Array.getElem?_modify, h]
set_option maxRecDepth 100000 in
theorem JIs.set2 {g : Nat} {w : World} {P T F S : Int} {sv : Value} (h : JIs g w P T F sv S) (F' : Int) : JIs g (w.setCell ⟨g, 2, none⟩ (.int .i64 F')) P T F' sv S := by
  unfold JIs at *
  simp [World.setCell, Array.getElem?_modify, h]
set_option maxRecDepth 100000 in
theorem JIs.set3 {g : Nat} {w : World} {P T F S : Int} {sv : Value} (h : JIs g w P T F sv S) (sv' : Value) : JIs g (w.setCell ⟨g, 3, none⟩ sv') P T F sv' S := by
  unfold JIs at *
  simp [World.setCell, Array.getElem?_modify, h]
set_option maxRecDepth 100000 in
theorem ILie.take {w : World} {ao : Option Addr} {n cap k : Nat} {l : List Int} (h : ILie w (.slice ao n cap) l) (hk : k ≤ n) : ILie w (.slice ao k cap) (l.take k) := by
  obtain ⟨ao', cap', e, h1, h2, h3⟩ := h
  cases e
  have hl : (l.take k).length = k := by rw [List.length_take]; omega
  refine ⟨ao, cap, by rw [hl], by omega, h2, fun i hi => ?_⟩
  obtain ⟨gb, off, e, hg, c⟩ := h3 i (by omega)
  exact ⟨gb, off, e, hg, by rw [List.getElem_take]; exact c⟩
set_option maxRecDepth 100000 in
theorem run_size3 (w : World) : (sizeOf (Tryz.prog.elem 154)).run Tryz.prog w = .ok 1 w := by
  obtain ⟨i0, hi, hz0, hz1, hz2⟩ := info_parts Tryz.infoR3
  have e : Tryz.prog.elem 154 = 3 := by simp [Program.elem, Tryz.underlying154]
  rw [e]
  simp [sizeOf, typeInfo, hi, hz1]
set_option maxRecDepth 100000 in
theorem under72 : Tryz.prog.underlying 154 = some (.slice (Tryz.prog.elem 154)) := by
  have e : Tryz.prog.elem 154 = 3 := by simp [Program.elem, Tryz.underlying154]
  rw [e]
  exact Tryz.underlying154
set_option maxRecDepth 100000 in
/-- what is left of the row behind a cut -/
theorem JRow.cut {w0 : World} {ao : Option Addr} {cap k : Nat} {l : List Int} (h0 : JRow w0 (.slice ao l.length cap) l) (hlc : l.length ≤ cap) (hcm : cap ≤ maxLen) (hk : k ≤ l.length) :
    ∃ ao' m m', (∀ w : World, (Instr.slice 154 (.slice ao l.length cap) (some (.int .i64 (k : Int))) (some (.int .i64 (l.length : Int))) (some (.int .i64 (l.length : Int)))).run Tryz.prog w = .ok (.slice ao' m m') w) ∧ (Value.slice ao' m m').ownBlock = (Value.slice ao l.length cap).ownBlock ∧ ∀ w : World, JRow w (.slice ao l.length cap) l → JRow w (.slice ao' m m') (l.drop k) := by
  refine ⟨(if l.length = k then ao else ao.map (·.add (k * 1))), l.length - k, l.length - k, fun w => ?_, ?_, fun w h => ?_⟩
  · have := run_slice_lhm (P := Tryz.prog) w 154 ao l.length cap under72 .i64 .i64 .i64 (k : Int) (l.length : Int) (l.length : Int) (by omega) (by omega) (by omega) (by omega)
    rw [this, run_size3]
    simp [Result.andThen, sliced]
  · by_cases h : l.length = k
    · rw [if_pos h]; cases ao <;> rfl
    · rw [if_neg h]
      obtain ⟨e, _⟩ | ⟨b, off, cap', cur, e, _⟩ := h0
      · injection e with e0 e1 e3
        rw [e0]; rfl
      · injection e with e0 e1 e3
        rw [e0]; simp only [Option.map_some, Value.ownBlock, Addr.add]; split <;> rfl
  · have hl : (l.drop k).length = l.length - k := List.length_drop
    obtain ⟨e, e2⟩ | ⟨b, off, cap', cur, e, h1, h2, h3, h4, h5⟩ := h
    · injection e with e0 e1 e3
      subst e0
      subst e2
      have : k = 0 := by simpa using hk
      subst this
      exact .inl ⟨rfl, rfl⟩
    · injection e with e0 e1 e3
      subst e0 e3
      by_cases hkl : l.length = k
      · rw [if_pos hkl]
        refine .inr ⟨b, off, l.length - k, cur, by rw [hl], h1, by omega, by omega, fun i hi => by omega, .inl (by omega)⟩
      · rw [if_neg hkl]
        refine .inr ⟨b, off + k, l.length - k, cur, by rw [hl]; simp [Addr.add], h1, by omega, by omega, fun i hi => ?_, .inl (by omega)⟩
        rw [List.getElem_drop, show off + k + i = off + (k + i) by omega]
        exact h4 (k + i) (by omega)
set_option maxRecDepth 100000 in
/-- the row up to a place -/
theorem run_upto {ao : Option Addr} {n cap k : Nat} (hk : k ≤ cap) (w : World) : (Instr.slice 154 (.slice ao n cap) none (some (.int .i64 (k : Int))) none).run Tryz.prog w = .ok (.slice ao k cap) w := by
  have := run_slice_h (P := Tryz.prog) w 154 ao n cap under72 .i64 (k : Int) (by omega) (by omega)
  rw [this, run_size3]
  have e : (ao.map fun x : Addr => x.add 0) = ao := by cases ao <;> simp [Addr.add]
  simp [Result.andThen, sliced, e]
set_option maxRecDepth 100000 in
set_option maxHeartbeats 4000000 in
theorem jdone (g : Nat) (r : Option Nat) (P : Int) (T F S : Nat) (l : List Int) (k T' : Nat) (hP : 0 < P) (hP2 : P ≤ 300) (hT : T < P) (hF : F + S ≤ 1099511628000) (hk : k ≤ S) (hS : S ≤ l.length) (hl : l.length ≤ 300) (hn : ∀ x ∈ l, 0 ≤ x) (hs : sumI l ≤ P) (hT' : (T' : Int) = ((T : Int) + sumI (l.take k)) % P) (w : World) (h : JS g r w P T F S l) :
    Calls Tryz.prog 106 #[.pointer (some ⟨g, 0, none⟩), .int .i64 (k : Int)] w fun e w' => e = .returned (.tuple #[.agg #[.int .i64 0, .string (hdB T' (F + k) (F + S))], .int .i64 0]) ∧ JS g r w' P T' (F + k) (S - k) (l.drop k) ∧ JFr g r w w' := by
  have hltr := h.lt
  have hgl := hltr.1
  have ht2 := (Int.emod_lt_of_pos ((T : Int) + sumI (l.take k)) hP)
  rw [← hT'] at ht2
  have hsk := sumI_take hn k
  obtain ⟨sv, hr, h1, h2⟩ := h
  obtain ⟨ao, cap, rfl, hlc, hcm⟩ := h2.len
  obtain ⟨ao', m, m', hcut, hown, hrow⟩ := JRow.cut (k := k) h2 hlc hcm (by omega)
  have HOwn := hid hown
  have HRow := hid hrow
  have hupto := fun w => run_upto (ao := ao) (n := l.length) (cap := cap) (k := k) (by omega) w
  have HB0 := hid (below_alloc w (.cells #[.int .i64 0, .string ⟨#[]⟩] 120))
  have HV := hid (box_at w (.cells #[.int .i64 0, .string ⟨#[]⟩] 120))
  have HJ := hid (h1.below HB0.out)
  have HR := hid (h2.below HB0.out)
  obtain ⟨w1, hw1⟩ : ∃ w1, w1 = w.alloc (.cells #[.int .i64 0, .string ⟨#[]⟩] 120) := ⟨_, rfl⟩
  have hz1 : w1.heap.size = w.heap.size + 1 := by rw [hw1]; simp
  rw [← hw1] at HB0 HV HJ HR
  have HC := hid (count_any g P T F S ao l.length cap hP w1 HJ.out)
  have HN := hid (fun w h => none_any g P T F S (.slice ao l.length cap) hP w h)
  have HTot := hid (fun w h => total_any (.slice ao k cap) (l.take k) (fun x hx => hn x (List.mem_of_mem_take hx)) (by omega) w h)
  obtain ⟨A, hA⟩ : ∃ A, A = sumI (l.take k) := ⟨_, rfl⟩
  rw [← hA] at HTot hsk hT'
  have HPl := hid (fun w h => place_any g P T F S (T + A) (.slice ao l.length cap) hP (by omega) w h)
  rw [← hT'] at HPl
  have HT' := hid hT'
  have HWr := hid (fun w h => write_any g P T' (F + k) (S - k) (.slice ao' m m') hP (by omega) (by omega) w h)
  rw [show F + k + (S - k) = F + S by omega] at HWr
  obtain ⟨u, hu⟩ : ∃ u, u = hdB T' (F + k) (F + S) := ⟨_, rfl⟩
  rw [← hu] at HWr ⊢
  clear hu hA hT' hn hown hrow h1 h2
  go_enter Tryz.func106, Tryz.ntmps106
  go_upto_region 6 with (first
    | (go_at_call 102; rw [← hw1]; clear hw1; refine (HC.out).mono ?_; rintro e wq ⟨rfl, q, hw⟩; have hw := hw.symm; subst hw)
    | (go_at_call 90; refine (HN.out _ (by exact HJ.out)).mono ?_; rintro e wq ⟨rfl, hw⟩; have hw := hw.symm; subst hw))
  have HJ2 : Hid (JIs g (w1.drewN q) P T F (.slice ao l.length cap) S) := hid HJ.out
  have HFr2 : Hid (JFr g none w1 (w1.drewN q)) := hid ⟨rfl, rfl, rfl, Nat.le_refl _, fun _ _ _ _ => rfl⟩
  have HL2 : Hid (ILie (w1.drewN q) (.slice ao k cap) (l.take k)) := hid (ILie.take (l := l) (n := l.length) HR.out.lie (by omega))
  obtain ⟨w2, hw2⟩ : ∃ w2, w2 = w1.drewN q := ⟨_, rfl⟩
  rw [← hw2] at HJ2 HFr2 HL2 ⊢
  clear hw2
  obtain ⟨c0, c1, c2, c3, c4⟩ := HJ2.out.cells
  have hf := frees HJ2.out
  have hlt2 := HJ2.out.lt
  have hwr : IntKind.i64.wrap ((T : Int) + A) = (T : Int) + A := by rw [IntKind.wrap_i64]; omega
  go_cut [] (fun wx => JIs g wx P T' F (.slice ao l.length cap) S ∧ JFr g none w2 wx)
  case first =>
    first
      | (go_region_with (first
          | (go_at_call 111; refine (HTot.out _ (by exact HL2.out)).mono ?_; rintro e wa ⟨rfl, hw⟩; have hw := hw.symm; subst hw)
          | (go_at_call 113; refine (HPl.out _ (by exact HJ2.out)).mono ?_; rintro e wa ⟨rfl, hw⟩; have hw := hw.symm; subst hw)))
      | fail
    all_goals
      go_wp2
      go_meet
      have k1 := (JFr.refl g none w2).set (.inl rfl) 1 (.int .i64 (T' : Int))
      exact ⟨HJ2.out.set1 _, ⟨k1.os, k1.tape, k1.output, k1.size, k1.block⟩⟩
  case rest =>
    obtain ⟨hj3, hf3⟩ := hcut
    rename World => w3
    have HJ3 := hid hj3
    have HF3 := hid hf3
    clear hj3 hf3 c0 c1 c2 c3 c4 hf hlt2
    obtain ⟨c0, c1, c2, c3, c4⟩ := HJ3.out.cells
    have hf := frees HJ3.out
    have hlt3 := HJ3.out.lt
    have e1 : ((F + k : Nat) : Int) = (F : Int) + (k : Int) := by omega
    have e2 : ((S - k : Nat) : Int) = (S : Int) - (k : Int) := by omega
    go_upto_region 9 with fail
    have HJ4 := hid ((HJ3.out.set2 ((F : Int) + (k : Int))).set4 ((S : Int) - (k : Int)))
    have HF4 := hid ((HF3.out.set (.inl rfl) 2 (.int .i64 ((F : Int) + (k : Int)))).set (.inl rfl) 4 (.int .i64 ((S : Int) - (k : Int))))
    obtain ⟨w4, hw4⟩ : ∃ w4, w4 = (w3.setCell ⟨g, 2, none⟩ (.int .i64 ((F : Int) + (k : Int)))).setCell ⟨g, 4, none⟩ (.int .i64 ((S : Int) - (k : Int))) := ⟨_, rfl⟩
    rw [← hw4] at HJ4 HF4 ⊢
    clear hw4 c0 c1 c2 c3 c4 hf hlt3
    obtain ⟨c0, c1, c2, c3, c4⟩ := HJ4.out.cells
    have hf := frees HJ4.out
    have hlt4 := HJ4.out.lt
    go_cut [] (fun wx => JIs g wx P T' ((F : Int) + (k : Int)) (.slice ao' m m') ((S : Int) - (k : Int)) ∧ JFr g none w4 wx)
    case first =>
      go_region
      all_goals
        go_wp2
        go_meet
        have k1 := (JFr.refl g none w4).set (.inl rfl) 3 (.slice ao' m m')
        exact ⟨HJ4.out.set3 _, ⟨k1.os, k1.tape, k1.output, k1.size, k1.block⟩⟩
    case rest =>
      obtain ⟨hj5, hf5⟩ := hcut
      rename World => w5
      have HF5 : Hid (JFr g none w1 w5) := hid ((HFr2.out.trans (.inl rfl) HF4.out).trans (.inl rfl) hf5)
      have HJ5 := hid hj5
      clear hj5 hf5 c0 c1 c2 c3 c4 hf hlt4
      have HV5 := hid ((HF5.out.block w.heap.size (by omega) (by omega) (by simp)).trans HV.out)
      have HR5 : Hid (JRow w5 (.slice ao l.length cap) l) := hid (HR.out.same fun x hx => HF5.out.block x (by have := (hltr.2 x (hr.symm.trans hx)).1; omega) (hltr.2 x (hr.symm.trans hx)).2 (by simp))
      have hl5 := lt_of_block HV5.out
      go_wp2_with (first
        | (go_at_call 114; refine (HWr.out _ (by rw [e1, e2]; exact HJ5.out)).mono ?_; rintro e w6 ⟨rfl, hb6⟩; have HV6 := hid ((hb6.block _ hl5).trans HV5.out); have HB6 := hid hb6; obtain ⟨q0, q1⟩ := two_cells HV6.out; have hl6 := lt_of_block HV6.out; have hf6 := frees HV6.out; clear hb6))
      have r0 : ((w6.setCell ⟨w.heap.size, 0, none⟩ (.int .i64 0)).setCell ⟨w.heap.size, 1, none⟩ (.string u)).cell? ⟨w.heap.size, 0, none⟩ = some (.int .i64 0) := by simp [World.cell?, World.setCell, Array.getElem?_modify, HV6.out]
      have r1 : ((w6.setCell ⟨w.heap.size, 0, none⟩ (.int .i64 0)).setCell ⟨w.heap.size, 1, none⟩ (.string u)).cell? ⟨w.heap.size, 1, none⟩ = some (.string u) := by simp [World.cell?, World.setCell, Array.getElem?_modify, HV6.out]
      have k0 : JFr g none w w1 := JFr.of HB0.out
      have k6 : JFr g none w w6 := (k0.trans (.inl rfl) HF5.out).trans (.inl rfl) (JFr.of HB6.out)
      have k7 := (k6.set (.inr (.inr (Nat.le_refl _))) 0 (.int .i64 0)).set (.inr (.inr (Nat.le_refl _))) 1 (.string u)
      have hJ : JS g r w6 P T' (F + k) (S - k) (l.drop k) := by
        refine ⟨.slice ao' m m', HOwn.out.trans hr, ?_, (HRow.out _ HR5.out).below HB6.out⟩
        rw [e1, e2]
        exact HJ5.out.below HB6.out
      have n1 : w.heap.size ≠ g := by omega
      have n2 : some w.heap.size ≠ r := by
        intro e
        have := (hltr.2 _ e.symm).1
        omega
      refine bodyPost_ret (v := .tuple #[.agg #[.int .i64 0, .string u], .int .i64 0]) (by simp [results, Tryz.results106, go_sem, r0, r1]) rfl ⟨rfl, (hJ.set n1 n2 _ _).set n1 n2 _ _, ⟨k7.os, k7.tape, k7.output, k7.size, fun i hi h1 _ => k7.block i hi h1 (by simp)⟩⟩
end Go.Proofs.YtopebghandojbaaGreat
