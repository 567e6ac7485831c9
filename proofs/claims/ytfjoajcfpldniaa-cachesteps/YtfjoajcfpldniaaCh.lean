import Derived.Test.YtfjoajcfpldniaaCg
namespace Go.Proofs.Ytfjoajcfpldniaa
open Go.RowKit Go.Maps

section
variable {B g m N J U : Nat} {L : List Fr}
theorem find_yes {k : Int} (hk : inI k) {f : Fr} (hf : findF L k = some f) (w : World) (h : CS B g m w N J L U) :
    Calls Try.prog 37 #[.pointer (some ⟨g, 0, none⟩), .int .i64 k] w fun e w' => e = .returned (.pointer (some ⟨f.a, 0, none⟩)) ∧ w' = w := by
  have := find_go k hk w h
  rw [hf] at this
  exact this
theorem find_no {k : Int} (hk : inI k) (hf : findF L k = none) (w : World) (h : CS B g m w N J L U) :
    Calls Try.prog 37 #[.pointer (some ⟨g, 0, none⟩), .int .i64 k] w fun e w' => e = .returned (.pointer none) ∧ w' = w := by
  have := find_go k hk w h
  rw [hf] at this
  exact this
theorem new_bad (n : Int) (hn : ¬ (1 ≤ n ∧ n ≤ 64)) (w : World) : Calls Try.prog 8 #[.int .i64 n] w fun e w' => e = .returned (.tuple #[.pointer none, .int .i64 1]) ∧ w' = w := by
  by_cases h1 : n < 1
  · go_enter Try.func8, Try.ntmps8
    go_wp2
    go_ret2
    exact ⟨rfl, rfl⟩
  · have h2 : 64 < n := by omega
    go_enter Try.func8, Try.ntmps8
    go_wp2
    go_ret2
    exact ⟨rfl, rfl⟩
theorem new_go (N : Nat) (h1 : 1 ≤ N) (h2 : N ≤ 64) (B : Nat) (w : World) (hB : B ≤ w.heap.size) : Calls Try.prog 8 #[.int .i64 (N : Int)] w fun e w' => e = .returned (.tuple #[.pointer (some ⟨w.heap.size + 1, 0, none⟩), .int .i64 0]) ∧ CS B (w.heap.size + 1) w.heap.size w' N 0 [] 0 ∧ Below w.heap.size w w' := by
  have hmm := fun w => run_makeMap (P := Try.prog) 55 w
  go_enter Try.func8, Try.ntmps8
  go_wp2
  go_ret2
  refine ⟨rfl, ⟨?_, ?_, (fun f hf => by cases hf), List.Pairwise.nil, (fun f hf => by cases hf), (fun f hf => by cases hf), Nat.zero_le _, ⟨h1, h2⟩, Nat.le_refl _, by decide, by omega, hB, (fun f hf => by cases hf)⟩, ((Below.refl _ _).alloc (Nat.le_refl _) _).alloc (by simp) _⟩
  · show ((w.heap.push _).push _)[w.heap.size + 1]? = _
    rw [Array.getElem?_push, if_pos (by simp)]
    rfl
  · exact (MIs.made w).same (Below.heap_alloc _ _ _ (by simp))
theorem look_no {k : Int} (hk : inI k) (hf : findF L k = none) (w : World) (h : CS B g m w N J L U) :
    Calls Try.prog 19 #[.pointer (some ⟨g, 0, none⟩), .int .i64 k] w fun e w' => e = .returned (.tuple #[.string ⟨#[]⟩, .bool false]) ∧ w' = w := by
  have HF := hid (find_no hk hf w h)
  go_enter Try.func19, Try.ntmps19
  go_wp2_with (first | (go_at_call 37; refine (HF.out).mono ?_; rintro e w1 ⟨rfl, hw⟩; have hw := hw.symm; subst hw))
  go_ret2
  exact ⟨rfl, rfl⟩
theorem look_yes {k : Int} (hk : inI k) {f : Fr} (hf : findF L k = some f) (hJ : J + 1 ≤ 90000) (w : World) (h : CS B g m w N J L U) :
    Calls Try.prog 19 #[.pointer (some ⟨g, 0, none⟩), .int .i64 k] w fun e w' => e = .returned (.tuple #[.string f.d, .bool true]) ∧ CS B g m w' N (J + 1) (dropL L k ++ [{ f with u := ((U + 1 : Nat) : Int) }]) (U + 1) ∧ Only (fpC g m L) w w' := by
  obtain ⟨hm, rfl⟩ := findF_some hf
  have HF := hid (find_yes hk hf w h)
  have HT := hid (touch_any g _ _ U (by have := h.uj; have := h.j1; omega) f w h.c (h.fr f hm) (h.ag hm))
  obtain ⟨hC, hO⟩ := h.touch hm hJ
  obtain ⟨_, _, _, _, q4⟩ := (hC.fr _ (List.mem_append_right _ (List.mem_singleton.2 rfl))).cells
  have hl := (hC.fr _ (List.mem_append_right _ (List.mem_singleton.2 rfl))).lt
  simp only at q4 hl
  obtain ⟨wt, hwt⟩ : ∃ wt, wt = (w.setCell ⟨g, 2, none⟩ (.int .i64 ((U + 1 : Nat) : Int))).setCell ⟨f.a, 2, none⟩ (.int .i64 ((U + 1 : Nat) : Int)) := ⟨_, rfl⟩
  rw [← hwt] at HT hC hO q4 hl
  clear hwt
  have HC := hid hC
  have HO := hid hO
  clear hC hO
  go_enter Try.func19, Try.ntmps19
  go_wp2_with (first
    | (go_at_call 37; refine (HF.out).mono ?_; rintro e w1 ⟨rfl, hw⟩; have hw := hw.symm; subst hw)
    | (go_at_call 39; refine (HT.out).mono ?_; rintro e w1 ⟨rfl, hw⟩; have hw := hw.symm; subst hw))
  go_ret2
  exact ⟨rfl, HC.out, HO.out⟩
theorem store_arg {k : Int} {d : ByteArray} (hb : isB k d = false) (p : Value) (w : World) :
    Calls Try.prog 20 #[p, .int .i64 k, .string d] w fun e w' => e = .returned (.int .i64 1) ∧ w' = w := by
  have HB := hid (isBlock_any k d w)
  rw [hb] at HB
  go_enter Try.func20, Try.ntmps20
  go_wp2_with (first | (go_at_call 36; refine (HB.out).mono ?_; rintro e w1 ⟨rfl, hw⟩; have hw := hw.symm; subst hw))
  go_ret
  exact ⟨rfl, rfl⟩
theorem store_none {k : Int} {d : ByteArray} (hk : inI k) (hb : isB k d = true) (hf : findF L k = none) (w : World) (h : CS B g m w N J L U) :
    Calls Try.prog 20 #[.pointer (some ⟨g, 0, none⟩), .int .i64 k, .string d] w fun e w' => e = .returned (.int .i64 6) ∧ w' = w := by
  have HB := hid (isBlock_any k d w)
  rw [hb] at HB
  have HF := hid (find_no hk hf w h)
  go_enter Try.func20, Try.ntmps20
  go_wp2_with (first
    | (go_at_call 36; refine (HB.out).mono ?_; rintro e w1 ⟨rfl, hw⟩; have hw := hw.symm; subst hw)
    | (go_at_call 37; refine (HF.out).mono ?_; rintro e w1 ⟨rfl, hw⟩; have hw := hw.symm; subst hw))
  go_ret
  exact ⟨rfl, rfl⟩
theorem drop_set (L : List Fr) (f' : Fr) : dropL (setL L f') f'.b = dropL L f'.b := by
  unfold dropL setL
  induction L with
  | nil => rfl
  | cons x L ih =>
    rw [List.map_cons]
    by_cases e : x.b = f'.b
    · rw [if_pos (by simp [e]), List.filter_cons_of_neg (by simp), List.filter_cons_of_neg (by simp [e])]
      exact ih
    · rw [if_neg (by simp [e]), List.filter_cons_of_pos (by simp [e]), List.filter_cons_of_pos (by simp [e]), ih]
theorem mem_set {L : List Fr} {f f' : Fr} (hf : f ∈ L) (hb : f'.b = f.b) : f' ∈ setL L f' := by
  unfold setL
  exact List.mem_map.2 ⟨f, hf, if_pos (by simp [hb])⟩
theorem FIs.set {w : World} {f : Fr} (h : FIs w f) (i : Nat) (v : Value) (f' : Fr) (ha : f'.a = f.a) (he : (#[Value.int .i64 f.p, .bool f.y, .int .i64 f.u, .int .i64 f.b, .string f.d].set! i v) = #[Value.int .i64 f'.p, .bool f'.y, .int .i64 f'.u, .int .i64 f'.b, .string f'.d]) : FIs (w.setCell ⟨f.a, i, none⟩ v) f' := by
  unfold FIs
  rw [ha, ← he]
  exact cells_set h v
theorem store_yes {k : Int} {d : ByteArray} (hk : inI k) (hb : isB k d = true) {f : Fr} (hf : findF L k = some f) (hJ : J + 1 ≤ 90000) (w : World) (h : CS B g m w N J L U) :
    Calls Try.prog 20 #[.pointer (some ⟨g, 0, none⟩), .int .i64 k, .string d] w fun e w' => e = .returned (.int .i64 0) ∧ CS B g m w' N (J + 1) (dropL L k ++ [{ f with d := d, y := true, u := ((U + 1 : Nat) : Int) }]) (U + 1) ∧ Only (fpC g m L) w w' := by
  obtain ⟨hm, rfl⟩ := findF_some hf
  have hd : d.size = 128 := (of_decide_eq_true hb).2.2
  have HB := hid (isBlock_any f.b d w)
  rw [hb] at HB
  have HF := hid (find_yes hk hf w h)
  have hF := h.fr f hm
  have e1 := hF.set 4 (.string d) { f with d := d } rfl rfl
  have e2 := e1.set 1 (.bool true) { f with d := d, y := true } rfl rfl
  simp only at e2
  have ho : Only [f.a] w ((w.setCell ⟨f.a, 4, none⟩ (.string d)).setCell ⟨f.a, 1, none⟩ (.bool true)) := (Only.setCell _ (by simp)).trans (Only.setCell _ (by simp))
  have hr := h.rt f hm
  have hC1 := h.put (f' := { f with d := d, y := true }) hm rfl rfl rfl hd hr.2.2 e2 ho
  have hm1 : { f with d := d, y := true } ∈ setL L { f with d := d, y := true } := mem_set hm rfl
  obtain ⟨_, _, _, _, q4⟩ := hF.cells
  obtain ⟨_, q1, _, _, _⟩ := e1.cells
  simp only at q1
  have hl := hF.lt
  have fz := hF.free 4
  have fz1 := e1.free 1
  simp only at fz1
  have HT := hid (touch_any g _ _ U (by have := h.uj; have := h.j1; omega) _ _ hC1.c (hC1.fr _ hm1) (hC1.ag hm1))
  obtain ⟨hC, hO⟩ := hC1.touch hm1 hJ
  simp only at HT hC hO
  have HC := hid hC
  have HO : Hid (Only (fpC g m L) w _) := hid ((ho.mono (by
    intro x hx
    rw [List.mem_singleton] at hx
    subst hx
    unfold fpC
    simp
    exact .inr (.inr ⟨f, hm, rfl⟩))).trans (hO.mono (by
      intro x hx
      unfold fpC at *
      rcases List.mem_cons.1 hx with rfl | hx
      · simp
      · rcases List.mem_cons.1 hx with rfl | hx
        · simp
        · obtain ⟨y, hy, rfl⟩ := List.mem_map.1 hx
          unfold setL at hy
          obtain ⟨z, hz, rfl⟩ := List.mem_map.1 hy
          by_cases e : z.b = f.b
          · rw [if_pos (by simp [e])]
            exact List.mem_cons_of_mem _ (List.mem_cons_of_mem _ (List.mem_map.2 ⟨f, hm, rfl⟩))
          · rw [if_neg (by simp [e])]
            exact List.mem_cons_of_mem _ (List.mem_cons_of_mem _ (List.mem_map.2 ⟨z, hz, rfl⟩)))))
  have HD := hid (drop_set L { f with d := d, y := true })
  clear hC hO hC1 e2 ho e1 hF
  go_enter Try.func20, Try.ntmps20
  go_wp2_with (first
    | (go_at_call 36; refine (HB.out).mono ?_; rintro e w1 ⟨rfl, hw⟩; have hw := hw.symm; subst hw)
    | (go_at_call 37; refine (HF.out).mono ?_; rintro e w1 ⟨rfl, hw⟩; have hw := hw.symm; subst hw)
    | (go_at_call 39; refine (HT.out).mono ?_; rintro e w1 ⟨rfl, hw⟩; have hw := hw.symm; subst hw))
  go_ret
  have hc := HC.out
  rw [show dropL (setL L { f with d := d, y := true }) f.b = dropL L f.b from HD.out] at hc
  exact ⟨rfl, hc, HO.out⟩
theorem pin_no {k : Int} (hk : inI k) (hf : findF L k = none) (w : World) (h : CS B g m w N J L U) :
    Calls Try.prog 21 #[.pointer (some ⟨g, 0, none⟩), .int .i64 k] w fun e w' => e = .returned (.int .i64 6) ∧ w' = w := by
  have HF := hid (find_no hk hf w h)
  go_enter Try.func21, Try.ntmps21
  go_wp2_with (first | (go_at_call 37; refine (HF.out).mono ?_; rintro e w1 ⟨rfl, hw⟩; have hw := hw.symm; subst hw))
  go_ret
  exact ⟨rfl, rfl⟩
theorem Only.fp {fp : List Nat} {f : Fr} (hm : f ∈ L) {w w' : World} (h : Only [f.a] w w') (hfp : fp = fpC g m L) : Only fp w w' := by
  subst hfp
  refine h.mono ?_
  intro x hx
  rw [List.mem_singleton] at hx
  subst hx
  unfold fpC
  exact List.mem_cons_of_mem _ (List.mem_cons_of_mem _ (List.mem_map.2 ⟨f, hm, rfl⟩))
theorem pin_yes {k : Int} (hk : inI k) {f : Fr} (hf : findF L k = some f) (hJ : J + 1 ≤ 90000) (w : World) (h : CS B g m w N J L U) :
    Calls Try.prog 21 #[.pointer (some ⟨g, 0, none⟩), .int .i64 k] w fun e w' => e = .returned (.int .i64 0) ∧ CS B g m w' N (J + 1) (setL L { f with p := f.p + 1 }) U ∧ Only (fpC g m L) w w' := by
  obtain ⟨hm, rfl⟩ := findF_some hf
  have HF := hid (find_yes hk hf w h)
  have hF := h.fr f hm
  have hr := h.rt f hm
  have e1 := hF.set 0 (.int .i64 (f.p + 1)) { f with p := f.p + 1 } rfl rfl
  have ho : Only [f.a] w (w.setCell ⟨f.a, 0, none⟩ (.int .i64 (f.p + 1))) := Only.setCell _ (by simp)
  have HC := hid ((h.more (J' := J + 1) (by omega) hJ).put (f' := { f with p := f.p + 1 }) hm rfl rfl rfl hr.2.1 (by simp only; omega) e1 ho)
  have HO : Hid (Only (fpC g m L) w _) := hid (ho.fp hm rfl)
  obtain ⟨q0, _, _, _, _⟩ := hF.cells
  have hl := hF.lt
  have fz := hF.free 0
  have hp0 := hr.2.2.1
  have hp1 : f.p ≤ 90000 := by have := hr.2.2.2; have := h.j1; omega
  clear e1 ho hF hr
  go_enter Try.func21, Try.ntmps21
  go_wp2_with (first | (go_at_call 37; refine (HF.out).mono ?_; rintro e w1 ⟨rfl, hw⟩; have hw := hw.symm; subst hw))
  go_ret
  exact ⟨rfl, HC.out, HO.out⟩
theorem unpin_no {k : Int} (hk : inI k) (hf : findF L k = none) (w : World) (h : CS B g m w N J L U) :
    Calls Try.prog 22 #[.pointer (some ⟨g, 0, none⟩), .int .i64 k] w fun e w' => e = .returned (.int .i64 6) ∧ w' = w := by
  have HF := hid (find_no hk hf w h)
  go_enter Try.func22, Try.ntmps22
  go_wp2_with (first | (go_at_call 37; refine (HF.out).mono ?_; rintro e w1 ⟨rfl, hw⟩; have hw := hw.symm; subst hw))
  go_ret
  exact ⟨rfl, rfl⟩
theorem unpin_zero {k : Int} (hk : inI k) {f : Fr} (hf : findF L k = some f) (hp : f.p = 0) (w : World) (h : CS B g m w N J L U) :
    Calls Try.prog 22 #[.pointer (some ⟨g, 0, none⟩), .int .i64 k] w fun e w' => e = .returned (.int .i64 7) ∧ w' = w := by
  obtain ⟨hm, rfl⟩ := findF_some hf
  have HF := hid (find_yes hk hf w h)
  have hF := h.fr f hm
  obtain ⟨q0, _, _, _, _⟩ := hF.cells
  rw [hp] at q0
  have hl := hF.lt
  clear hp
  go_enter Try.func22, Try.ntmps22
  go_wp2_with (first | (go_at_call 37; refine (HF.out).mono ?_; rintro e w1 ⟨rfl, hw⟩; have hw := hw.symm; subst hw))
  go_ret
  exact ⟨rfl, rfl⟩
theorem unpin_yes {k : Int} (hk : inI k) {f : Fr} (hf : findF L k = some f) (hp : f.p ≠ 0) (w : World) (h : CS B g m w N J L U) :
    Calls Try.prog 22 #[.pointer (some ⟨g, 0, none⟩), .int .i64 k] w fun e w' => e = .returned (.int .i64 0) ∧ CS B g m w' N J (setL L { f with p := f.p - 1 }) U ∧ Only (fpC g m L) w w' := by
  obtain ⟨hm, rfl⟩ := findF_some hf
  have HF := hid (find_yes hk hf w h)
  have hF := h.fr f hm
  have hr := h.rt f hm
  have e1 := hF.set 0 (.int .i64 (f.p - 1)) { f with p := f.p - 1 } rfl rfl
  have ho : Only [f.a] w (w.setCell ⟨f.a, 0, none⟩ (.int .i64 (f.p - 1))) := Only.setCell _ (by simp)
  have HC := hid (h.put (f' := { f with p := f.p - 1 }) hm rfl rfl rfl hr.2.1 (by simp only; omega) e1 ho)
  have HO : Hid (Only (fpC g m L) w _) := hid (ho.fp hm rfl)
  obtain ⟨q0, _, _, _, _⟩ := hF.cells
  have hl := hF.lt
  have fz := hF.free 0
  have hp0 := hr.2.2.1
  have hp1 : f.p ≤ 90000 := by have := hr.2.2.2; have := h.j1; omega
  have hpb : (f.p == 0) = false := by simp [hp]
  clear e1 ho hF hr hp
  go_enter Try.func22, Try.ntmps22
  go_wp2_with (first | (go_at_call 37; refine (HF.out).mono ?_; rintro e w1 ⟨rfl, hw⟩; have hw := hw.symm; subst hw))
  go_ret
  exact ⟨rfl, HC.out, HO.out⟩
end
end Go.Proofs.Ytfjoajcfpldniaa
