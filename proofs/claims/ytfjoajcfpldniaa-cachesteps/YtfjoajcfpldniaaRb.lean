import Derived.Test.YtfjoajcfpldniaaRa
namespace Go.Proofs.Ytfjoajcfpldniaa
open Go.RowKit Go.Maps

theorem four_cells {w : World} {g : Nat} {a b c d : Value} {t : TypeId} (hh : w.heap[g]? = some (.cells #[a, b, c, d] t (0, 0))) : w.cell? ⟨g, 0, none⟩ = some a ∧ w.cell? ⟨g, 1, none⟩ = some b ∧ w.cell? ⟨g, 2, none⟩ = some c ∧ w.cell? ⟨g, 3, none⟩ = some d := by
  refine ⟨?_, ?_, ?_, ?_⟩ <;> simp [World.cell?, hh]
theorem FRow.base {b b' : Nat} {w : World} {v : Value} {P : List Fm} (h : FRow b w v P) (hb : b' ≤ b) : FRow b' w v P := by
  obtain ⟨e1, e2 | ⟨x, cap, cur, rfl, e4, e5⟩⟩ := h
  · exact ⟨e1, .inl e2⟩
  · exact ⟨e1, .inr ⟨x, cap, cur, rfl, Nat.le_trans hb e4, e5⟩⟩
theorem idx_at {P : List Fm} {k : Int} {q : Nat} (hq : q < P.length) (he : P[q].b = k) (hno : ∀ j (hj : j < P.length), j < q → P[j].b ≠ k) : idxP P k = (q : Int) := by
  unfold idxP
  have : P.findIdx? (fun x => x.b == k) = some q := by
    rw [List.findIdx?_eq_some_iff_getElem]
    exact ⟨hq, by simp [he], fun j hj => by simpa using hno j (by omega) hj⟩
  rw [this]
theorem idx_no {P : List Fm} {k : Int} (hno : ∀ j (hj : j < P.length), P[j].b ≠ k) : idxP P k = -1 := by
  unfold idxP
  have : P.findIdx? (fun x => x.b == k) = none := by
    rw [List.findIdx?_eq_none_iff]
    intro x hx
    obtain ⟨j, hj, rfl⟩ := List.getElem_of_mem hx
    simpa using hno j hj
  rw [this]
theorem wout_lt {P : List Fm} {q i : Nat} (hq : q < P.length) (h : q < i) : (P.take (q + 1)).eraseIdx i = (P.take q).eraseIdx i ++ [P[q]] := by
  rw [List.eraseIdx_of_length_le (by rw [List.length_take]; omega), List.eraseIdx_of_length_le (by rw [List.length_take]; omega), List.take_succ_eq_append_getElem hq]
theorem wout_eq {P : List Fm} {q : Nat} (hq : q < P.length) : (P.take (q + 1)).eraseIdx q = (P.take q).eraseIdx q := by
  rw [List.take_succ_eq_append_getElem hq, List.eraseIdx_of_length_le (l := P.take q) (by rw [List.length_take]; omega), List.eraseIdx_append_of_length_le (by rw [List.length_take]; omega)]
  simp [List.length_take, Nat.min_eq_left (Nat.le_of_lt hq)]
theorem wout_gt {P : List Fm} {q i : Nat} (hq : q < P.length) (h : i < q) : (P.take (q + 1)).eraseIdx i = (P.take q).eraseIdx i ++ [P[q]] := by
  rw [List.take_succ_eq_append_getElem hq, List.eraseIdx_append_of_lt_length (by rw [List.length_take]; omega)]
section
variable {B g : Nat} {N : Nat} {P : List Fm} {lv : Value}
set_option maxRecDepth 100000 in
theorem rfind (k : Int) (w : World) (h : RC B g w N P lv) : Calls Try.prog 35 #[.pointer (some ⟨g, 0, none⟩), .int .i64 k] w fun e w' => e = .returned (.int .i64 (idxP P k)) ∧ Below w.heap.size w w' := by
  obtain ⟨c0, c1⟩ := h.cells
  have hgl := h.lt
  have HR := hid h.r
  obtain ⟨ao, cap, rfl, hlc, hcm⟩ := h.r.len
  unfold maxLen at hcm
  have HIA := hid (fun q hq he hno => idx_at (P := P) (k := k) (q := q) hq he hno)
  have HIN := hid (fun hno => idx_no (P := P) (k := k) hno)
  obtain ⟨I, hI⟩ : ∃ I, I = idxP P k := ⟨_, rfl⟩
  rw [← hI] at HIA HIN ⊢
  clear hI h
  go_enter Try.func35, Try.ntmps35
  go_wp2
  go_loopw [12] (fun i wr => ∃ q : Nat, i = .int .i64 q ∧ q ≤ P.length ∧ (∀ j (hj : j < P.length), j < q → P[j].b ≠ k) ∧ Below w.heap.size w wr) (fun i _ => P.length - (intOf i).toNat)
  case atStart => exact ⟨0, rfl, Nat.zero_le _, fun j hj h => by omega, Below.refl _ _⟩
  case round =>
    obtain ⟨q, rfl, hq, hno, hB⟩ := hrel
    have HNo := hid hno
    have HB := hid hB
    clear hno hB c0 c1 hgl
    by_cases hlt : q < P.length
    · obtain ⟨gb, rfl, hgl, _, m0, m1, m2, m3, _⟩ := (HR.out.below HB.out).cell q hlt
      have HI := hid (fun he => HIA.out q hlt he HNo.out)
      have HGrow : Hid (P[q].b ≠ k → ∀ j (hj : j < P.length), j < q + 1 → P[j].b ≠ k) := by
        intro hne j hj hjq
        by_cases e : j = q
        · subst e; exact hne
        · exact HNo.out j hj (by omega)
      obtain ⟨f, hf⟩ : ∃ f, f = P[q] := ⟨_, rfl⟩
      rw [← hf] at m0 m1 m2 m3 HI HGrow
      clear hf
      have HBa := hid (HB.out.next (below_alloc wr (.cells #[.int .i64 f.b, .int .i64 f.p, .string f.d, .bool f.y] 75)))
      by_cases hfk : f.b = k
      · have hIe := HI.out hfk
        have HIe := hid hIe
        have hfb : (f.b == k) = true := by simp [hfk]
        clear hfk hIe
        go_wp2
        go_ret
        exact ⟨by rw [HIe.out]; rfl, HBa.out⟩
      · have hfb : (f.b == k) = false := by simp [hfk]
        have HG := hid (HGrow.out hfk)
        clear hfk
        go_wp2
        go_roundw
        case rel => exact ⟨q + 1, by go_num, by omega, HG.out, HBa.out⟩
        case measure => simp [intOf]; omega
    · have hIe := HIN.out (fun j hj => HNo.out j hj (by omega))
      have HIe := hid hIe
      clear hIe
      go_wp2
      go_ret
      exact ⟨by rw [HIe.out]; rfl, HB.out⟩
set_option maxRecDepth 100000 in
theorem rwithout (i : Nat) (hi : i < P.length) (hP : P.length ≤ 100) (w : World) (h : FRow B w lv P) : Calls Try.prog 41 #[lv, .int .i64 (i : Int)] w fun e w' => ∃ v', e = .returned v' ∧ FRow w.heap.size w' v' (P.eraseIdx i) ∧ Below w.heap.size w w' := by
  have HR := hid h
  obtain ⟨ao, cap, rfl, hlc, hcm⟩ := h.len
  unfold maxLen at hcm
  clear h
  go_enter Try.func41, Try.ntmps41
  go_wp2
  go_loopw [5, 10] (fun ov iv wr => ∃ q : Nat, iv = .int .i64 q ∧ q ≤ P.length ∧ FRow w.heap.size wr ov ((P.take q).eraseIdx i) ∧ Below w.heap.size w wr) (fun _ iv _ => P.length - (intOf iv).toNat)
  case atStart => exact ⟨0, rfl, Nat.zero_le _, by rw [List.take_zero, List.eraseIdx_nil]; exact FRow.nil _ _, Below.refl _ _⟩
  case round =>
    obtain ⟨q, rfl, hq, hF, hB⟩ := hrel
    have HF := hid hF
    have HB := hid hB
    clear hF hB
    by_cases hlt : q < P.length
    · obtain ⟨gb, rfl, hgl, _, m0, m1, m2, m3, _⟩ := (HR.out.below HB.out).cell q hlt
      have HW1 := hid (fun h => wout_lt (P := P) (q := q) (i := i) hlt h)
      have HW2 := hid (fun h => wout_gt (P := P) (q := q) (i := i) hlt h)
      have HW3 := hid (wout_eq (P := P) (q := q) hlt)
      have htl : ((P.take q).eraseIdx i).length ≤ 100 := by
        have := List.length_eraseIdx_le (P.take q) i
        rw [List.length_take] at this
        omega
      obtain ⟨f, hf⟩ : ∃ f, f = P[q] := ⟨_, rfl⟩
      rw [← hf] at m0 m1 m2 m3 HW1 HW2
      clear hf
      have HBx := hid (below_alloc wr (.cells #[.int .i64 f.b, .int .i64 f.p, .string f.d, .bool f.y] 75))
      have HBa := hid (HB.out.next HBx.out)
      have HFa := hid (HF.out.below HBx.out)
      have HX := hid (box_at wr (.cells #[.int .i64 f.b, .int .i64 f.p, .string f.d, .bool f.y] 75))
      obtain ⟨ot, oc, rfl, ho1, ho2⟩ := HF.out.len
      unfold maxLen at ho2
      by_cases hqi : q = i
      · subst hqi
        go_wp2
        go_roundw
        case rel => exact ⟨q + 1, by go_num, by omega, by rw [HW3.out]; exact HFa.out, HBa.out⟩
        case measure => simp [intOf]; omega
      · have hne : ((q : Int) != (i : Int)) = true := by simp; omega
        have HW : Hid ((P.take (q + 1)).eraseIdx i = (P.take q).eraseIdx i ++ [f]) := by
          by_cases hc : q < i
          · exact hid (HW1.out hc)
          · exact hid (HW2.out (by omega))
        clear hqi
        obtain ⟨T, hT⟩ : ∃ T, T = (P.take q).eraseIdx i := ⟨_, rfl⟩
        rw [← hT] at HFa HW htl ho1 ⊢
        clear hT HF
        have hbs := HBa.out.size
        go_upto_region 6 with fail
        obtain ⟨x0, hx0⟩ : ∃ x0, x0 = wr.alloc (.cells #[.int .i64 f.b, .int .i64 f.p, .string f.d, .bool f.y] 75) := ⟨_, rfl⟩
        rw [← hx0] at HX HBa HFa hbs ⊢
        clear hx0 m0 m1 m2 m3 HBx
        obtain ⟨bx, hbx⟩ : ∃ bx, bx = wr.heap.size := ⟨_, rfl⟩
        rw [← hbx] at HX ⊢
        clear hbx
        obtain ⟨z0, z1, z2, z3⟩ := four_cells HX.out
        have hlx := lt_of_block HX.out
        go_wp2_with (first
          | (at_builtin; refine pushF (w0 := x0) rfl (.tmp 18) (.tmp 20) rfl w.heap.size x0.heap.size _ T f rfl rfl rfl HFa.out (by omega) hbs ?_
             intro v6 w6 hI6 hb6 _ hk6))
        go_roundw
        case rel => exact ⟨q + 1, by go_num, by omega, by rw [HW.out]; exact hI6, HBa.out.trans hb6⟩
        case measure => simp [intOf]; omega
    · have hqe : q = P.length := by omega
      subst hqe
      go_wp2
      go_ret
      refine ⟨_, rfl, ?_, HB.out⟩
      have := HF.out
      rw [List.take_length] at this
      exact this
end
end Go.Proofs.Ytfjoajcfpldniaa
