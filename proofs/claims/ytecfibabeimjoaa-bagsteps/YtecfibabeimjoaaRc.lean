import Derived.Test.YtecfibabeimjoaaRb
namespace Go.Proofs.Ytecfibabeimjoaa
open Go.RowKit Go.Maps Go.Sort Go.Shelf
theorem dd_same {x : Msg} : ∀ {l : List Msg}, l.getLast? = some x → dd (l ++ [x]) = dd l
  | [], h => by cases h
  | [a], h => by
    have e : a = x := by simpa using h
    subst e; simp [dd]
  | a :: b :: l, h => by
    have ih : dd (b :: (l ++ [x])) = dd (b :: l) := dd_same (l := b :: l) (by simpa [List.getLast?_cons_cons] using h)
    show dd (a :: b :: (l ++ [x])) = _
    unfold dd
    rw [ih]
theorem dd_other {x : Msg} : ∀ {l : List Msg}, l.getLast? ≠ some x → dd (l ++ [x]) = dd l ++ [x]
  | [], _ => by simp [dd]
  | [a], h => by
    have e : a ≠ x := by simpa using h
    simp [dd, e]
  | a :: b :: l, h => by
    have ih : dd (b :: (l ++ [x])) = dd (b :: l) ++ [x] := dd_other (l := b :: l) (by simpa [List.getLast?_cons_cons] using h)
    show dd (a :: b :: (l ++ [x])) = _
    unfold dd
    rw [ih]
    split <;> simp
set_option maxRecDepth 100000 in
set_option maxHeartbeats 1000000 in
theorem radd_full {B1 g : Nat} {n : Int} {v : Value} {L : List Msg} (m : Msg) (hlt : L.length = 1024) (w : World) (h : RB B1 g w n v L) : Calls Try.prog 28 #[.pointer (some ⟨g, 0, none⟩), valM m] w fun e w' => e = .returned (.int .i64 5) ∧ Below w.heap.size w w' := by
  obtain ⟨q0, q1⟩ := two_cells53 h.cell
  obtain ⟨ao, cap, rfl⟩ := h.row.len
  have hg := lt_of_block h.cell
  clear h
  rw [hlt] at q1
  unfold valM
  go_enter Try.func28, Try.ntmps28
  go_wp2
  go_ret
  exact ⟨rfl, below_alloc _ _⟩
set_option maxRecDepth 100000 in
set_option maxHeartbeats 4000000 in
theorem rlist_any {B1 g : Nat} {n : Int} {v : Value} {L : List Msg} (w : World) (h : RB B1 g w n v L) : Calls Try.prog 21 #[.pointer (some ⟨g, 0, none⟩)] w fun e w' => ∃ v', e = .returned v' ∧ LR w.heap.size w' v' (dd L) ∧ Below w.heap.size w w' := by
  obtain ⟨q0, q1⟩ := two_cells53 h.cell
  obtain ⟨ao, cap, rfl⟩ := h.row.len
  have HR := hid h
  have hle := h.le
  have hg := lt_of_block h.cell
  clear h
  go_enter Try.func21, Try.ntmps21
  go_wp2
  have HB0 := hid (Below.refl w.heap.size w)
  have HCG := hid HR.out.cell
  clear q0 q1
  go_loopw [3, 11] (fun rv i wr => ∃ q : Nat, i = .int .i64 q ∧ q ≤ L.length ∧ LR w.heap.size wr rv (dd (L.take q)) ∧ Below w.heap.size w wr) (fun _ i _ => L.length - (intOf i).toNat)
  case atStart => exact ⟨0, rfl, Nat.zero_le _, LR.nil _ _, Below.refl _ _⟩
  case round =>
    obtain ⟨q, rfl, hq, hLq, hBq⟩ := hrel
    have HLq := hid hLq
    have HBq := hid hBq
    clear hBq hLq
    by_cases hqk : q < L.length
    · obtain ⟨gr, cap', e, hc1, hc2, hbs, hgl, c0, c1, c2⟩ := (HR.out.row.below HBq.out).cellsAt q hqk
      cases e
      have HT := hid (take_snocL L q hqk)
      obtain ⟨y, hy⟩ : ∃ y, y = L[q] := ⟨_, rfl⟩
      rw [← hy] at c0 c1 c2 HT
      clear hy
      obtain ⟨q0, q1⟩ := two_cells53 ((HBq.out.block _ hg).trans HCG.out)
      have hgq : g < wr.heap.size := Nat.lt_of_lt_of_le hg HBq.out.size
      unfold maxLen at hc2
      have HRL : Hid ((dd (L.take q)).length ≤ 1024) := by
        show _ ≤ _
        have h1 := dd_len_le (L.take q)
        rw [List.length_take] at h1
        omega
      have HL5 := hid (HLq.out.below (below_alloc wr (.cells #[.int .i64 y.f, .int .i64 y.t, .string y.s] 37)))
      have HB5 := hid (HBq.out.next (below_alloc wr (.cells #[.int .i64 y.f, .int .i64 y.t, .string y.s] 37)))
      by_cases hq0 : q = 0
      · have HDD : Hid (dd (L.take (q + 1)) = dd (L.take q) ++ [y]) := by
          show _ = _
          rw [HT.out]
          exact dd_other (by rw [hq0]; simp)
        subst hq0
        go_wp2
        go_quiet ((fail))
        go_wp2_with (first
          | (at_builtin; refine push_ref2 rfl (.tmp 30) (.tmp 32) rfl w.heap.size (wr.heap.size + 1) _ _ y.f y.t y.s rfl rfl (by show _ = (wr.alloc _).heap.size; simp) (HL5.out.below ⟨rfl, rfl, rfl, Nat.le_refl _, fun _ _ => rfl⟩) (by have := HRL.out; omega) HB5.out.size ?_; intro v7 w7 hL7 hb7 _))
        go_roundw
        case rel => exact ⟨0 + 1, by go_num, by omega, by rw [HDD.out]; exact hL7, HB5.out.trans ⟨hb7.os, hb7.tape, hb7.output, hb7.size, hb7.block⟩⟩
        case measure => simp [intOf]; omega
      · obtain ⟨gr', cap2, e, _, _, _, _, d0, d1, d2⟩ := (HR.out.row.below HBq.out).cellsAt (q - 1) (by omega)
        cases e
        obtain ⟨x, hx⟩ : ∃ x, x = L[q - 1] := ⟨_, rfl⟩
        have HLA : Hid ((L.take q).getLast? = some x) := by
          show _ = _
          have e : L.take q = L.take (q - 1) ++ [L[q - 1]] := by
            have := take_snocL L (q - 1) (by omega)
            rw [← this]; congr 1; omega
          rw [e, ← hx]
          simp
        rw [← hx] at d0 d1 d2
        clear hx
        have hqi : ((q : Int) == 0) = false := by simpa using hq0
        have HEQ := hid (eqB_iff x y)
        unfold eqB at HEQ
        have HDO : Hid (x ≠ y → dd (L.take (q + 1)) = dd (L.take q) ++ [y]) := fun k => by
          rw [HT.out]
          exact dd_other (by rw [HLA.out]; simpa using k)
        cases a1 : (x.f == y.f) with
        | false =>
          have HDD := hid (HDO.out (fun e => by have := HEQ.out.2 e; rw [a1] at this; simp at this))
          go_wp2
          go_quiet ((fail))
          go_wp2_with (first
            | (at_builtin; refine push_ref2 rfl (.tmp 30) (.tmp 32) rfl w.heap.size (wr.heap.size + 1) _ _ y.f y.t y.s rfl rfl (by show _ = (wr.alloc _).heap.size; simp) (HL5.out.below ⟨rfl, rfl, rfl, Nat.le_refl _, fun _ _ => rfl⟩) (by have := HRL.out; omega) HB5.out.size ?_; intro v7 w7 hL7 hb7 _))
          go_roundw
          case rel => exact ⟨q + 1, by go_num, by omega, by rw [HDD.out]; exact hL7, HB5.out.trans ⟨hb7.os, hb7.tape, hb7.output, hb7.size, hb7.block⟩⟩
          case measure => simp [intOf]; omega
        | true =>
          cases a2 : (x.t == y.t) with
          | false =>
            have HDD := hid (HDO.out (fun e => by have := HEQ.out.2 e; rw [a1, a2] at this; simp at this))
            go_wp2
            go_quiet ((fail))
            go_wp2_with (first
              | (at_builtin; refine push_ref2 rfl (.tmp 30) (.tmp 32) rfl w.heap.size (wr.heap.size + 1) _ _ y.f y.t y.s rfl rfl (by show _ = (wr.alloc _).heap.size; simp) (HL5.out.below ⟨rfl, rfl, rfl, Nat.le_refl _, fun _ _ => rfl⟩) (by have := HRL.out; omega) HB5.out.size ?_; intro v7 w7 hL7 hb7 _))
            go_roundw
            case rel => exact ⟨q + 1, by go_num, by omega, by rw [HDD.out]; exact hL7, HB5.out.trans ⟨hb7.os, hb7.tape, hb7.output, hb7.size, hb7.block⟩⟩
            case measure => simp [intOf]; omega
          | true =>
            cases a3 : (x.s.toList == y.s.toList) with
            | false =>
              have HDD := hid (HDO.out (fun e => by have := HEQ.out.2 e; rw [a1, a2, a3] at this; simp at this))
              go_wp2
              go_quiet ((fail))
              go_wp2_with (first
                | (at_builtin; refine push_ref2 rfl (.tmp 30) (.tmp 32) rfl w.heap.size (wr.heap.size + 1) _ _ y.f y.t y.s rfl rfl (by show _ = (wr.alloc _).heap.size; simp) (HL5.out.below ⟨rfl, rfl, rfl, Nat.le_refl _, fun _ _ => rfl⟩) (by have := HRL.out; omega) HB5.out.size ?_; intro v7 w7 hL7 hb7 _))
              go_roundw
              case rel => exact ⟨q + 1, by go_num, by omega, by rw [HDD.out]; exact hL7, HB5.out.trans ⟨hb7.os, hb7.tape, hb7.output, hb7.size, hb7.block⟩⟩
              case measure => simp [intOf]; omega
            | true =>
              have HDD : Hid (dd (L.take (q + 1)) = dd (L.take q)) := by
                show _ = _
                rw [HT.out]
                exact dd_same (by rw [HLA.out, HEQ.out.1 (by rw [a1, a2, a3]; rfl)])
              go_wp2
              go_quiet ((fail))
              go_wp2
              go_roundw
              case rel => exact ⟨q + 1, by go_num, by omega, by rw [HDD.out]; exact HL5.out.below ⟨rfl, rfl, rfl, Nat.le_refl _, fun _ _ => rfl⟩, ⟨HB5.out.os, HB5.out.tape, HB5.out.output, HB5.out.size, HB5.out.block⟩⟩
              case measure => simp [intOf]; omega
    · have hqe : q = L.length := by omega
      subst hqe
      go_wp2
      go_ret
      have := HLq.out
      rw [List.take_length] at this
      exact ⟨_, rfl, this, HBq.out⟩
end Go.Proofs.Ytecfibabeimjoaa
