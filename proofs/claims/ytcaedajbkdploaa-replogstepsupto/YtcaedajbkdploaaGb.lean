import Derived.Test.YtcaedajbkdploaaGa
namespace Go.Proofs.Ytcaedajbkdploaa
open Go.RowKit Go.Maps

theorem wrong_any (x : Ent) (w : World) : Calls Try.prog 62 #[x.v] w fun e w' => e = .returned (.bool (!rgt x)) ∧ Below w.heap.size w w' := by
  have HR := hid (isRight_any x)
  obtain ⟨b, hb⟩ : ∃ b, b = rgt x := ⟨_, rfl⟩
  rw [← hb] at HR ⊢
  clear hb
  obtain ⟨V, C, R, K, A, N, p, t, d⟩ := x
  simp only [Ent.v] at HR ⊢
  go_enter Try.func62, Try.ntmps62
  go_wp2_with (first | (go_at_call 31; refine (HR.out _).mono ?_; rintro e w1 ⟨rfl, b1⟩))
  go_ret
  exact ⟨rfl, (below_alloc _ _).next b1⟩
theorem all_take {l : List Ent} {j : Nat} (hj : j < l.length) (h : (l.take j).all rgt = true) (h2 : rgt l[j] = true) : (l.take (j + 1)).all rgt = true := by
  rw [List.take_succ_eq_append_getElem hj, List.all_append, h]
  simp [h2]
theorem all_not {l : List Ent} {j : Nat} (hj : j < l.length) (h2 : rgt l[j] = false) : l.all rgt = false := by
  rw [List.all_eq_false]
  exact ⟨l[j], List.getElem_mem hj, by simp [h2]⟩
set_option maxRecDepth 100000 in
set_option maxHeartbeats 1000000 in
theorem index_any {w : World} {u : Value} {l : List Ent} (h : ELie w u l) : Calls Try.prog 68 #[u, .func (.func 62) #[] #[]] w fun e w' => (∃ n : Int, e = .returned (.int .i64 n) ∧ decide (0 ≤ n) = !(l.all rgt)) ∧ Below w.heap.size w w' := by
  have HU := hid h
  obtain ⟨ao, cap, rfl, hlc, hcm, hcell⟩ := h
  have HC := hid hcell
  have HW := hid wrong_any
  unfold maxLen at hcm
  clear hcell
  go_enter Try.func68, Try.ntmps68
  go_wp2
  go_loopw [8] (fun i wr => ∃ j : Nat, i = .int .i64 j ∧ j ≤ l.length ∧ Hid ((l.take j).all rgt = true) ∧ Hid (Below w.heap.size w wr)) (fun i _ => l.length - (intOf i).toNat)
  case atStart => exact ⟨0, rfl, Nat.zero_le _, hid rfl, hid (Below.refl _ _)⟩
  case round =>
    obtain ⟨j, rfl, hj, HT, HB⟩ := hrel
    rename World => wr
    by_cases hlt : j < l.length
    · obtain ⟨gb, off, ea, hgb, hat⟩ := HC.out j hlt
      subst ea
      have hat' := hat.same (HB.out.block gb hgb)
      obtain ⟨x, hx⟩ : ∃ x, x = l[j] := ⟨_, rfl⟩
      have HX := hid hx
      rw [← hx] at hat'
      clear hat hx
      obtain ⟨c0, c1, c2, c3, c4, c5, c6, c7, c8⟩ := hat'
      cases hr : rgt x with
      | true =>
        have HW2 := hid (HW.out x)
        rw [hr] at HW2
        have HT2 := hid (all_take hlt HT.out (by rw [← HX.out]; exact hr))
        clear hr HX
        obtain ⟨V, C, R, K, A, N, p, t, d⟩ := x
        simp only [Ent.v] at HW2 c0 c1 c2 c3 c4 c5 c6 c7 c8
        go_wp2_with (first | (go_at_call 62; refine (HW2.out _).mono ?_; rintro e w2 ⟨rfl, b2⟩))
        go_roundw
        case rel => exact ⟨j + 1, by go_num, by omega, HT2, hid (HB.out.next b2)⟩
        case measure => simp [intOf]; omega
      | false =>
        have HW2 := hid (HW.out x)
        rw [hr] at HW2
        have HT2 := hid (all_not hlt (by rw [← HX.out]; exact hr))
        clear hr HX
        obtain ⟨V, C, R, K, A, N, p, t, d⟩ := x
        simp only [Ent.v] at HW2 c0 c1 c2 c3 c4 c5 c6 c7 c8
        go_wp2_with (first | (go_at_call 62; refine (HW2.out _).mono ?_; rintro e w2 ⟨rfl, b2⟩))
        go_ret
        exact ⟨⟨j, rfl, by rw [HT2.out]; simp⟩, HB.out.next b2⟩
    · have hjn : j = l.length := by omega
      have HT2 : Hid (l.all rgt = true) := by
        have e := HT.out
        rw [hjn, List.take_of_length_le (Nat.le_refl _)] at e
        exact hid e
      clear hjn
      go_wp2
      go_ret
      exact ⟨⟨-1, rfl, by rw [HT2.out]; rfl⟩, HB.out⟩
theorem contains_any {w : World} {u : Value} {l : List Ent} (h : ELie w u l) : Calls Try.prog 61 #[u, .func (.func 62) #[] #[]] w fun e w' => e = .returned (.bool (!(l.all rgt))) ∧ Below w.heap.size w w' := by
  have HI := hid (index_any h)
  clear h
  obtain ⟨b, hb⟩ : ∃ b, b = !(l.all rgt) := ⟨_, rfl⟩
  rw [← hb] at HI ⊢
  clear hb
  go_enter Try.func61, Try.ntmps61
  go_wp2_with (first | (go_at_call 68; refine (HI.out).mono ?_; rintro e w1 ⟨⟨n, rfl, hn⟩, b1⟩; have HN := hid hn; clear hn))
  go_ret
  exact ⟨by rw [← HN.out]; rfl, b1⟩
theorem allRight_any {w : World} {u : Value} {l : List Ent} (h : ELie w u l) : Calls Try.prog 44 #[u] w fun e w' => e = .returned (.bool (l.all rgt)) ∧ Below w.heap.size w w' := by
  have HI := hid (contains_any h)
  clear h
  obtain ⟨b, hb⟩ : ∃ b, b = l.all rgt := ⟨_, rfl⟩
  rw [← hb] at HI ⊢
  clear hb
  go_enter Try.func44, Try.ntmps44
  go_wp2_with (first | (go_at_call 61; refine (HI.out).mono ?_; rintro e w1 ⟨rfl, b1⟩))
  go_ret
  exact ⟨by simp, b1⟩
/-- do views fall, behind one that is ahead of them? -/
def fallB : Int → List Ent → Bool
  | _, [] => false
  | v, x :: l => decide (x.V < v) || fallB x.V l
theorem fall_at (v : Int) (l : List Ent) (j : Nat) (q : Int) (hj : j < l.length) (h : fallB v l = fallB q (l.drop j)) : (l[j].V < q → fallB v l = true) ∧ (¬ l[j].V < q → fallB v l = fallB l[j].V (l.drop (j + 1))) := by
  rw [h, List.drop_eq_getElem_cons hj, fallB]
  constructor
  · intro e; simp [e]
  · intro e; simp [e]
set_option maxRecDepth 100000 in
set_option maxHeartbeats 1000000 in
theorem fall_any {w : World} {u : Value} {l : List Ent} (v : Int) (h : ELie w u l) : Calls Try.prog 45 #[.int .i64 v, u] w fun e w' => e = .returned (.bool (fallB v l)) ∧ Below w.heap.size w w' := by
  have HU := hid h
  obtain ⟨ao, cap, rfl, hlc, hcm, hcell⟩ := h
  have HC := hid hcell
  unfold maxLen at hcm
  obtain ⟨b, hb⟩ : ∃ b, b = fallB v l := ⟨_, rfl⟩
  rw [← hb]
  have HBB := hid hb
  clear hcell hb
  go_enter Try.func45, Try.ntmps45
  go_wp2
  go_loopw [0, 9] (fun p i wr => ∃ (j : Nat) (q : Int), p = .int .i64 q ∧ i = .int .i64 j ∧ j ≤ l.length ∧ Hid (fallB v l = fallB q (l.drop j)) ∧ Hid (Below w.heap.size w wr)) (fun _ i _ => l.length - (intOf i).toNat)
  case atStart => exact ⟨0, v, rfl, rfl, Nat.zero_le _, hid (by rw [List.drop_zero]), hid (Below.refl _ _)⟩
  case round =>
    obtain ⟨j, q, rfl, rfl, hj, HT, HB⟩ := hrel
    rename World => wr
    by_cases hlt : j < l.length
    · obtain ⟨gb, off, ea, hgb, hat⟩ := HC.out j hlt
      subst ea
      have hat' := hat.same (HB.out.block gb hgb)
      have HF := hid (fall_at v l j q hlt HT.out)
      obtain ⟨x, hx⟩ : ∃ x, x = l[j] := ⟨_, rfl⟩
      rw [← hx] at hat' HF
      clear hat hx
      obtain ⟨c0, c1, c2, c3, c4, c5, c6, c7, c8⟩ := hat'
      obtain ⟨V, C, R, K, A, N, p, t, d⟩ := x
      simp only [] at c0 c1 c2 c3 c4 c5 c6 c7 c8 HF
      by_cases hv : V < q
      · have HF2 := hid (HF.out.1 hv)
        clear HF
        go_wp2
        go_ret
        exact ⟨by rw [HBB.out, HF2.out]; rfl, HB.out.next (below_alloc _ _)⟩
      · have HF2 := hid (HF.out.2 hv)
        clear HF
        go_wp2
        go_roundw
        case rel => exact ⟨j + 1, V, rfl, by go_num, by omega, HF2, hid (HB.out.next (below_alloc _ _))⟩
        case measure => simp [intOf]; omega
    · have hjn : j = l.length := by omega
      have HT2 : Hid (fallB v l = false) := by
        have e := HT.out
        rw [hjn, List.drop_of_length_le (Nat.le_refl _)] at e
        exact hid e
      clear hjn
      go_wp2
      go_ret
      exact ⟨by rw [HBB.out, HT2.out]; rfl, HB.out⟩
end Go.Proofs.Ytcaedajbkdploaa
