import Derived.Test.YtcaedajbkdploaaGi
namespace Go.Proofs.Ytcaedajbkdploaa
open Go.RowKit Go.Maps

set_option maxRecDepth 100000 in
theorem rview_any {B g : Nat} {w : World} {v : Value} {l : List Ent} (h : LI 43 B g w v l) : Calls Try.prog 23 #[.pointer (some ⟨g, 0, none⟩)] w fun e w' => e = .returned (.int .i64 (lastV l)) ∧ ∃ q, w' = w.drewN q := by
  have c0 := h.c0
  have hlen := h.len
  obtain ⟨ao, cap, rfl, hlc, hcm, hcell⟩ := h.row.lie
  unfold maxLen at hcm
  clear h
  by_cases h0 : l.length = 0
  · have : l = [] := List.eq_nil_of_length_eq_zero h0
    subst this
    clear hcell
    simp only [List.length_nil] at c0
    go_enter Try.func23, Try.ntmps23
    go_wp2
    go_ret
    exact ⟨rfl, 0, rfl⟩
  · obtain ⟨gb, off, rfl, hgb, hat⟩ := hcell (l.length - 1) (by omega)
    have c := hat.1
    have hl : lastV l = (l[l.length - 1]'(by omega)).V := by
      unfold lastV
      rw [List.getLast?_eq_getElem?, List.getElem?_eq_getElem (by omega)]
    rw [← hl] at c
    obtain ⟨n, hn⟩ : ∃ n, n = l.length - 1 := ⟨_, rfl⟩
    have hn1 : (l.length : Int) - 1 = (n : Int) := by omega
    have hn2 : n < l.length := by omega
    rw [← hn] at c
    have hne : ((l.length : Int) == 0) = false := by rw [beq_eq_false_iff_ne]; omega
    have hw1 : IntKind.i64.wrap ((l.length : Int) - 1) = (n : Int) := by rw [IntKind.wrap_i64]; omega
    clear hcell hat hl hn h0
    go_enter Try.func23, Try.ntmps23
    go_wp2
    go_quiet (fail)
    go_wp2
    go_ret
    exact ⟨rfl, _, rfl⟩
set_option maxRecDepth 100000 in
set_option maxHeartbeats 1000000 in
theorem rappend_no {g : Nat} {w : World} (x : Ent) (hx : rgt x = false) : Calls Try.prog 16 #[.pointer (some ⟨g, 0, none⟩), x.v] w fun e w' => e = .returned (.tuple #[.int .i64 0, .int .i64 4]) ∧ Below w.heap.size w w' := by
  have HR := hid (right_any x)
  rw [hx] at HR
  clear hx
  obtain ⟨V, C, R, K, A, N, p, t, d⟩ := x
  simp only [Ent.v] at HR ⊢
  go_enter Try.func16, Try.ntmps16
  go_wp2_with (first | (go_at_call 30; refine (HR.out _).mono ?_; rintro e w1 ⟨rfl, b1⟩))
  go_ret2
  exact ⟨rfl, (below_alloc _ _).next b1⟩
set_option maxRecDepth 100000 in
set_option maxHeartbeats 1000000 in
theorem rappend_state {B g : Nat} {w : World} {v : Value} {l : List Ent} (x : Ent) (h : LI 43 B g w v l) (hx : rgt x = true) (h2 : x.V < lastV l) : Calls Try.prog 16 #[.pointer (some ⟨g, 0, none⟩), x.v] w fun e w' => e = .returned (.tuple #[.int .i64 0, .int .i64 7]) ∧ Below w.heap.size w w' := by
  have HR := hid (right_any x)
  rw [hx] at HR
  clear hx
  have HV := hid (fun w' (k : Below w.heap.size w w') => rview_any (h.below k))
  clear h
  obtain ⟨V, C, R, K, A, N, p, t, d⟩ := x
  simp only [Ent.v] at HR ⊢
  simp only [] at h2
  obtain ⟨q, hq⟩ : ∃ q, q = lastV l := ⟨_, rfl⟩
  rw [← hq] at h2 HV
  clear hq
  go_enter Try.func16, Try.ntmps16
  go_wp2_with (first | (go_at_call 30; refine (HR.out _).mono ?_; rintro e w1 ⟨rfl, b1⟩; have HB1 : Hid (Box w.heap.size w1 ⟨V, C, R, K, A, N, p, t, d⟩) := hid ((show Box w.heap.size _ ⟨V, C, R, K, A, N, p, t, d⟩ from box_at w _).below b1 (by simp)); have HL1 : Hid (Below w.heap.size w w1) := hid ((below_alloc w _).next b1); clear b1))
  have c0 := HB1.out.cells.1
  go_quiet ((go_at_call 23; exact Calls.quiet_of (HV.out _ (by exact HL1.out.next (drewN_below _ _)))))
  go_wp2
  go_ret2
  exact ⟨rfl, HL1.out.next (drewN_below _ _)⟩
set_option maxRecDepth 100000 in
set_option maxHeartbeats 1000000 in
theorem rappend_full {B g : Nat} {w : World} {v : Value} {l : List Ent} (x : Ent) (h : LI 43 B g w v l) (hx : rgt x = true) (h2 : ¬ x.V < lastV l) (h3 : 4096 ≤ l.length) : Calls Try.prog 16 #[.pointer (some ⟨g, 0, none⟩), x.v] w fun e w' => e = .returned (.tuple #[.int .i64 0, .int .i64 5]) ∧ Below w.heap.size w w' := by
  have HR := hid (right_any x)
  rw [hx] at HR
  clear hx
  have HV := hid (fun w' (k : Below w.heap.size w w') => rview_any (h.below k))
  have HH := hid h
  clear h
  obtain ⟨V, C, R, K, A, N, p, t, d⟩ := x
  simp only [Ent.v] at HR ⊢
  simp only [] at h2
  obtain ⟨q, hq⟩ : ∃ q, q = lastV l := ⟨_, rfl⟩
  rw [← hq] at h2 HV
  clear hq
  go_enter Try.func16, Try.ntmps16
  go_wp2_with (first | (go_at_call 30; refine (HR.out _).mono ?_; rintro e w1 ⟨rfl, b1⟩; have HB1 : Hid (Box w.heap.size w1 ⟨V, C, R, K, A, N, p, t, d⟩) := hid ((show Box w.heap.size _ ⟨V, C, R, K, A, N, p, t, d⟩ from box_at w _).below b1 (by simp)); have HL1 : Hid (Below w.heap.size w w1) := hid ((below_alloc w _).next b1); clear b1))
  have c0 := HB1.out.cells.1
  go_quiet ((go_at_call 23; exact Calls.quiet_of (HV.out _ (by exact HL1.out.next (drewN_below _ _)))))
  have e0 := (HH.out.below HL1.out).c0
  obtain ⟨ao, cap, hvv, _, _⟩ := HH.out.row.len
  subst hvv
  go_wp2
  go_ret2
  exact ⟨rfl, HL1.out.next (drewN_below _ _)⟩
set_option maxRecDepth 100000 in
set_option maxHeartbeats 1000000 in
theorem rappend_ok {B g : Nat} {w : World} {v : Value} {l : List Ent} (x : Ent) (h : LI 43 B g w v l) (hx : rgt x = true) (h2 : ¬ x.V < lastV l) (h3 : ¬ 4096 ≤ l.length) (hB : B ≤ w.heap.size) : Calls Try.prog 16 #[.pointer (some ⟨g, 0, none⟩), x.v] w fun e w' => e = .returned (.tuple #[.int .i64 ((l.length : Int) + 1), .int .i64 0]) ∧ After 43 B g v w (l ++ [x]) w' := by
  have HR := hid (right_any x)
  rw [hx] at HR
  clear hx
  have HV := hid (fun w' (k : Below w.heap.size w w') => rview_any (h.below k))
  have HH := hid h
  clear h
  obtain ⟨V, C, R, K, A, N, p, t, d⟩ := x
  simp only [Ent.v] at HR ⊢
  simp only [] at h2
  obtain ⟨q, hq⟩ : ∃ q, q = lastV l := ⟨_, rfl⟩
  rw [← hq] at h2 HV
  clear hq
  go_enter Try.func16, Try.ntmps16
  go_wp2_with (first | (go_at_call 30; refine (HR.out _).mono ?_; rintro e w1 ⟨rfl, b1⟩; have HB1 : Hid (Box w.heap.size w1 ⟨V, C, R, K, A, N, p, t, d⟩) := hid ((show Box w.heap.size _ ⟨V, C, R, K, A, N, p, t, d⟩ from box_at w _).below b1 (by simp)); have HL1 : Hid (Below w.heap.size w w1) := hid ((below_alloc w _).next b1); clear b1))
  have c0 := HB1.out.cells.1
  go_quiet ((go_at_call 23; exact Calls.quiet_of (HV.out _ (by exact HL1.out.next (drewN_below _ _)))))
  have e1 := (HH.out.below HL1.out).c0
  obtain ⟨ao, cap0, hvv, _, _⟩ := HH.out.row.len
  subst hvv
  go_upto_region 7 with fail
  clear e1
  obtain ⟨W, hW⟩ : ∃ W, W = w1.drewN nq := ⟨_, rfl⟩
  have HLW : Hid (Below w.heap.size w W) := by rw [hW]; exact hid (HL1.out.next (drewN_below _ _))
  have HBW : Hid (Box w.heap.size W ⟨V, C, R, K, A, N, p, t, d⟩) := by rw [hW]; exact hid (HB1.out.below (drewN_below _ _) HB1.out.lt)
  rw [← hW]
  clear hW HL1 HB1 c0
  have HIW := hid (HH.out.below HLW.out)
  obtain ⟨c0, c1, c2, c3, c4, c5, c6, c7, c8⟩ := HBW.out.cells
  have e0 := HIW.out.c0
  have hgl := HIW.out.lt
  have HNB : Hid (Box W.heap.size ((W.alloc (.cells #[.int .i64 V, .int .i64 C, .int .i64 R, .int .i64 K, .int .i64 A, .int .i64 N, .string p, .string t, .string d] 25)).drew) ⟨V, C, R, K, A, N, p, t, d⟩) := hid (box_at W _)
  have HRW : Hid (ERow B ((W.alloc (.cells #[.int .i64 V, .int .i64 C, .int .i64 R, .int .i64 K, .int .i64 A, .int .i64 N, .string p, .string t, .string d] 25)).drew) (.slice ao l.length cap0) l) := hid (HIW.out.row.below (below_alloc W _).drew)
  have HBS : Hid (B ≤ ((W.alloc (.cells #[.int .i64 V, .int .i64 C, .int .i64 R, .int .i64 K, .int .i64 A, .int .i64 N, .string p, .string t, .string d] 25)).drew).heap.size) := hid (Nat.le_trans hB (Nat.le_trans HLW.out.size (below_alloc W _).size))
  have HG3 : Hid (∀ w3, ((W.alloc (.cells #[.int .i64 V, .int .i64 C, .int .i64 R, .int .i64 K, .int .i64 A, .int .i64 N, .string p, .string t, .string d] 25)).drew).grownBy w3 (Value.ownBlock (.slice ao l.length cap0)) → w3.heap[g]? = some (.cells #[.slice ao l.length cap0] 43 (0, 0))) := hid fun w3 hg => (hg.block g (Nat.lt_of_lt_of_le HIW.out.lt (below_alloc W _).size) (fun e => HIW.out.ne e.symm)).trans (((below_alloc W _).block g HIW.out.lt).trans HIW.out.hd)
  have HH3 := hid h3
  go_cut [] (fun wx => After 43 B g (.slice ao l.length cap0) w (l ++ [⟨V, C, R, K, A, N, p, t, d⟩]) wx)
  case first =>
    go_region_law (refine stepE rfl (.tmp 24) (.tmp 26) rfl B _ l ⟨V, C, R, K, A, N, p, t, d⟩ (by simp [Act.eval]) W.heap.size (by simp [Act.eval]) HNB.out HRW.out (by omega) HBS.out ?_; intro r cap w3 hown3 hgrow3 hr3; have hg3 := HG3.out w3 hgrow3; have f3 := free_of_one hg3; have k3 := cell_of_one hg3)
    all_goals
      have hmid := hid (after_push HH.out HLW.out hB hown3 hgrow3 hr3 HH3.out)
      clear hown3 hgrow3 hr3 hg3
      go_wp2
      go_meet
      exact hmid.out
  case rest =>
    rename World => w4
    have HA := hid hcut
    clear hcut
    obtain ⟨v4, h4, hf4, ho4⟩ := HA.out
    have c4 := h4.c0
    obtain ⟨a4, p4, hv4, _, _⟩ := h4.row.len
    rw [List.length_append] at hv4
    subst hv4
    clear h4 hf4 ho4
    go_wp2
    go_ret2
    exact ⟨by simp, HA.out⟩
end Go.Proofs.Ytcaedajbkdploaa
