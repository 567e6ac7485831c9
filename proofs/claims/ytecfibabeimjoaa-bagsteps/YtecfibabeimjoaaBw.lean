import Derived.Test.YtecfibabeimjoaaBv
namespace Go.Proofs.Ytecfibabeimjoaa
open Go.RowKit Go.Maps Go.Sort Go.Shelf

theorem bag_take {base g b N : Nat} {n : Int} {L : List Msg} (m : Msg) (hm : m ∈ L) (hN : N < 1000000) (w : World) (h : Bag base g b w N n L) :
    Calls Try.prog 26 #[.pointer (some ⟨g, 0, none⟩), valM m] w fun e w' => e = .returned (.tuple #[]) ∧ Bag base g b w' (N + 1) n (del m L) ∧ Only [g, b] w w' := by
  have hl := del_len hm
  have hle := h.le
  have hcl := cnt_le m L
  have hcp := cnt_pos.1 hm
  have hlen : ((L.length : Nat) : Int) - 1 = ((del m L).length : Int) := by omega
  have fin : ∀ w', BIs base g b w' (N + 1) n (fL (del m L)) ((L.length : Int) - 1) → Bag base g b w' (N + 1) n (del m L) := fun w' hB =>
    ⟨by rw [← hlen]; exact hB, fun x hx => h.ok x (mem_del hm hx), by omega, del_sorted m h.so⟩
  by_cases h1 : cnt m L = 1
  · have k := take_last m (h.ok m hm) hN (by omega) (by omega) (by rw [fL_some hm, h1]; rfl) w h.is
    rw [← fL_del1 hm h1] at k
    exact k.mono fun e w' q => ⟨q.1, fin w' q.2.1, q.2.2⟩
  · have k := take_more m (h.ok m hm) hN (by omega) (by omega) (fL_some hm) (by omega) (by omega) w h.is
    rw [← fL_del2 hm (by omega)] at k
    exact k.mono fun e w' q => ⟨q.1, fin w' q.2.1, q.2.2⟩
theorem bag_add {base g b N : Nat} {n : Int} {L : List Msg} (m : Msg) (hm : okM m) (hN : N < 1000000) (w : World) (h : Bag base g b w N n L) (hlt : L.length < 1024) :
    Calls Try.prog 27 #[.pointer (some ⟨g, 0, none⟩), valM m] w fun e w' => e = .returned (.int .i64 0) ∧ Bag base g b w' (N + 1) n (ins m L) ∧ Only [g, b] w w' := by
  have hcl := cnt_le m L
  have k := add_ok m hm hN (by omega) (by omega) (by rw [fL_getD]; omega) (by rw [fL_getD]; omega) w h.is
  rw [← fL_ins] at k
  refine k.mono fun e w' q => ⟨q.1, ⟨?_, fun x hx => ?_, by rw [ins_len]; omega, ins_sorted m h.so⟩, q.2.2⟩
  · rw [ins_len]
    exact q.2.1
  · rcases mem_ins.1 hx with rfl | hx
    · exact hm
    · exact h.ok x hx
theorem bag_full {base g b N : Nat} {n : Int} {L : List Msg} (m : Msg) (w : World) (h : Bag base g b w N n L) (hlt : L.length = 1024) :
    Calls Try.prog 27 #[.pointer (some ⟨g, 0, none⟩), valM m] w fun e w' => e = .returned (.int .i64 5) ∧ Below w.heap.size w w' := by
  have h' := h.is
  rw [hlt] at h'
  exact add_full m w h'
set_option maxRecDepth 100000 in
set_option maxHeartbeats 1000000 in
theorem put_node {base g b N : Nat} {n : Int} {L : List Msg} (m : Msg) (hn : ¬ (isN n m.f = true ∧ isN n m.t = true)) (w : World) (h : Bag base g b w N n L) :
    Calls Try.prog 17 #[.pointer (some ⟨g, 0, none⟩), valM m] w fun e w' => e = .returned (.int .i64 1) ∧ Below w.heap.size w w' := by
  have h' := (h.below (below_alloc w (.cells #[.int .i64 m.f, .int .i64 m.t, .string m.s] 32))).is
  have H1 := hid (has_any m.f _ h')
  have H2 := hid (has_any m.t _ h')
  unfold valM
  obtain ⟨x, hx⟩ : ∃ x, x = isN n m.f := ⟨_, rfl⟩
  obtain ⟨y, hy⟩ : ∃ y, y = isN n m.t := ⟨_, rfl⟩
  rw [← hx] at H1 hn
  rw [← hy] at H2 hn
  clear hx hy h h'
  cases x with
  | false =>
    go_enter Try.func17, Try.ntmps17
    go_wp2_with (first
      | (go_at_call 29; refine (H1.out).mono ?_; rintro e w1 ⟨rfl, hw⟩; have hw := hw.symm; subst hw))
    go_ret
    exact ⟨rfl, below_alloc _ _⟩
  | true =>
    have hy : y = false := by simpa using hn
    subst hy
    clear hn
    go_enter Try.func17, Try.ntmps17
    go_wp2_with (first
      | (go_at_call 29; have hk := H1; refine (hk.out).mono ?_; rintro e w1 ⟨rfl, hw⟩; have hw := hw.symm; subst hw; clear hk H1)
      | (go_at_call 29; refine (H2.out).mono ?_; rintro e w1 ⟨rfl, hw⟩; have hw := hw.symm; subst hw))
    go_ret
    exact ⟨rfl, below_alloc _ _⟩
set_option maxRecDepth 100000 in
set_option maxHeartbeats 1000000 in
theorem put_long {base g b N : Nat} {n : Int} {L : List Msg} (m : Msg) (h1 : isN n m.f = true) (h2 : isN n m.t = true) (hs : 65535 < m.s.size) (w : World) (h : Bag base g b w N n L) :
    Calls Try.prog 17 #[.pointer (some ⟨g, 0, none⟩), valM m] w fun e w' => e = .returned (.int .i64 2) ∧ Below w.heap.size w w' := by
  have h' := (h.below (below_alloc w (.cells #[.int .i64 m.f, .int .i64 m.t, .string m.s] 32))).is
  have H1 := hid (has_any m.f _ h')
  have H2 := hid (has_any m.t _ h')
  rw [h1] at H1
  rw [h2] at H2
  unfold valM
  clear h h' h1 h2
  go_enter Try.func17, Try.ntmps17
  go_wp2_with (first
    | (go_at_call 29; have hk := H1; refine (hk.out).mono ?_; rintro e w1 ⟨rfl, hw⟩; have hw := hw.symm; subst hw; clear hk H1)
    | (go_at_call 29; refine (H2.out).mono ?_; rintro e w1 ⟨rfl, hw⟩; have hw := hw.symm; subst hw))
  go_ret
  exact ⟨rfl, below_alloc _ _⟩
set_option maxRecDepth 100000 in
set_option maxHeartbeats 1000000 in
theorem put_go {base g b N : Nat} {n : Int} {L : List Msg} (m : Msg) (h1 : isN n m.f = true) (h2 : isN n m.t = true) (hs : m.s.size ≤ 65535) (r : Int) (R : World → Prop) (w : World) (h : Bag base g b w N n L)
    (hA : Calls Try.prog 27 #[.pointer (some ⟨g, 0, none⟩), valM m] (w.alloc (.cells #[.int .i64 m.f, .int .i64 m.t, .string m.s] 32)) fun e w' => e = .returned (.int .i64 r) ∧ R w') :
    Calls Try.prog 17 #[.pointer (some ⟨g, 0, none⟩), valM m] w fun e w' => e = .returned (.int .i64 r) ∧ R w' := by
  have h' := (h.below (below_alloc w (.cells #[.int .i64 m.f, .int .i64 m.t, .string m.s] 32))).is
  have H1 := hid (has_any m.f _ h')
  have H2 := hid (has_any m.t _ h')
  have HA := hid hA
  rw [h1] at H1
  rw [h2] at H2
  unfold valM at HA ⊢
  clear h h' h1 h2 hA
  go_enter Try.func17, Try.ntmps17
  go_wp2_with (first
    | (go_at_call 29; have hk := H1; refine (hk.out).mono ?_; rintro e w1 ⟨rfl, hw⟩; have hw := hw.symm; subst hw; clear hk H1)
    | (go_at_call 29; refine (H2.out).mono ?_; rintro e w1 ⟨rfl, hw⟩; have hw := hw.symm; subst hw)
    | (go_at_call 27; refine (HA.out).mono ?_; rintro e w1 ⟨rfl, hR⟩))
  go_ret
  exact ⟨rfl, hR⟩
end Go.Proofs.Ytecfibabeimjoaa
