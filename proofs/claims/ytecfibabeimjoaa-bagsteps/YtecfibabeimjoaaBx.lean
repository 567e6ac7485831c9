import Derived.Test.YtecfibabeimjoaaBw
namespace Go.Proofs.Ytecfibabeimjoaa
open Go.RowKit Go.Maps Go.Sort Go.Shelf

/-- the place of a message in the list, or none -/
def inL (L : List Msg) (i : Int) : Prop := 0 ≤ i ∧ i < ((dd L).length : Int)
theorem past {w w2 : World} {o x : Obj} {v : Nat} (h : Below (w.alloc x).heap.size (w.alloc x) w2) (hv : w.heap[v]? = some o) : w2.heap[v]? = some o :=
  ((h.block _ (by show _ < (w.heap.push x).size; have := lt_of_block hv; simp; omega))).trans ((Below.heap_alloc w x _ (lt_of_block hv)).trans hv)
theorem only_kept {w w' : World} {fp : List Nat} {o : Obj} {v : Nat} (h : Only fp w w') (hv : w.heap[v]? = some o) (hn : v ∉ fp) : w'.heap[v]? = some o := (h.block v (lt_of_block hv) hn).trans hv
theorem Bag.gb {base g b N : Nat} {w : World} {n : Int} {L : List Msg} (h : Bag base g b w N n L) : g < w.heap.size ∧ b < w.heap.size := ⟨lt_of_block h.is.cell, h.is.map.lt⟩
set_option maxRecDepth 100000 in
set_option maxHeartbeats 1000000 in
theorem deliver_none {base g b N : Nat} {n : Int} {L : List Msg} (i : Int) (hi : ¬ inL L i) (hN : N ≤ 100000000) (w : World) (h : Bag base g b w N n L) : Calls Try.prog 11 #[.pointer (some ⟨g, 0, none⟩), .int .i64 i] w fun e w' => e = .returned (.tuple #[.agg #[.int .i64 0, .int .i64 0, .string ByteArray.empty], .int .i64 6]) ∧ Below w.heap.size w w' := by
  have h' := h.below (below_alloc w (.cells #[.int .i64 0, .int .i64 0, .string ByteArray.empty] 32))
  have HA := hid (at_none i hi hN _ h')
  clear h h' hi
  go_enter Try.func11, Try.ntmps11
  go_wp2_with (first
    | (go_at_call 25; refine (HA.out).mono ?_; rintro e w1 ⟨rfl, hb1⟩; have HV := hid (var_a hb1); have HB := hid ((below_alloc _ _).next hb1); obtain ⟨q0, q1, q2⟩ := three_cells HV.out; have hfr := frees HV.out; have hl := lt_of_block HV.out; clear hb1))
  refine bodyPost_ret (v := .tuple #[.agg #[.int .i64 0, .int .i64 0, .string ByteArray.empty], .int .i64 6]) (by simp [results, Try.results11, go_sem, q0, q1, q2, hl]; rfl) rfl ⟨rfl, ?_⟩
  exact (HB.out.trans ((set3 (fp := [w.heap.size]) (by simp) _ _ _).below (HB.out.size) (by simp))).next (below_alloc _ _)
set_option maxRecDepth 100000 in
set_option maxHeartbeats 1000000 in
theorem deliver_some {base g b N : Nat} {n : Int} {L : List Msg} (i : Nat) (hi : i < (dd L).length) (hN : N < 1000000) (w : World) (h : Bag base g b w N n L) : Calls Try.prog 11 #[.pointer (some ⟨g, 0, none⟩), .int .i64 i] w fun e w' => e = .returned (.tuple #[valM (dd L)[i], .int .i64 0]) ∧ Bag base g b w' (N + 1) n (del (dd L)[i] L) ∧ Only [g, b] w w' := by
  have h' := h.below (below_alloc w (.cells #[.int .i64 0, .int .i64 0, .string ByteArray.empty] 32))
  have HA := hid (at_some i hi (by omega) _ h')
  have hm : (dd L)[i] ∈ L := mem_dd.1 (List.getElem_mem hi)
  obtain ⟨m, hmm⟩ : ∃ m, m = (dd L)[i] := ⟨_, rfl⟩
  rw [← hmm] at HA hm ⊢
  have HT := hid (fun w (h : Bag base g b w N n L) => bag_take m hm hN w h)
  have hgl := h'.gb
  have hne : w.heap.size ∉ [g, b] := by have := h.gb; simp; omega
  have H' := hid h'
  have HNE := hid hne
  unfold valM at HA HT ⊢
  clear h h' hmm hm hne hgl
  go_enter Try.func11, Try.ntmps11
  go_wp2_with (first
    | (go_at_call 25; refine (HA.out).mono ?_; rintro e w1 ⟨rfl, hb1⟩; have HV := hid (var_a hb1); have HB := hid ((below_alloc _ _).next hb1); have HG1 := hid (H'.out.below hb1); clear hb1; have hl := lt_of_block HV.out)
    | (go_at_call 26; refine (HT.out _ (HG1.out.below (below_alloc _ _))).mono ?_; rintro e w2 ⟨rfl, hB2, hO2⟩; have HB2 := hid hB2; have HO2 := hid hO2; clear hB2 hO2; have HV2 := hid (only_kept HO2.out ((Below.heap_alloc w1 (.cells #[.int .i64 m.f, .int .i64 m.t, .string m.s] 32) _ hl).trans HV.out) HNE.out); have HX2 : Hid (w2.heap[w1.heap.size]? = some (.cells #[.int .i64 m.f, .int .i64 m.t, .string m.s] 32 (0, 0))) := only_kept HO2.out (by show (w1.heap.push _)[w1.heap.size]? = _; simp) (by have := HG1.out.gb; simp; omega); obtain ⟨q0, q1, q2⟩ := three_cells HV2.out; have hfr := frees HV2.out; obtain ⟨r0, r1, r2⟩ := three_cells HX2.out))
  refine bodyPost_ret (v := .tuple #[.agg #[.int .i64 m.f, .int .i64 m.t, .string m.s], .int .i64 0]) (by simp [results, Try.results11, go_sem, q0, q1, q2]) rfl ⟨rfl, ?_, ?_⟩
  · exact HB2.out.other (set3 (fp := [w.heap.size]) (by simp) _ _ _) (by have := HNE.out; simp at this ⊢; omega) (by have := HNE.out; simp at this ⊢; omega)
  · have k1 : Only [g, b] w w2 := ((Only.of_below HB.out).trans (Only.of_below (below_alloc _ _))).trans HO2.out
    refine ⟨k1.os, k1.tape, k1.output, ?_, fun k hk hn => ?_⟩
    · have := k1.size; simpa [World.setCell] using this
    · have e := (set3 (w := w2) (g := w.heap.size) (fp := [w.heap.size]) (by simp) (.int .i64 m.f) (.int .i64 m.t) (.string m.s)).block k (Nat.lt_of_lt_of_le hk k1.size) (by simp; omega)
      exact e.trans (k1.block k hk hn)
set_option maxHeartbeats 1000000 in
theorem drop_any (p v : Value) (r : Int) (a1 a2 : Int) (a3 : ByteArray) (R : World → Prop) (w : World) (hD : Calls Try.prog 11 #[p, v] w fun e w' => e = .returned (.tuple #[.agg #[.int .i64 a1, .int .i64 a2, .string a3], .int .i64 r]) ∧ R w') :
    Calls Try.prog 14 #[p, v] w fun e w' => ∃ w1, e = .returned (.int .i64 r) ∧ R w1 ∧ w' = w1.alloc (.cells #[.int .i64 a1, .int .i64 a2, .string a3] 32) := by
  have HD := hid hD
  clear hD
  go_enter Try.func14, Try.ntmps14
  go_wp2_with (first
    | (go_at_call 11; refine (HD.out).mono ?_; rintro e w1 ⟨rfl, hR⟩))
  go_ret
  exact ⟨w1, rfl, hR, rfl⟩
theorem drop_none {base g b N : Nat} {n : Int} {L : List Msg} (i : Int) (hi : ¬ inL L i) (hN : N ≤ 100000000) (w : World) (h : Bag base g b w N n L) : Calls Try.prog 14 #[.pointer (some ⟨g, 0, none⟩), .int .i64 i] w fun e w' => e = .returned (.int .i64 6) ∧ Below w.heap.size w w' :=
  (drop_any _ _ 6 0 0 ByteArray.empty (fun w' => Below w.heap.size w w') w (deliver_none i hi hN w h)).mono fun e w' ⟨w1, he, hb, hw⟩ => ⟨he, by rw [hw]; exact hb.next (below_alloc _ _)⟩
theorem drop_some {base g b N : Nat} {n : Int} {L : List Msg} (i : Nat) (hi : i < (dd L).length) (hN : N < 1000000) (w : World) (h : Bag base g b w N n L) : Calls Try.prog 14 #[.pointer (some ⟨g, 0, none⟩), .int .i64 i] w fun e w' => e = .returned (.int .i64 0) ∧ Bag base g b w' (N + 1) n (del (dd L)[i] L) ∧ Only [g, b] w w' :=
  (drop_any _ _ 0 _ _ _ (fun w' => Bag base g b w' (N + 1) n (del (dd L)[i] L) ∧ Only [g, b] w w') w (deliver_some i hi hN w h)).mono fun e w' ⟨w1, he, hb, hw⟩ => ⟨he, by rw [hw]; exact ⟨hb.1.below (below_alloc _ _), hb.2.trans (Only.of_below (below_alloc _ _))⟩⟩
set_option maxRecDepth 100000 in
set_option maxHeartbeats 1000000 in
theorem twice_none {base g b N : Nat} {n : Int} {L : List Msg} (i : Int) (hi : ¬ inL L i) (hN : N ≤ 100000000) (w : World) (h : Bag base g b w N n L) : Calls Try.prog 15 #[.pointer (some ⟨g, 0, none⟩), .int .i64 i] w fun e w' => e = .returned (.int .i64 6) ∧ Below w.heap.size w w' := by
  have HA := hid (at_none i hi hN _ h)
  clear h hi
  go_enter Try.func15, Try.ntmps15
  go_wp2_with (first
    | (go_at_call 25; refine (HA.out).mono ?_; rintro e w1 ⟨rfl, hb1⟩))
  go_ret
  exact ⟨rfl, hb1.next (below_alloc _ _)⟩
set_option maxRecDepth 100000 in
set_option maxHeartbeats 1000000 in
theorem twice_go {base g b N : Nat} {n : Int} {L : List Msg} (i : Nat) (hi : i < (dd L).length) (hN : N ≤ 100000000) (r : Int) (R : World → World → Prop) (w : World) (h : Bag base g b w N n L)
    (hA : ∀ w1, Bag base g b w1 N n L → Calls Try.prog 27 #[.pointer (some ⟨g, 0, none⟩), valM (dd L)[i]] w1 fun e w' => e = .returned (.int .i64 r) ∧ R w1 w') :
    Calls Try.prog 15 #[.pointer (some ⟨g, 0, none⟩), .int .i64 i] w fun e w' => ∃ w1, e = .returned (.int .i64 r) ∧ Below w.heap.size w w1 ∧ Bag base g b w1 N n L ∧ R w1 w' := by
  have HA := hid (at_some i hi hN _ h)
  obtain ⟨m, hmm⟩ : ∃ m, m = (dd L)[i] := ⟨_, rfl⟩
  rw [← hmm] at HA hA
  have HH := hid hA
  have H' := hid h
  unfold valM at HA HH
  clear h hmm hA
  go_enter Try.func15, Try.ntmps15
  go_wp2_with (first
    | (go_at_call 25; refine (HA.out).mono ?_; rintro e w1 ⟨rfl, hb1⟩; have HB := hid (hb1.next (below_alloc w1 (.cells #[.int .i64 m.f, .int .i64 m.t, .string m.s] 32))); clear hb1)
    | (go_at_call 27; refine (HH.out _ (H'.out.below HB.out)).mono ?_; rintro e w2 ⟨rfl, hR⟩))
  go_ret
  exact ⟨_, rfl, HB.out, H'.out.below HB.out, hR⟩
end Go.Proofs.Ytecfibabeimjoaa
