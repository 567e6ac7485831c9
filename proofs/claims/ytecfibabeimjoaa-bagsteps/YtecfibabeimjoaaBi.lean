import Derived.Test.YtecfibabeimjoaaBh
namespace Go.Proofs.Ytecfibabeimjoaa
open Go.RowKit Go.Maps

theorem box_there (w : World) (o : Obj) : (w.alloc o).drew.heap[w.heap.size]? = some o := by show (w.heap.push o)[w.heap.size]? = _; simp
set_option maxRecDepth 100000 in
set_option maxHeartbeats 2000000 in
theorem take_more {base g b N : Nat} {n tot c : Int} {f : Msg → Option Int} (m : Msg) (hm : okM m) (hN : N < 1000000) (ht0 : 0 ≤ tot) (ht : tot ≤ 1024) (hf : f m = some c) (hc0 : 2 ≤ c) (hc1 : c ≤ 100000) (w : World) (h : BIs base g b w N n f tot) :
    Calls Try.prog 26 #[.pointer (some ⟨g, 0, none⟩), valM m] w fun e w' => e = .returned (.tuple #[]) ∧ BIs base g b w' (N + 1) n (upd f m (some (c - 1))) (tot - 1) ∧ Only [g, b] w w' := by
  obtain ⟨q0, q1, q2⟩ := three_cells h.cell
  have hlt := lt_of_block h.cell
  have h' : BIs base g b (w.alloc (.cells #[.int .i64 m.f, .int .i64 m.t, .string m.s] 32)).drew N n f tot := h.below ((below_alloc w _).drew)
  have hO := (below_alloc w (.cells #[.int .i64 m.f, .int .i64 m.t, .string m.s] 32)).drew
  have hX := box_there w (.cells #[.int .i64 m.f, .int .i64 m.t, .string m.s] 32)
  have hxb : w.heap.size ≠ b := by have := h.map.lt; omega
  have hlk0 := h'.map.look m hm
  obtain ⟨v0, st, w1, hme, hg1, hs1, hlk1, hst⟩ := h'.map.entry (by unfold maxLen; omega) m hm
  rw [hf] at hlk0 hlk1
  simp only [Option.getD_some] at hlk0 hlk1
  obtain ⟨w3, hes, hM3, hg3, hs3⟩ := hst w1 (c - 1) rfl
  have HC1 : w1.heap[g]? = _ := grown_block hg1 h'.cell h.ne
  have HC3 : w3.heap[g]? = _ := grown_block hg3 HC1 h.ne
  have HX3 : w3.heap[w.heap.size]? = _ := grown_block hg3 (grown_block hg1 hX hxb) hxb
  have hlk3 : (Instr.lookup 59 (.map (some b)) (valM m) false).run Try.prog w3.drew = .ok (.int .i64 (c - 1)) w3.drew := by
    have := (hM3.same (w' := w3.drew) rfl).look m hm
    rw [upd_same] at this
    exact this
  obtain ⟨r0, r1, r2⟩ := three_cells HC3
  obtain ⟨x0, x1, x2⟩ := three_cells HX3
  have hfr := frees HC3
  have hl3 := lt_of_block HC3
  have HO : Hid (Only [g, b] w w3) := ((Only.of_below hO).trans (Only.of_grown hg1 (by simp))).trans (Only.of_grown hg3 (by simp))
  have HM3 := hid hM3
  have HN := hid h.ne
  have HLO := hid h.lo
  have HCC := hid HC3
  have hz : (c - 1 == 0) = false := by simp; omega
  unfold valM at hlk0 hlk1 hme hlk3 ⊢
  clear hst hM3 hg1 hg3 hs1 hs3 h h' hO HC1 HC3 HX3 hX hxb hf
  go_enter Try.func26, Try.ntmps26
  go_wp2
  go_region
  all_goals
    clear hlk0 hlk1 hme hes q0 q1 q2
    go_wp2
    go_region
    all_goals
      clear hlk3
      go_wp2
      go_end0
      exact ⟨rfl, ⟨set2 HCC.out, HM3.out.same (Below.heap_setCell _ _ _ _ HN.out.symm), HN.out, HLO.out⟩, (HO.out.drew).trans (Only.setCell _ (by simp))⟩
set_option maxRecDepth 100000 in
set_option maxHeartbeats 2000000 in
theorem take_last {base g b N : Nat} {n tot : Int} {f : Msg → Option Int} (m : Msg) (hm : okM m) (hN : N < 1000000) (ht0 : 0 ≤ tot) (ht : tot ≤ 1024) (hf : f m = some 1) (w : World) (h : BIs base g b w N n f tot) :
    Calls Try.prog 26 #[.pointer (some ⟨g, 0, none⟩), valM m] w fun e w' => e = .returned (.tuple #[]) ∧ BIs base g b w' (N + 1) n (upd f m none) (tot - 1) ∧ Only [g, b] w w' := by
  obtain ⟨q0, q1, q2⟩ := three_cells h.cell
  have hlt := lt_of_block h.cell
  have h' : BIs base g b (w.alloc (.cells #[.int .i64 m.f, .int .i64 m.t, .string m.s] 32)).drew N n f tot := h.below ((below_alloc w _).drew)
  have hO := (below_alloc w (.cells #[.int .i64 m.f, .int .i64 m.t, .string m.s] 32)).drew
  have hX := box_there w (.cells #[.int .i64 m.f, .int .i64 m.t, .string m.s] 32)
  have hxb : w.heap.size ≠ b := by have := h.map.lt; omega
  have hlk0 := h'.map.look m hm
  obtain ⟨v0, st, w1, hme, hg1, hs1, hlk1, hst⟩ := h'.map.entry (by unfold maxLen; omega) m hm
  rw [hf] at hlk0 hlk1
  simp only [Option.getD_some] at hlk0 hlk1
  obtain ⟨w3, hes, hM3, hg3, hs3⟩ := hst w1 0 rfl
  have HC1 : w1.heap[g]? = _ := grown_block hg1 h'.cell h.ne
  have HC3 : w3.heap[g]? = _ := grown_block hg3 HC1 h.ne
  have HX3 : w3.heap[w.heap.size]? = _ := grown_block hg3 (grown_block hg1 hX hxb) hxb
  have hlk3 : (Instr.lookup 59 (.map (some b)) (valM m) false).run Try.prog w3.drew = .ok (.int .i64 0) w3.drew := by
    have := (hM3.same (w' := w3.drew) rfl).look m hm
    rw [upd_same] at this
    exact this
  obtain ⟨w5, hdel, hM5, hg5, hs5⟩ := (hM3.same (w' := w3.drew.drew) rfl).drop m hm 0
  have HC5 : w5.heap[g]? = _ := grown_block hg5 (show w3.drew.drew.heap[g]? = _ from HC3) h.ne
  obtain ⟨s0, s1, s2⟩ := three_cells HC5
  have hfr5 := frees HC5
  have hl5 := lt_of_block HC5
  have hM5' : MIs b w5 (N + 1) (upd f m none) := by
    have e : upd (upd f m (some 0)) m none = upd f m none := by
      funext j
      by_cases e : j = m
      · subst e; rw [upd_same, upd_same]
      · rw [upd_other _ _ e, upd_other _ _ e, upd_other _ _ e]
    rw [← e]
    exact hM5
  obtain ⟨r0, r1, r2⟩ := three_cells HC3
  obtain ⟨x0, x1, x2⟩ := three_cells HX3
  have hfr := frees HC3
  have hl3 := lt_of_block HC3
  have HO : Hid (Only [g, b] w w3) := ((Only.of_below hO).trans (Only.of_grown hg1 (by simp))).trans (Only.of_grown hg3 (by simp))
  have HO5 : Hid (Only [g, b] w w5) := (HO.out.drew.drew).trans (Only.of_grown hg5 (by simp))
  have HM3 := hid hM5'
  have HN := hid h.ne
  have HLO := hid h.lo
  have HCC := hid HC5
  unfold valM at hlk0 hlk1 hme hlk3 hdel ⊢
  clear hst hM3 hM5 hM5' hg5 hs5 HC5 hg1 hg3 hs1 hs3 h h' hO HC1 HC3 HX3 hX hxb hf
  go_enter Try.func26, Try.ntmps26
  go_wp2
  go_region
  all_goals
    clear hlk0 hlk1 hme hes q0 q1 q2
    go_wp2
    go_region
    all_goals
      clear hlk3
      go_wp2
      go_region
      all_goals
        clear hdel
        go_wp2
        go_end0
        exact ⟨rfl, ⟨set2 HCC.out, HM3.out.same (Below.heap_setCell _ _ _ _ HN.out.symm), HN.out, HLO.out⟩, HO5.out.trans (Only.setCell _ (by simp))⟩
end Go.Proofs.Ytecfibabeimjoaa
