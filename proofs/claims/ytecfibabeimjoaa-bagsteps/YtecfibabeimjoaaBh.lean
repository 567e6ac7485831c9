import Derived.Test.YtecfibabeimjoaaBg
namespace Go.Proofs.Ytecfibabeimjoaa
open Go.RowKit Go.Maps

theorem set2 {w : World} {g : Nat} {a b c c' : Value} {t : TypeId} (h : w.heap[g]? = some (.cells #[a, b, c] t (0, 0))) : (w.setCell ⟨g, 2, none⟩ c').heap[g]? = some (.cells #[a, b, c'] t (0, 0)) := by
  simp [World.setCell, Array.getElem?_modify, h]
theorem grown_block {w w' : World} {b k : Nat} {o : Obj} (h : w.grownBy w' (some b)) (hk : w.heap[k]? = some o) (hne : k ≠ b) : w'.heap[k]? = some o := (h.block k (lt_of_block hk) (fun e => hne (Option.some.inj e))).trans hk
set_option maxHeartbeats 1000000 in
theorem add_full {base g b N : Nat} {n : Int} {f : Msg → Option Int} (m : Msg) (w : World) (h : BIs base g b w N n f 1024) : Calls Try.prog 27 #[.pointer (some ⟨g, 0, none⟩), valM m] w fun e w' => e = .returned (.int .i64 5) ∧ Below w.heap.size w w' := by
  obtain ⟨q0, q1, q2⟩ := three_cells h.cell
  have hlt := lt_of_block h.cell
  unfold valM
  clear h
  go_enter Try.func27, Try.ntmps27
  go_wp2
  go_ret
  exact ⟨rfl, below_alloc _ _⟩
set_option maxRecDepth 100000 in
set_option maxHeartbeats 2000000 in
theorem add_ok {base g b N : Nat} {n tot : Int} {f : Msg → Option Int} (m : Msg) (hm : okM m) (hN : N < 1000000) (ht0 : 0 ≤ tot) (ht : tot < 1024) (hc0 : 0 ≤ (f m).getD 0) (hc1 : (f m).getD 0 ≤ 100000) (w : World) (h : BIs base g b w N n f tot) :
    Calls Try.prog 27 #[.pointer (some ⟨g, 0, none⟩), valM m] w fun e w' => e = .returned (.int .i64 0) ∧ BIs base g b w' (N + 1) n (upd f m (some ((f m).getD 0 + 1))) (tot + 1) ∧ Only [g, b] w w' := by
  obtain ⟨q0, q1, q2⟩ := three_cells h.cell
  have hlt := lt_of_block h.cell
  have h' : BIs base g b (w.alloc (.cells #[.int .i64 m.f, .int .i64 m.t, .string m.s] 32)).drew N n f tot := h.below ((below_alloc w _).drew)
  have hO := (below_alloc w (.cells #[.int .i64 m.f, .int .i64 m.t, .string m.s] 32)).drew
  have hlk0 := h'.map.look m hm
  obtain ⟨v0, st, w1, hme, hg1, hs1, hlk1, hst⟩ := h'.map.entry (by unfold maxLen; omega) m hm
  obtain ⟨c, hc⟩ : ∃ c, c = (f m).getD 0 := ⟨_, rfl⟩
  rw [← hc] at hlk0 hlk1 hc0 hc1 ⊢
  obtain ⟨w3, hes, hM3, hg3, hs3⟩ := hst w1 (c + 1) rfl
  have HC1 : w1.heap[g]? = _ := grown_block hg1 h'.cell h.ne
  have HC3 : w3.heap[g]? = _ := grown_block hg3 HC1 h.ne
  obtain ⟨r0, r1, r2⟩ := three_cells HC3
  have hfr := frees HC3
  have hl3 := lt_of_block HC3
  have HO : Hid (Only [g, b] w w3) := ((Only.of_below hO).trans (Only.of_grown hg1 (by simp))).trans (Only.of_grown hg3 (by simp))
  have HM3 := hid hM3
  have HN := hid h.ne
  have HLO := hid h.lo
  have HCC := hid HC3
  have hne : (tot == 1024) = false := by simp; omega
  unfold valM at hlk0 hlk1 hme ⊢
  clear hst hM3 hg1 hg3 hs1 hs3 h h' hO hc HC1 HC3
  go_enter Try.func27, Try.ntmps27
  go_wp2
  go_region
  all_goals
    clear hlk0 hlk1 hme hes
    go_wp2
    go_ret
    exact ⟨rfl, ⟨set2 HCC.out, HM3.out.same (Below.heap_setCell _ _ _ _ HN.out.symm), HN.out, HLO.out⟩, HO.out.trans (Only.setCell _ (by simp))⟩
end Go.Proofs.Ytecfibabeimjoaa
