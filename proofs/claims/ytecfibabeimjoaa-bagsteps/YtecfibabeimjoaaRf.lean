import Derived.Test.YtecfibabeimjoaaRd
namespace Go.Proofs.Ytecfibabeimjoaa
open Go.RowKit Go.Maps Go.Sort Go.Shelf
set_option maxRecDepth 100000 in
set_option maxHeartbeats 2000000 in
theorem rdeliver_no {B1 g : Nat} {n : Int} {v : Value} {L : List Msg} (i : Int) (hi : ¬ inL L i) (w : World) (h : RB B1 g w n v L) : Calls Try.prog 12 #[.pointer (some ⟨g, 0, none⟩), .int .i64 i] w fun e w' => e = .returned (.tuple #[.agg #[.int .i64 0, .int .i64 0, .string ByteArray.empty], .int .i64 6]) ∧ Below w.heap.size w w' := by
  have h' := h.below (below_alloc w (.cells #[.int .i64 0, .int .i64 0, .string ByteArray.empty] 37))
  have HL := hid (rlist_any _ h')
  have hlen : (dd L).length ≤ 1024 := Nat.le_trans (dd_len_le L) h.le
  unfold inL at hi
  obtain ⟨l, hl⟩ : ∃ l, l = dd L := ⟨_, rfl⟩
  rw [← hl] at HL hlen hi
  clear hl h h'
  by_cases h0 : i < 0
  · go_enter Try.func12, Try.ntmps12
    go_wp2_with (go_at_call 21; fail)
    refine (HL.out).mono ?_
    rintro e w2 ⟨v2, rfl, hL2, hb2⟩
    obtain ⟨ao2, cap2, rfl⟩ := hL2.len
    clear hi
    have HV := hid (var_a hb2)
    have HB := hid ((below_alloc _ _).next hb2)
    obtain ⟨q0, q1, q2⟩ := three_cells HV.out
    have hfr := frees HV.out
    have hlv := lt_of_block HV.out
    go_wp2
    refine bodyPost_ret (v := .tuple #[.agg #[.int .i64 0, .int .i64 0, .string ByteArray.empty], .int .i64 6]) (by simp [results, Try.results12, go_sem, q0, q1, q2]; rfl) rfl ⟨rfl, ?_⟩
    exact HB.out.trans ((set3 (fp := [w.heap.size]) (by simp) _ _ _).below (HB.out.size) (by simp))
  · have h1 : (l.length : Int) ≤ i := by omega
    go_enter Try.func12, Try.ntmps12
    go_wp2_with (go_at_call 21; fail)
    refine (HL.out).mono ?_
    rintro e w2 ⟨v2, rfl, hL2, hb2⟩
    obtain ⟨ao2, cap2, rfl⟩ := hL2.len
    clear hi
    have HV := hid (var_a hb2)
    have HB := hid ((below_alloc _ _).next hb2)
    obtain ⟨q0, q1, q2⟩ := three_cells HV.out
    have hfr := frees HV.out
    have hlv := lt_of_block HV.out
    go_wp2
    refine bodyPost_ret (v := .tuple #[.agg #[.int .i64 0, .int .i64 0, .string ByteArray.empty], .int .i64 6]) (by simp [results, Try.results12, go_sem, q0, q1, q2]; rfl) rfl ⟨rfl, ?_⟩
    exact HB.out.trans ((set3 (fp := [w.heap.size]) (by simp) _ _ _).below (HB.out.size) (by simp))
end Go.Proofs.Ytecfibabeimjoaa
