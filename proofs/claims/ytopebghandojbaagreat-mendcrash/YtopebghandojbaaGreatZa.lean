import Derived.Test.YtopebghandojbaaGreatHsf
import Derived.Test.YtopebghandojbaaGreatDdo
namespace Go.Proofs.YtopebghandojbaaGreat
open Go.RowKit Go.Maps

/-- are changes of blocks from one on, ahead of another? -/
def withinB (lo hi : Int) (l : List Chg) : Bool := l.all fun c => decide (lo ≤ c.b) && decide (c.b < hi)
set_option maxRecDepth 100000 in
set_option maxHeartbeats 2000000 in
theorem within_any (v : Value) (l : List Chg) (B J I r0 r1 r2 r3 r4 : Int) (w : World) (h : CLie w v l) :
    Calls Tryz.prog 42 #[v, .agg #[.int .i64 B, .int .i64 J, .int .i64 I], .agg #[.int .i64 r0, .int .i64 r1, .int .i64 r2, .int .i64 r3, .int .i64 r4]] w fun e w' => e = .returned (.bool (withinB r1 B l)) ∧ Below w.heap.size w w' := by
  obtain ⟨ao, cap, rfl, hlc, hcm, hcell⟩ := h
  have HC := hid hcell
  clear hcell
  unfold maxLen at hcm
  obtain ⟨A, hA⟩ : ∃ A : Bool, A = withinB r1 B l := ⟨_, rfl⟩
  rw [← hA]
  have HA := hid hA
  clear hA
  go_enter Tryz.func42, Tryz.ntmps42
  go_wp2
  go_loopw [11] (fun i wr => ∃ q : Nat, i = .int .i64 q ∧ q ≤ l.length ∧ withinB r1 B l = withinB r1 B (l.drop q) ∧ wr.heap[w.heap.size]? = some (.cells #[.int .i64 B, .int .i64 J, .int .i64 I] 23 (0, 0)) ∧
      wr.heap[w.heap.size + 1]? = some (.cells #[.int .i64 r0, .int .i64 r1, .int .i64 r2, .int .i64 r3, .int .i64 r4] 84 (0, 0)) ∧ Below w.heap.size w wr) (fun i _ => l.length - (intOf i).toNat)
  case atStart => exact ⟨0, rfl, Nat.zero_le _, rfl, (Sh.var_2 (Below.refl _ _)).1, (Sh.var_2 (Below.refl _ _)).2, Sh.bel_2 (Below.refl _ _)⟩
  case round =>
    obtain ⟨q, rfl, hq, hr, hv1, hv2, hB⟩ := hrel
    have HV1 := hid hv1
    have HV2 := hid hv2
    obtain ⟨a0, a1, a2⟩ := three_cells hv1
    obtain ⟨b0, b1, b2, b3, b4⟩ := Sh.five_cells hv2
    have hs1 := lt_of_block hv1
    have hs2 := lt_of_block hv2
    have HB := hid hB
    have HRR := hid hr
    clear hv1 hv2 a1 a2 b0 b2 b3 b4 hr hB
    by_cases hqk : q < l.length
    · obtain ⟨gb, off, e, hgl, c0, c1⟩ := HC.out q hqk
      subst e
      have HD := hid (drop_at l q hqk)
      obtain ⟨c, hc⟩ : ∃ c, c = l[q] := ⟨_, rfl⟩
      rw [← hc] at c0 c1 HD
      clear hc
      replace c0 := (HB.out.cell (p := ⟨gb, off + q * 2, none⟩) hgl).trans c0
      replace c1 := (HB.out.cell (p := ⟨gb, off + q * 2 + 1, none⟩) hgl).trans c1
      have hgr : gb < wr.heap.size := Nat.lt_of_lt_of_le hgl HB.out.size
      have HN : Hid (withinB r1 B l = ((decide (r1 ≤ c.b) && decide (c.b < B)) && withinB r1 B (l.drop (q + 1)))) := by
        show _ = _
        rw [HRR.out, HD.out]; rfl
      by_cases h1 : c.b < r1
      · go_wp2
        go_ret
        refine ⟨?_, HB.out.next (below_alloc _ _)⟩
        rw [HA.out, HN.out, decide_eq_false (by omega)]; rfl
      · by_cases h2 : c.b < B
        · go_wp2
          go_roundw
          case rel =>
            refine ⟨q + 1, by go_num, by omega, ?_, (Below.heap_alloc _ _ _ hs1).trans HV1.out, (Below.heap_alloc _ _ _ hs2).trans HV2.out, HB.out.next (below_alloc _ _)⟩
            rw [HN.out, decide_eq_true (by omega), decide_eq_true h2]; rfl
          case measure => simp only [intOf] at *; omega
        · go_wp2
          go_ret
          refine ⟨?_, HB.out.next (below_alloc _ _)⟩
          rw [HA.out, HN.out, decide_eq_false (p := c.b < B) (by omega), Bool.and_false]; rfl
    · have hql : q = l.length := by omega
      subst hql
      go_wp2
      go_ret
      refine ⟨?_, HB.out⟩
      rw [HA.out, HRR.out, List.drop_length]; rfl
theorem CLie.nil (w : World) : CLie w (.slice none 0 0) [] := ⟨none, 0, rfl, Nat.le_refl _, Nat.zero_le _, fun i hi => by simp at hi⟩
theorem right_none (w : World) : Calls Tryz.prog 41 #[.slice none 0 0] w fun e w' => e = .returned (.bool true) ∧ w' = w := by
  go_enter Tryz.func41, Tryz.ntmps41
  go_wp2
  go_loopw [6] (fun i wr => i = .int .i64 0 ∧ wr = w) (fun _ _ => 0)
  case atStart => exact ⟨rfl, rfl⟩
  case round =>
    obtain ⟨rfl, rfl⟩ := hrel
    go_wp2
    go_ret
    exact ⟨rfl, rfl⟩
end Go.Proofs.YtopebghandojbaaGreat
