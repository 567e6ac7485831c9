import Derived.Test.YtfjoajcfpldniaaCh
namespace Go.Proofs.Ytfjoajcfpldniaa
open Go.RowKit Go.Maps

/-- whether a block may be let go -/
def idleF (f : Fr) : Bool := f.p == 0 && !f.y
theorem idle_any (f : Fr) (w : World) : Calls Try.prog 49 #[.agg #[.int .i64 f.p, .bool f.y, .int .i64 f.u]] w fun e w' => e = .returned (.bool (idleF f)) ∧ Below w.heap.size w w' := by
  unfold idleF
  cases hp : (f.p == 0) with
  | true =>
    cases hy : f.y
    all_goals
      go_enter Try.func49, Try.ntmps49
      go_wp2
      go_ret
      exact ⟨by simp, below_alloc _ _⟩
  | false =>
    go_enter Try.func49, Try.ntmps49
    go_wp2
    go_ret
    exact ⟨by simp, below_alloc _ _⟩
theorem room_nil (w : World) : Calls Try.prog 38 #[.pointer none] w fun e w' => e = .returned (.tuple #[.int .i64 (-1), .bool false]) ∧ w' = w := by
  go_enter Try.func38, Try.ntmps38
  go_wp2
  go_ret2
  exact ⟨rfl, rfl⟩
section
variable {B g m N J U : Nat} {L : List Fr}
theorem room_free (hlt : L.length < N) (w : World) (h : CS B g m w N J L U) : Calls Try.prog 38 #[.pointer (some ⟨g, 0, none⟩)] w fun e w' => e = .returned (.tuple #[.int .i64 (-1), .bool true]) ∧ Below w.heap.size w w' := by
  obtain ⟨c0, c1, c2⟩ := h.cells
  have hgl := h.glt
  have hln := (h.mp.same (w' := w.drew) rfl).len 3
  rw [List.length_map] at hln
  have hN := h.n1
  go_enter Try.func38, Try.ntmps38
  go_wp2
  go_region
  all_goals
    go_wp2
    go_ret2
    exact ⟨rfl, ⟨rfl, rfl, rfl, Nat.le_refl _, fun _ _ => rfl⟩⟩
set_option maxRecDepth 100000 in
set_option maxHeartbeats 2000000 in
theorem room_none (hge : N ≤ L.length) (hno : ∀ f ∈ L, idleF f = false) (w : World) (h : CS B g m w N J L U) : Calls Try.prog 38 #[.pointer (some ⟨g, 0, none⟩)] w fun e w' => e = .returned (.tuple #[.int .i64 (-1), .bool false]) ∧ Below w.heap.size w w' := by
  obtain ⟨c0, c1, c2⟩ := h.cells
  have hgl := h.glt
  have hln := (h.mp.same (w' := w.drew) rfl).len 3
  rw [List.length_map] at hln
  have hN := h.n1
  have hlN := h.len
  have HC := hid (h.same (w' := w.drew) rfl rfl (fun _ _ => rfl))
  have HS := hid (sorted_go by_use (List.Perm.refl L) h.us w.drew HC.out)
  have HNo := hid hno
  clear hno
  go_enter Try.func38, Try.ntmps38
  go_wp2
  go_region
  all_goals
    go_wp2_with (go_at_call 31; fail)
    refine (HS.out).mono ?_
    rintro e w1 ⟨v1, rfl, hv1, hb1⟩
    clear hln c0 c1 c2 hgl
    rcases hv1 with ⟨rfl, hL0⟩ | ⟨gb, cap, rfl, hgb, hR⟩
    · have hl0 := congrArg List.length hL0
      simp only [List.length_nil] at hl0
      omega
    · have hle := hR.le
      have hmx := hR.mx
      unfold maxLen at hmx
      have HR := hid hR
      have HB1 : Hid (Below w.heap.size w w1) := hid ⟨hb1.os, hb1.tape, hb1.output, hb1.size, hb1.block⟩
      have HC1 := hid (HC.out.below hb1)
      clear hR hb1 hgb
      go_wp2
      go_loopw [21] (fun i wr => ∃ q : Nat, i = .int .i64 q ∧ q ≤ L.length ∧ Below w1.heap.size w1 wr) (fun i _ => L.length - (intOf i).toNat)
      case atStart => exact ⟨0, rfl, Nat.zero_le _, Below.refl _ _⟩
      case round =>
        obtain ⟨q, rfl, hq, hBq⟩ := hrel
        have HBq := hid hBq
        clear hBq
        by_cases hlt : q < L.length
        · have HRq := hid (HR.out.same (HBq.out.block gb HR.out.lt))
          have cq := HRq.out.cell q hlt
          unfold ptr at cq
          have hgl := HRq.out.lt
          have HFq := hid ((HC1.out.below HBq.out).fr L[q] (List.getElem_mem hlt))
          have hni := HNo.out L[q] (List.getElem_mem hlt)
          obtain ⟨f, hf⟩ : ∃ f, f = L[q] := ⟨_, rfl⟩
          rw [← hf] at cq HFq hni
          clear hf
          obtain ⟨q0, q1, q2, q3, q4⟩ := HFq.out.cells
          have hfl := HFq.out.lt
          have HI := hid (idle_any f wr)
          rw [hni] at HI
          go_wp2_with (first
            | (go_at_call 49; refine (HI.out).mono ?_; rintro e w3 ⟨rfl, hb3⟩))
          go_roundw
          case rel => exact ⟨q + 1, by go_num, by omega, HBq.out.next hb3⟩
          case measure => simp [intOf]; omega
        · go_wp2
          go_ret2
          exact ⟨rfl, HB1.out.next HBq.out⟩
set_option maxRecDepth 100000 in
set_option maxHeartbeats 2000000 in
theorem room_some (hge : N ≤ L.length) {f : Fr} {pre post : List Fr} (hL : L = pre ++ f :: post) (hi : idleF f = true) (hno : ∀ x ∈ pre, idleF x = false) (w : World) (h : CS B g m w N J L U) : Calls Try.prog 38 #[.pointer (some ⟨g, 0, none⟩)] w fun e w' => e = .returned (.tuple #[.int .i64 f.b, .bool true]) ∧ CS B g m w' N J (dropL L f.b) U ∧ Only (fpC g m L) w w' := by
  obtain ⟨c0, c1, c2⟩ := h.cells
  have hgl := h.glt
  have hln := (h.mp.same (w' := w.drew) rfl).len 3
  rw [List.length_map] at hln
  have hN := h.n1
  have hlN := h.len
  have HC := hid (h.same (w' := w.drew) rfl rfl (fun _ _ => rfl))
  have HS := hid (sorted_go by_use (List.Perm.refl L) h.us w.drew HC.out)
  have hm : f ∈ L := by rw [hL]; simp
  have hpl : pre.length < L.length := by rw [hL]; simp
  have HNo : Hid (∀ q (hq : q < L.length), q < pre.length → idleF L[q] = false) := by
    intro q hq hlt
    have e : L[q] = pre[q] := by
      subst hL
      rw [List.getElem_append_left hlt]
    rw [e]
    exact hno _ (List.getElem_mem hlt)
  have HLf : Hid (L[pre.length] = f) := by
    show _ = _
    subst hL
    rw [List.getElem_append_right (Nat.le_refl _)]
    simp
  clear hno hL h
  go_enter Try.func38, Try.ntmps38
  go_wp2
  go_region
  all_goals
    go_wp2_with (go_at_call 31; fail)
    refine (HS.out).mono ?_
    rintro e w1 ⟨v1, rfl, hv1, hb1⟩
    clear hln c0 c1 c2 hgl
    rcases hv1 with ⟨rfl, hL0⟩ | ⟨gb, cap, rfl, hgb, hR⟩
    · have hl0 := congrArg List.length hL0
      simp only [List.length_nil] at hl0
      omega
    · have hle := hR.le
      have hmx := hR.mx
      unfold maxLen at hmx
      have HR := hid hR
      have HB1 : Hid (Below w.heap.size w w1) := hid ⟨hb1.os, hb1.tape, hb1.output, hb1.size, hb1.block⟩
      have HC1 := hid (HC.out.below hb1)
      clear hR hb1 hgb
      go_wp2
      go_loopw [21] (fun i wr => ∃ q : Nat, i = .int .i64 q ∧ q ≤ pre.length ∧ Below w1.heap.size w1 wr) (fun i _ => L.length - (intOf i).toNat)
      case atStart => exact ⟨0, rfl, Nat.zero_le _, Below.refl _ _⟩
      case round =>
        obtain ⟨q, rfl, hq, hBq⟩ := hrel
        have HBq := hid hBq
        clear hBq
        have hlt : q < L.length := by omega
        have HRq := hid (HR.out.same (HBq.out.block gb HR.out.lt))
        have cq := HRq.out.cell q hlt
        unfold ptr at cq
        have hgl := HRq.out.lt
        have HCq := hid (HC1.out.below HBq.out)
        have HFq := hid (HCq.out.fr L[q] (List.getElem_mem hlt))
        by_cases hqp : q < pre.length
        · have hni := HNo.out q hlt hqp
          obtain ⟨x, hx⟩ : ∃ x, x = L[q] := ⟨_, rfl⟩
          rw [← hx] at cq HFq hni
          clear hx
          obtain ⟨q0, q1, q2, q3, q4⟩ := HFq.out.cells
          have hfl := HFq.out.lt
          have HI := hid (idle_any x wr)
          rw [hni] at HI
          go_wp2_with (first
            | (go_at_call 49; refine (HI.out).mono ?_; rintro e w3 ⟨rfl, hb3⟩))
          go_roundw
          case rel => exact ⟨q + 1, by go_num, by omega, HBq.out.next hb3⟩
          case measure => simp [intOf]; omega
        · have hqe : q = pre.length := by omega
          subst hqe
          rw [HLf.out] at cq HFq
          obtain ⟨q0, q1, q2, q3, q4⟩ := HFq.out.cells
          have hfl := HFq.out.lt
          have HI := hid (idle_any f wr)
          rw [hi] at HI
          go_upto_region 9 with (first
            | (go_at_call 49; refine (HI.out).mono ?_; rintro e w3 ⟨rfl, hb3⟩))
          have HC3 := hid (HCq.out.below hb3)
          have HB3 : Hid (Below w.heap.size w w3) := hid ((HB1.out.next HBq.out).next hb3)
          have hr := HC3.out.rt f hm
          obtain ⟨w4, hdel, hM4, hg4, hs4⟩ := (HC3.out.mp.same (w' := w3.drew) rfl).drop f.b ⟨by omega, by omega⟩ (List.any_eq_true.2 ⟨ent f, List.mem_map_of_mem hm, by simp [ent]⟩) 0
          obtain ⟨_, c1, _⟩ := HC3.out.cells
          have hgl3 := HC3.out.glt
          have hF3 := HC3.out.fr f hm
          obtain ⟨_, _, _, p3, _⟩ := hF3.cells
          have hfl3 := hF3.lt
          have hF4 : FIs w4 f := hF3.same (hg4.block f.a (by simpa using hfl3) (fun e => HC3.out.am hm (by cases e; rfl)))
          obtain ⟨_, _, _, p4, _⟩ := hF4.cells
          have hfl4 := hF4.lt
          have HC4 : Hid (CS B g m w4 N J (dropL L f.b) U) := by
            have e : (dropL L f.b).map ent = (L.map ent).filter (fun x => x.b != f.b) := by
              unfold dropL
              rw [List.filter_map]
              rfl
            have hk : ∀ x, x < w3.heap.size → x ≠ m → w4.heap[x]? = w3.heap[x]? := fun x hx hne => hg4.block x (by simpa using hx) (fun e => hne (by cases e; rfl))
            exact hid ⟨(hk g hgl3 HC3.out.gm).trans HC3.out.c, by rw [e]; exact hM4, fun y hy => (HC3.out.fr y (mem_drop.1 hy).1).same (hk _ (HC3.out.fr y (mem_drop.1 hy).1).lt (HC3.out.am (mem_drop.1 hy).1)), HC3.out.us.filter _, fun y hy => HC3.out.ub y (mem_drop.1 hy).1, fun y hy => HC3.out.rt y (mem_drop.1 hy).1, Nat.le_trans (List.length_filter_le _ _) HC3.out.len, HC3.out.n1, HC3.out.uj, HC3.out.j1, HC3.out.b1, HC3.out.b2, fun y hy => HC3.out.b3 y (mem_drop.1 hy).1⟩
          have HO4 : Hid (Only (fpC g m L) w w4) := hid ((Only.of_below HB3.out).trans (show Only (fpC g m L) w3 w4 from ⟨hg4.os, hg4.tape, hg4.output, hg4.size, fun k hk hn => hg4.block k hk (fun e => hn (by cases e; simp [fpC]))⟩))
          clear hM4 hg4 hs4 hF3 hF4 hb3
          go_region
          all_goals
            go_wp2
            go_ret2
            exact ⟨rfl, HC4.out, HO4.out⟩
end
end Go.Proofs.Ytfjoajcfpldniaa
