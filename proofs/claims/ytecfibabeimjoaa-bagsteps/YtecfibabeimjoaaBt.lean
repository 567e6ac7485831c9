import Derived.Test.YtecfibabeimjoaaBs
namespace Go.Proofs.Ytecfibabeimjoaa
open Go.RowKit Go.Maps Go.Sort Go.Shelf

set_option maxHeartbeats 1000000 in
theorem collect (n : Nat) (hn : 3 ≤ n) (g : Nat) (lb : Array Value) (eg : ∀ args w, (callFunc g args).run Try.prog w = .ok (.enter g args) w)
    (S : List Msg → Prop) (N : Nat) (hN : N ≤ 100000000) (w : World) (hseq : SeqGives Fence.wide (n - 1 - 1) Try.prog g lb valM S N w) :
    CallsIn Fence.wide n Try.prog 34 #[.func (.func g) #[] lb] w fun e w' => ∃ (v : Value) (ss : List Msg), e = .returned v ∧ S ss ∧ w'.ownsRow w.heap.size 32 3 v ss.length (mc ss) ∧ (v = .slice none 0 0 ↔ ss = []) ∧ Below w.heap.size w w' := by
  refine callsIn_of_wp Try.func34 rfl trivial ?_ rfl
  simp only [Try.ntmps34, List.size_toArray, List.length_cons, List.length_nil, Nat.reduceAdd, Nat.reduceSub, Array.replicate_succ, Array.replicate_zero, List.push_toArray, List.append_toArray, List.nil_append, List.cons_append]
  have h1 : 1 ≤ n := by omega
  have hf39 : Fence.wide.fn 39 := trivial
  gi_wp2_with (gi_at_call 39; refine (appendSeq Fence.wide (n - 1) trivial rfl (by omega) g lb trivial eg S N hN _ hseq).mono ?_; rintro e w' ⟨v, ss, rfl, hS, hrow, hnil, hb⟩)
  go_ret
  exact ⟨v, ss, rfl, hS, hrow, hnil, hb⟩
/-- messages in their order, each once -/
def Sorted (l : List Msg) : Prop := l.Pairwise ltP
def srt (ss : List Msg) : List Msg := ss.mergeSort fun x y => !(ltOf cfM) y x
theorem srt_perm (ss : List Msg) : (srt ss).Perm ss := List.mergeSort_perm _ _
theorem srt_sorted (ss : List Msg) (h : ss.Nodup) : Sorted (srt ss) := by
  have hle : ∀ a b : Msg, (!(ltOf cfM) b a) = true ↔ ¬ ltP b a := fun a b => by rw [← ltOf_iff]; simp
  have h1 : (srt ss).Pairwise (fun x y => (!(ltOf cfM) y x) = true) := by
    refine List.pairwise_mergeSort (fun a b c h1 h2 => ?_) (fun a b => ?_) ss
    · rw [hle] at *
      intro h3
      by_cases h : ltP a b
      · exact h2 (ltP_trans h3 h)
      · have := ltP_tri h h1
        subst this
        exact h2 h3
    · by_cases h : ltP b a
      · have h2 : ¬ ltP a b := fun h2 => ltP_irr _ (ltP_trans h h2)
        have := (hle b a).2 h2
        simp [this]
      · have := (hle a b).2 h
        simp [this]
  have h2 : (srt ss).Nodup := (srt_perm ss).nodup_iff.2 h
  unfold Sorted
  refine (h1.and h2).imp fun {a b} ⟨k1, k2⟩ => ?_
  rw [hle] at k1
  by_cases h : ltP a b
  · exact h
  · exact absurd (ltP_tri h k1) k2
set_option maxRecDepth 100000 in
set_option maxHeartbeats 2000000 in
theorem sortedFunc (n : Nat) (hn : 4 ≤ n) (g : Nat) (lb : Array Value) (eg : ∀ args w, (callFunc g args).run Try.prog w = .ok (.enter g args) w)
    (S : List Msg → Prop) (N : Nat) (hN : N ≤ 100000000) (w : World) (hseq : SeqGives Fence.wide (n - 1 - 1 - 1) Try.prog g lb valM S N w) :
    CallsIn Fence.wide n Try.prog 30 #[.func (.func g) #[] lb, .func (.func 32) #[] #[]] w fun e w' => ∃ (v : Value) (ss : List Msg), e = .returned v ∧ S ss ∧ ss.length ≤ N ∧ w'.ownsRow w.heap.size 32 3 v ss.length (mc (srt ss)) ∧ Below w.heap.size w w' := by
  refine callsIn_of_wp Try.func30 rfl trivial ?_ rfl
  simp only [Try.ntmps30, List.size_toArray, List.length_cons, List.length_nil, Nat.reduceAdd, Nat.reduceSub, Array.replicate_succ, Array.replicate_zero, List.push_toArray, List.append_toArray, List.nil_append, List.cons_append]
  have h1 : 1 ≤ n := by omega
  have hf34 : Fence.wide.fn 34 := trivial
  have hf35 : Fence.wide.fn 35 := trivial
  gi_wp2_with (gi_at_call 34; refine (collect (n - 1) (by omega) g lb eg _ N hN _ hseq.bounded).mono ?_; rintro e W ⟨v, ss, rfl, ⟨hS, hlen⟩, hrow, hnil, hb⟩)
  rcases hrow.2 with ⟨rfl, hz⟩ | ⟨gb, cap, cur, rfl, hbase, hgb, r1, r2, r3, r4⟩
  · have hss : ss = [] := List.eq_nil_of_length_eq_zero hz
    subst hss
    gi_wp2_with (gi_at_call 35; refine ((callsIn_wide (n := n - 1)).2 (sort_none none 0 _ W)).mono ?_; rintro e w' ⟨rfl, rfl⟩)
    go_ret
    exact ⟨.slice none 0 0, [], rfl, hS, hlen, by simpa [srt, mc] using hrow, hb⟩
  · have hH : HoldsK encM 3 W gb 0 ss.toArray := holds_mc hgb r4
    have hgl : gb < W.heap.size := (Array.getElem?_eq_some_iff.1 hgb).1
    have cS := sort_any gb 0 cap ss.toArray W hH hgl (by simp; omega)
    have e1 : ss.toArray.toList = ss := by simp
    rw [e1] at cS
    have e2 : ss.toArray.size = ss.length := by simp
    rw [e2] at cS
    gi_wp2_with (gi_at_call 35; refine ((callsIn_wide (n := n - 1)).2 cS).mono ?_; rintro e w' ⟨rfl, nn, os, rfl⟩)
    go_ret
    exact ⟨_, ss, rfl, hS, hlen, ownsRow_sortedK ((srt_perm ss).length_eq) hbase hgb r1 r2 r3, hb.grown (grownBy_sortedK _) hb.size (fun j hj => by cases hj; exact hbase)⟩
theorem keysCall (b : Nat) (w : World) : Calls Try.prog 31 #[.map (some b)] w fun e w' => e = .returned (.func (.func 36) #[] #[.pointer (some ⟨w.heap.size, 0, none⟩)]) ∧ w' = w.alloc (.cells #[.map (some b)] 59) := by
  go_enter Try.func31, Try.ntmps31
  go_wp2
  go_ret
  exact ⟨rfl, rfl⟩
/-- a slice that holds messages -/
def LIs (base : Nat) (w : World) (v : Value) (l : List Msg) : Prop := w.ownsRow base 32 3 v l.length (mc l)
set_option maxRecDepth 100000 in
set_option maxHeartbeats 1000000 in
theorem list_any {base g b N : Nat} {n tot : Int} {f : Msg → Option Int} (hN : N ≤ 100000000) (w : World) (h : BIs base g b w N n f tot) : Calls Try.prog 20 #[.pointer (some ⟨g, 0, none⟩)] w fun e w' => ∃ v l, e = .returned v ∧ Sorted l ∧ (∀ x, x ∈ l ↔ (okM x ∧ (f x).isSome = true)) ∧ l.length ≤ N ∧ LIs w.heap.size w' v l ∧ Below w.heap.size w w' := by
  obtain ⟨q0, q1, q2⟩ := three_cells h.cell
  have hM := (h.below (below_alloc w (.cells #[.map (some b)] 59))).map
  have hseq : SeqGives Fence.wide (6 - 1 - 1 - 1) Try.prog 36 #[.pointer (some ⟨w.heap.size, 0, none⟩)] valM (KeysM f) N (w.alloc (.cells #[.map (some b)] 59)) :=
    keys_gives Fence.wide _ trivial rfl (by decide) w.heap.size b N f _ (by simp) (by refine cell_of_one (t := 59) ?_; show (w.heap.push _)[w.heap.size]? = _; simp) hM
  have HS := hid (callsIn_wide.1 (sortedFunc 6 (by decide) 36 _ (enters_of Try.func36 (by kernel_rfl) rfl) _ N hN _ hseq))
  clear hseq hM h
  go_enter Try.func20, Try.ntmps20
  go_wp2_with (first
    | (go_at_call 31; refine (keysCall _ _).mono ?_; rintro e w1 ⟨rfl, rfl⟩)
    | (go_at_call 30; refine (HS.out).mono ?_; rintro e w2 ⟨v, ss, rfl, ⟨hnd, hmem⟩, hlen, hrow, hb⟩))
  go_ret
  refine ⟨v, srt ss, rfl, srt_sorted ss hnd, fun x => ?_, by rw [(srt_perm ss).length_eq]; exact hlen, ?_, (below_alloc _ _).next hb⟩
  · rw [(srt_perm ss).mem_iff]; exact hmem x
  · unfold LIs
    rw [(srt_perm ss).length_eq]
    exact ownsRow_base_a hrow (by simp)
theorem list_nil (w : World) : Calls Try.prog 20 #[.pointer none] w fun e w' => e = .returned (.slice none 0 0) ∧ w' = w := by
  go_enter Try.func20, Try.ntmps20
  go_wp2
  go_ret
  exact ⟨rfl, rfl⟩
end Go.Proofs.Ytecfibabeimjoaa
