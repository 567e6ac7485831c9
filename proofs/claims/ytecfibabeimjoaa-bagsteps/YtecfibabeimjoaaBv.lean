import Derived.Test.YtecfibabeimjoaaBu
namespace Go.Proofs.Ytecfibabeimjoaa
open Go.RowKit Go.Maps Go.Sort Go.Shelf

/-- a bag that has the messages L, each as often as it stands there -/
structure Bag (base g b : Nat) (w : World) (N : Nat) (n : Int) (L : List Msg) : Prop where
  is : BIs base g b w N n (fL L) L.length
  ok : ∀ x ∈ L, okM x
  le : L.length ≤ 1024
  so : SortedR L
theorem Bag.below {base g b N : Nat} {w w' : World} {n : Int} {L : List Msg} (h : Bag base g b w N n L) (k : Below w.heap.size w w') : Bag base g b w' N n L := ⟨h.is.below k, h.ok, h.le, h.so⟩
theorem Bag.other {base g b N : Nat} {w w' : World} {n : Int} {L : List Msg} {fp : List Nat} (h : Bag base g b w N n L) (k : Only fp w w') (h1 : g ∉ fp) (h2 : b ∉ fp) : Bag base g b w' N n L := ⟨h.is.other k h1 h2, h.ok, h.le, h.so⟩
theorem Bag.new {base g b : Nat} {w : World} {n : Int} (h : BIs base g b w 0 n (fun _ => none) 0) : Bag base g b w 0 n [] := by
  refine ⟨?_, (fun x hx => by cases hx), by simp, List.Pairwise.nil⟩
  have e : fL [] = fun _ => none := by funext m; exact fL_none (by simp)
  rw [e]
  exact h
/-- its list -/
theorem bag_list {base g b N : Nat} {n : Int} {L : List Msg} (hN : N ≤ 100000000) (w : World) (h : Bag base g b w N n L) : Calls Try.prog 20 #[.pointer (some ⟨g, 0, none⟩)] w fun e w' => ∃ v, e = .returned v ∧ LIs w.heap.size w' v (dd L) ∧ Below w.heap.size w w' := by
  refine (list_any hN w h.is).mono fun e w' ⟨v, l, he, hs, hm, hl, hL, hb⟩ => ?_
  have : l = dd L := sorted_unique hs (dd_sorted h.so) (fun x => by
    rw [hm x, mem_dd, fL_isSome]
    exact ⟨fun k => k.2, fun k => ⟨h.ok x k, k⟩⟩)
  subst this
  exact ⟨v, he, hL, hb⟩
/-- a row of messages, one of them -/
theorem LIs.cellsAt {base : Nat} {w : World} {v : Value} {l : List Msg} (h : LIs base w v l) (i : Nat) (hi : i < l.length) : ∃ gb cap, v = .slice (some ⟨gb, 0, none⟩) l.length cap ∧ l.length ≤ cap ∧ cap ≤ maxLen ∧ base ≤ gb ∧ gb < w.heap.size ∧
    w.cell? ⟨gb, i * 3, none⟩ = some (.int .i64 l[i].f) ∧ w.cell? ⟨gb, i * 3 + 1, none⟩ = some (.int .i64 l[i].t) ∧ w.cell? ⟨gb, i * 3 + 2, none⟩ = some (.string l[i].s) := by
  rcases h.2 with ⟨_, hz⟩ | ⟨gb, cap, cur, rfl, hbase, hgb, r1, r2, r3, r4⟩
  · omega
  · have key : ∀ j, j < 3 → w.cell? ⟨gb, i * 3 + j, none⟩ = (encM l[i])[j]? := by
      intro j hj
      have hlt : i * 3 + j < l.length * 3 := by omega
      have e1 : cur.toList[i * 3 + j]? = (mc l)[i * 3 + j]? := by rw [← r4, List.getElem?_take_of_lt hlt]
      rw [mc_get l _ hlt] at e1
      have e2 : (i * 3 + j) / 3 = i := by omega
      have e3 : (i * 3 + j) % 3 = j := by omega
      rw [e2, e3, getElem!_pos l i hi, Array.getElem?_toList] at e1
      rw [← e1]
      simp [World.cell?, hgb]
    exact ⟨gb, cap, rfl, r1, r2, hbase, lt_of_block hgb, key 0 (by decide), key 1 (by decide), key 2 (by decide)⟩
theorem LIs.len {base : Nat} {w : World} {v : Value} {l : List Msg} (h : LIs base w v l) : ∃ ao cap, v = .slice ao l.length cap := by
  rcases h.2 with ⟨rfl, hz⟩ | ⟨gb, cap, cur, rfl, _⟩
  · exact ⟨none, 0, by rw [hz]⟩
  · exact ⟨_, cap, rfl⟩
theorem dd_len_le : ∀ l : List Msg, (dd l).length ≤ l.length
  | [] => by simp [dd]
  | [x] => by simp [dd]
  | a :: b :: l => by
    have := dd_len_le (b :: l)
    unfold dd
    split <;> simp at * <;> omega
theorem set3 {w : World} {g : Nat} {fp : List Nat} (hg : g ∈ fp) (a b c : Value) : Only fp w (((w.setCell ⟨g, 0, none⟩ a).setCell ⟨g, 1, none⟩ b).setCell ⟨g, 2, none⟩ c) := ((Only.setCell _ hg).trans (Only.setCell _ hg)).trans (Only.setCell _ hg)
theorem var_a {w w5 : World} {o : Obj} (h : Below (w.alloc o).heap.size (w.alloc o) w5) : w5.heap[w.heap.size]? = some o :=
  (h.block _ (by show _ < (w.heap.push o).size; simp)).trans (by show (w.heap.push o)[_]? = _; simp)
set_option maxRecDepth 100000 in
set_option maxHeartbeats 1000000 in
theorem at_none {base g b N : Nat} {n : Int} {L : List Msg} (i : Int) (hi : ¬ (0 ≤ i ∧ i < (dd L).length)) (hN : N ≤ 100000000) (w : World) (h : Bag base g b w N n L) : Calls Try.prog 25 #[.pointer (some ⟨g, 0, none⟩), .int .i64 i] w fun e w' => e = .returned (.tuple #[.agg #[.int .i64 0, .int .i64 0, .string ByteArray.empty], .int .i64 6]) ∧ Below w.heap.size w w' := by
  have h' := h.below (below_alloc w (.cells #[.int .i64 0, .int .i64 0, .string ByteArray.empty] 32))
  have HL := hid (bag_list hN _ h')
  obtain ⟨k, hk⟩ : ∃ k, k = (dd L).length := ⟨_, rfl⟩
  have hkl : k ≤ 1024 := by have := dd_len_le L; have := h.le; omega
  rw [← hk] at hi
  have HK := hid hk
  clear h h' hk
  by_cases h0 : i < 0
  · go_enter Try.func25, Try.ntmps25
    go_wp2_with (first
      | (go_at_call 20; refine (HL.out).mono ?_; rintro e w1 ⟨v, rfl, hL1, hb1⟩; have HV := hid (var_a hb1); have HB := hid ((below_alloc _ _).next hb1); obtain ⟨ao, cap, rfl⟩ := hL1.len; rw [← HK.out]; obtain ⟨q0, q1, q2⟩ := three_cells HV.out; have hfr := frees HV.out; clear hb1 hL1))
    refine bodyPost_ret (v := .tuple #[.agg #[.int .i64 0, .int .i64 0, .string ByteArray.empty], .int .i64 6]) (by simp [results, Try.results25, go_sem, q0, q1, q2]; rfl) rfl ⟨rfl, ?_⟩
    exact HB.out.trans ((set3 (fp := [w.heap.size]) (by simp) _ _ _).below (HB.out.size) (by simp))
  · have h1 : (k : Int) ≤ i := by omega
    go_enter Try.func25, Try.ntmps25
    go_wp2_with (first
      | (go_at_call 20; refine (HL.out).mono ?_; rintro e w1 ⟨v, rfl, hL1, hb1⟩; have HV := hid (var_a hb1); have HB := hid ((below_alloc _ _).next hb1); obtain ⟨ao, cap, rfl⟩ := hL1.len; rw [← HK.out]; obtain ⟨q0, q1, q2⟩ := three_cells HV.out; have hfr := frees HV.out; clear hb1 hL1))
    refine bodyPost_ret (v := .tuple #[.agg #[.int .i64 0, .int .i64 0, .string ByteArray.empty], .int .i64 6]) (by simp [results, Try.results25, go_sem, q0, q1, q2]; rfl) rfl ⟨rfl, ?_⟩
    exact HB.out.trans ((set3 (fp := [w.heap.size]) (by simp) _ _ _).below (HB.out.size) (by simp))
set_option maxRecDepth 100000 in
set_option maxHeartbeats 1000000 in
theorem at_some {base g b N : Nat} {n : Int} {L : List Msg} (i : Nat) (hi : i < (dd L).length) (hN : N ≤ 100000000) (w : World) (h : Bag base g b w N n L) : Calls Try.prog 25 #[.pointer (some ⟨g, 0, none⟩), .int .i64 i] w fun e w' => e = .returned (.tuple #[valM (dd L)[i], .int .i64 0]) ∧ Below w.heap.size w w' := by
  have h' := h.below (below_alloc w (.cells #[.int .i64 0, .int .i64 0, .string ByteArray.empty] 32))
  have HL := hid (bag_list hN _ h')
  obtain ⟨k, hk⟩ : ∃ k, k = (dd L).length := ⟨_, rfl⟩
  have hkl : k ≤ 1024 := by have := dd_len_le L; have := h.le; omega
  have hik : i < k := by omega
  obtain ⟨m, hm⟩ : ∃ m, m = (dd L)[i] := ⟨_, rfl⟩
  rw [← hm]
  unfold valM
  have HI := hid hi
  have HK := hid hk
  have HM := hid hm
  clear h h' hk hm
  go_enter Try.func25, Try.ntmps25
  go_wp2_with (go_at_call 20; fail)
  refine (HL.out).mono ?_
  rintro e w1 ⟨v, rfl, hL1, hb1⟩
  have HV := hid (var_a hb1)
  have HB := hid ((below_alloc _ _).next hb1)
  obtain ⟨gb, cap, rfl, hc1, hc2, hbs, hgl, c0, c1, c2⟩ := hL1.cellsAt i HI.out
  rw [← HM.out] at c0 c1 c2
  rw [← HK.out]
  obtain ⟨q0, q1, q2⟩ := three_cells HV.out
  have hfr := frees HV.out
  have hgw : gb ≠ w.heap.size := by simp at hbs; omega
  clear hb1 hL1
  go_wp2
  refine bodyPost_ret (v := .tuple #[.agg #[.int .i64 m.f, .int .i64 m.t, .string m.s], .int .i64 0]) (by simp [results, Try.results25, go_sem, q0, q1, q2]) rfl ⟨rfl, ?_⟩
  exact HB.out.trans ((set3 (fp := [w.heap.size]) (by simp) _ _ _).below (HB.out.size) (by simp))
end Go.Proofs.Ytecfibabeimjoaa
