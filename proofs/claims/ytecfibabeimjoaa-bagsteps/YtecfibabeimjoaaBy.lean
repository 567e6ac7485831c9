import Derived.Test.YtecfibabeimjoaaBx
namespace Go.Proofs.Ytecfibabeimjoaa
open Go.RowKit Go.Maps Go.Sort Go.Shelf

theorem bag_put {base g b N : Nat} {n : Int} {L : List Msg} (m : Msg) (hm : okM m) (h1 : isN n m.f = true) (h2 : isN n m.t = true) (hs : m.s.size ≤ 65535) (hN : N < 1000000) (hlt : L.length < 1024) (w : World) (h : Bag base g b w N n L) :
    Calls Try.prog 17 #[.pointer (some ⟨g, 0, none⟩), valM m] w fun e w' => e = .returned (.int .i64 0) ∧ Bag base g b w' (N + 1) n (ins m L) ∧ Only [g, b] w w' :=
  (put_go m h1 h2 hs 0 (fun w' => Bag base g b w' (N + 1) n (ins m L) ∧ Only [g, b] (w.alloc (.cells #[.int .i64 m.f, .int .i64 m.t, .string m.s] 32)) w') w h (bag_add m hm hN _ (h.below (below_alloc _ _)) hlt)).mono
    fun _ _ q => ⟨q.1, q.2.1, (Only.of_below (below_alloc _ _)).trans q.2.2⟩
theorem bag_put_full {base g b N : Nat} {n : Int} {L : List Msg} (m : Msg) (h1 : isN n m.f = true) (h2 : isN n m.t = true) (hs : m.s.size ≤ 65535) (hlt : L.length = 1024) (w : World) (h : Bag base g b w N n L) :
    Calls Try.prog 17 #[.pointer (some ⟨g, 0, none⟩), valM m] w fun e w' => e = .returned (.int .i64 5) ∧ Below w.heap.size w w' :=
  (put_go m h1 h2 hs 5 (fun w' => Below (w.alloc (.cells #[.int .i64 m.f, .int .i64 m.t, .string m.s] 32)).heap.size (w.alloc (.cells #[.int .i64 m.f, .int .i64 m.t, .string m.s] 32)) w') w h (bag_full m _ (h.below (below_alloc _ _)) hlt)).mono
    fun _ _ q => ⟨q.1, (below_alloc _ _).next q.2⟩
theorem Bag.belowOf {base g b N : Nat} {w w' : World} {n : Int} {L : List Msg} (h : Bag base g b w N n L) (hb : base ≤ w.heap.size) (k : Only [g, b] w w') : Below base w w' :=
  k.below hb (fun x hx => by simp at hx; rcases hx with rfl | rfl; exact h.is.lo.1; exact h.is.lo.2)
def mA : Msg := ⟨0, 1, { data := #[97] }⟩
def mB : Msg := ⟨0, 1, { data := #[98] }⟩
theorem okA : okM mA := ⟨by unfold inI mA; decide, by unfold inI mA; decide, by decide⟩
theorem okB : okM mB := ⟨by unfold inI mB; decide, by unfold inI mB; decide, by decide⟩
theorem strLt_ab : strLt mA.s mB.s = true := by
  unfold strLt mA mB
  rw [Lib.toList_data, Lib.toList_data]
  rfl
theorem ltAB : ltP mA mB := .inr ⟨rfl, .inr ⟨rfl, strLt_ab⟩⟩
theorem neAB : mA ≠ mB := fun e => ltP_irr mB (e ▸ ltAB)
theorem L1 : ins mB [] = [mB] := rfl
theorem L2 : ins mA [mB] = [mA, mB] := ins_pos ltAB []
theorem L3 : ins mA [mA, mB] = [mA, mA, mB] := by rw [ins_neg (ltP_irr mA), L2]
theorem D3 : dd [mA, mA, mB] = [mA, mB] := by
  have e1 : dd [mA, mB] = [mA, mB] := by unfold dd; rw [if_neg neAB]; rfl
  unfold dd
  rw [if_pos rfl, e1]
theorem L4 : del mB [mA, mA, mB] = [mA, mA] := by rw [del_neg neAB, del_neg neAB, del_pos]
theorem C4 : (fL [mA, mA] mA).getD 0 = 2 := by rw [fL_getD, cnt_cons_same, cnt_cons_same]; rfl
theorem deliver_3 {base g b N : Nat} (hN : N < 1000000) (w : World) (h : Bag base g b w N 2 [mA, mA, mB]) : Calls Try.prog 11 #[.pointer (some ⟨g, 0, none⟩), .int .i64 1] w fun e w' => e = .returned (.tuple #[valM mB, .int .i64 0]) ∧ Bag base g b w' (N + 1) 2 [mA, mA] ∧ Only [g, b] w w' := by
  have hi : 1 < (dd [mA, mA, mB]).length := by rw [D3]; decide
  have k := deliver_some 1 hi hN w h
  have e : (dd [mA, mA, mB])[1] = mB := by
    have : (dd [mA, mA, mB])[1]? = some mB := by rw [D3]; rfl
    rw [List.getElem?_eq_getElem hi] at this
    exact Option.some.inj this
  rw [e, L4] at k
  exact k
theorem list_3 {base g b N : Nat} (hN : N ≤ 100000000) (w : World) (h : Bag base g b w N 2 [mA, mA, mB]) : Calls Try.prog 20 #[.pointer (some ⟨g, 0, none⟩)] w fun e w' => ∃ v, e = .returned v ∧ LIs w.heap.size w' v [mA, mB] ∧ Below w.heap.size w w' := by
  have k := bag_list hN w h
  rw [D3] at k
  exact k
theorem sizeA : (({ data := #[97] } : ByteArray).toList == ({ data := #[97] } : ByteArray).toList) = true := by simp
set_option maxRecDepth 100000 in
set_option maxHeartbeats 2000000 in
theorem speaks_any (w : World) : Calls Try.prog 10 #[] w fun e w' => e = .returned (.bool true) ∧ Below w.heap.size w w' := by
  have HNEW := hid (new_any 2 (by decide) (by decide) w.heap.size w (Nat.le_refl _))
  have HP1 := hid (fun base g b w (h : Bag base g b w 0 2 []) => bag_put mB okB rfl rfl (by decide) (by decide) (by decide) w h)
  have HP2 := hid (fun base g b w (h : Bag base g b w (0 + 1) 2 (ins mB [])) => bag_put mA okA rfl rfl (by decide) (by decide) (by rw [L1]; decide) w h)
  have HP3 := hid (fun base g b w (h : Bag base g b w (0 + 1 + 1) 2 (ins mA (ins mB []))) => bag_put mA okA rfl rfl (by decide) (by decide) (by rw [L1, L2]; decide) w h)
  rw [L1] at HP1 HP2 HP3
  rw [L2] at HP2 HP3
  rw [L3] at HP3
  have HD := hid (fun base g b w (h : Bag base g b w (0 + 1 + 1 + 1) 2 [mA, mA, mB]) => deliver_3 (by decide) w h)
  have HLI := hid (fun base g b w (h : Bag base g b w (0 + 1 + 1 + 1) 2 [mA, mA, mB]) => list_3 (by decide) w h)
  have HC := hid (fun base g b w (h : Bag base g b w (0 + 1 + 1 + 1 + 1) 2 [mA, mA]) => count_any mA okA w h.is)
  have HLN := hid (fun base g b w (h : Bag base g b w (0 + 1 + 1 + 1) 2 [mA, mA, mB]) => len_any w h.is)
  rw [C4] at HC
  simp only [valM, mA, mB] at HP1 HP2 HP3 HD HLI HC HLN
  go_enter Try.func10, Try.ntmps10
  go_wp2_with (first
    | (go_at_call 8; refine (HNEW.out).mono ?_; rintro e w1 ⟨rfl, hB1, hb1⟩; have HB1 := hid (Bag.new hB1); have HW1 := hid hb1; clear hB1 hb1)
    | (go_at_call 17; have hk := HB3; clear hk; refine (HP3.out _ _ _ _ HB3.out).mono ?_; rintro e w4 ⟨rfl, hB4, hO4⟩; have HB4 := hid hB4; have HW4 := hid (HW3.out.trans (HB3.out.belowOf HW3.out.size hO4)); clear hB4 hO4)
    | (go_at_call 17; have hk := HB2; clear hk; refine (HP2.out _ _ _ _ HB2.out).mono ?_; rintro e w3 ⟨rfl, hB3, hO3⟩; have HB3 := hid hB3; have HW3 := hid (HW2.out.trans (HB2.out.belowOf HW2.out.size hO3)); clear hB3 hO3)
    | (go_at_call 17; refine (HP1.out _ _ _ _ HB1.out).mono ?_; rintro e w2 ⟨rfl, hB2, hO2⟩; have HB2 := hid hB2; have HW2 := hid (HW1.out.trans (HB1.out.belowOf HW1.out.size hO2)); clear hB2 hO2)
    | (go_at_call 24; refine (HLN.out _ _ _ _ HB4.out).mono ?_; rintro e w5 ⟨rfl, hw⟩; have hw := hw.symm; subst hw))
  refine (HLI.out _ _ _ _ HB4.out).mono ?_
  rintro e w6 ⟨v, rfl, hL6, hb6⟩
  obtain ⟨gb, cap, rfl, hc1, hc2, hbs, hgl, c0, c1, c2⟩ := hL6.cellsAt 0 (by decide)
  have HB6 := hid (HB4.out.below hb6)
  have HW6 := hid (HW4.out.next hb6)
  have hgb := HB4.out.gb
  have HNE : Hid (gb ∉ [w.heap.size + 1, w.heap.size]) := by
    show gb ∉ [w.heap.size + 1, w.heap.size]
    simp
    omega
  have HC2 := hid (show w6.cell? ⟨gb, 2, none⟩ = some (.string { data := #[97] }) from c2)
  have HGL := hid hgl
  simp at hc1
  unfold maxLen at hc2
  clear hL6 hb6 c0 c1 c2 hgl hgb hbs HP1 HP2 HP3 HLI HLN HNEW
  go_wp2_with (first
    | (go_at_call 11; refine (HD.out _ _ _ _ HB6.out).mono ?_; rintro e w7 ⟨rfl, hB7, hO7⟩; have HB7 := hid hB7; have HW7 := hid (HW6.out.trans (HB6.out.belowOf HW6.out.size hO7)); have c7 : w7.cell? ⟨gb, 2, none⟩ = some (.string { data := #[97] }) := by { have e := hO7.block gb HGL.out HNE.out; have := HC2.out; unfold World.cell? at this ⊢; rw [e]; exact this }; have hg7 : gb < w7.heap.size := Nat.lt_of_lt_of_le HGL.out hO7.size; clear hB7 hO7)
    | (go_at_call 22; refine (HC.out _ _ _ _ (HB7.out.below (below_alloc _ _))).mono ?_; rintro e w8 ⟨rfl, hb8⟩))
  go_ret
  exact ⟨rfl, (HW7.out.next (below_alloc _ _)).next hb8⟩
end Go.Proofs.Ytecfibabeimjoaa
