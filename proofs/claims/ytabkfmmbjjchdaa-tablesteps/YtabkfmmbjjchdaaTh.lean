import Derived.Test.YtabkfmmbjjchdaaTg
namespace Go.Proofs.Ytabkfmmbjjchdaa
open Go.RowKit Go.Maps

theorem TB.more {g N : Nat} {mb : Option Nat} {w : World} {L : List Kx} (h : TB g mb w N L) : TB g mb w (N + 1) L :=
  ⟨h.box, h.non, fun b hb => by obtain ⟨n, D, h1, h2, h3⟩ := h.map b hb; exact ⟨n, D, h1, by omega, h3⟩, h.nv⟩
theorem KQ.below {g B : Nat} {mb : Option Nat} {w0 w w' : World} (h : Below w0.heap.size w0 w) (k : KQ g mb w w') (hg : w0.heap.size ≤ g) (hb : ∀ b, mb = some b → w0.heap.size ≤ b) (_hB : B = w0.heap.size) : Below w0.heap.size w0 w' :=
  h.trans ⟨k.os, k.tape, k.output, k.size, fun j hj => k.block j (Nat.lt_of_lt_of_le hj h.size) (by omega) (fun e => by have := hb j e.symm; omega)⟩
set_option maxRecDepth 100000 in
theorem done_far {p : Value} (c r : Int) (R : Rs) (w : World) (ho : okc c r = false) (hR : ∃ ao n cap, R.nv = .slice ao n cap) : Calls Try.prog 10 #[p, .int .i64 c, .int .i64 r, R.v] w fun e w' => e = .returned (.int .i64 1) ∧ Below w.heap.size w w' := by
  obtain ⟨ao, nn, cap, hnv⟩ := hR
  obtain ⟨re, rt, ra, rb, rc, rnv, rns⟩ := R
  simp only at hnv
  subst hnv
  simp only [Rs.v]
  go_enter Try.func10, Try.ntmps10
  go_wp2_with (first
    | (go_at_call 20; refine (isRight_any _ _ _).mono ?_; rintro e w' ⟨rfl, he⟩; have he := he.symm; subst he; rw [ho]))
  go_ret
  exact ⟨rfl, below_alloc _ _⟩
def donE (L : List Kx) (c r : Int) : Int := if okc c r then (if stt (at_ L c).n (at_ L c).d r = 2 then 0 else if stt (at_ L c).n (at_ L c).d r = 3 then 7 else 6) else 1
def donL (L : List Kx) (c r : Int) (R : Rs) : List Kx := if donE L c r = 0 then withL L (mkK c r true R) else L
theorem done_any {g N : Nat} {mb : Option Nat} {w : World} {L : List Kx} (h : TB g mb w N L) (hN : N < 1000000000000000) (c r : Int) (R : Rs) (hR : SLie w R.nv R.ns) : Calls Try.prog 10 #[.pointer (some ⟨g, 0, none⟩), .int .i64 c, .int .i64 r, R.v] w fun e w' => e = .returned (.int .i64 (donE L c r)) ∧ ∃ v', TB g mb w' (N + 1) (donL L c r { R with nv := v' }) ∧ KQ g mb w w' := by
  by_cases hy : okc c r = true ∧ stt (at_ L c).n (at_ L c).d r = 2
  · obtain ⟨ho, hs⟩ := hy
    have e0 : donE L c r = 0 := by unfold donE; rw [if_pos ho, if_pos hs]
    have e1 : ∀ v', donL L c r { R with nv := v' } = withL L (mkK c r true { R with nv := v' }) := fun v' => by unfold donL; rw [if_pos e0]
    rw [e0]
    simp only [e1]
    cases mb with
    | none =>
      have hL := h.non rfl
      rw [hL] at hs
      have h1 := (okc_iff c r).1 ho
      have : stt (at_ [] c).n (at_ [] c).d r = 1 := by
        show stt 0 false r = 1
        unfold stt
        rw [if_pos (by omega)]
      omega
    | some b => exact done_yes h hN c r R hR ho hs
  · have e0 : donE L c r = donX (at_ L c) c r := by
      unfold donE donX
      by_cases ho : okc c r = true
      · rw [if_pos ho, if_pos ho, if_neg (fun hs => hy ⟨ho, hs⟩)]
      · rw [if_neg ho, if_neg ho]
    have e1 : donL L c r R = L := by
      unfold donL
      rw [e0, if_neg]
      unfold donX
      split
      · split <;> decide
      · decide
    rw [e0]
    have e2 : { R with nv := R.nv } = R := by cases R; rfl
    by_cases hc : inI c
    · obtain ⟨ao, cap, hnv, _⟩ := hR
      exact (done_no c r R w (x := at_ L c) (hid fun W hW => find_any (h.below hW) c hc) ⟨ao, _, cap, hnv⟩ hy).mono fun e w' ⟨he, hb⟩ => ⟨he, R.nv, by rw [e2, e1]; exact (h.below hb).more, KQ.of hb⟩
    · have ho : okc c r = false := by cases hh : okc c r with | false => rfl | true => exact absurd (okc_in hh) hc
      have hX : donX (at_ L c) c r = donX kz c r := by unfold donX; rw [ho]; rfl
      rw [hX]
      obtain ⟨ao, cap, hnv, _⟩ := hR
      exact (done_far c r R w ho ⟨ao, _, cap, hnv⟩).mono fun e w' ⟨he, hb⟩ => ⟨by rw [he]; unfold donX; rw [ho]; rfl, R.nv, by rw [e2, e1]; exact (h.below hb).more, KQ.of hb⟩
theorem ask_tb {g N : Nat} {mb : Option Nat} {w : World} {L : List Kx} (h : TB g mb w N L) (c r : Int) : Calls Try.prog 12 #[.pointer (some ⟨g, 0, none⟩), .int .i64 c, .int .i64 r] w fun e w' => ∃ v', e = .returned (.tuple #[.int .i64 (askS (at_ L c) c r), Rs.v { askR (at_ L c) c r with nv := v' }, .int .i64 (askE c r)]) ∧ SLie w' v' (askR (at_ L c) c r).ns ∧ Below w.heap.size w w' := by
  by_cases hc : inI c
  · exact ask_any c r w (hid fun W hW => find_any (h.below hW) c hc) (h.names c)
  · have ho : okc c r = false := by cases hh : okc c r with | false => rfl | true => exact absurd (okc_in hh) hc
    unfold askS askR askE
    rw [ho]
    exact (ask_no c r w ho).mono fun e w' ⟨he, hb⟩ => ⟨.slice none 0 0, he, SLie.nil w', hb⟩
theorem kz_nv : ∃ ao n cap, kz.nv = .slice ao n cap := ⟨none, 0, 0, rfl⟩
/-- the result of speaks -/
def r7 (v : Value) : Rs := ⟨0, ⟨#[]⟩, 0, 0, 7, v, []⟩
theorem at_one (x : Kx) (c : Int) (h : x.k = c) : at_ [x] c = x := by unfold at_ lookL; simp [h]
set_option maxRecDepth 100000 in
set_option maxHeartbeats 2000000 in
theorem speaks_any (w : World) : Calls Try.prog 18 #[] w fun e w' => e = .returned (.bool true) ∧ Below w.heap.size w w' := by
  have e1 : begE [] 5 2 = 0 := by decide
  have e2 : begL [] 5 2 = [mkK 5 2 false rz] := by unfold begL; rw [if_pos e1]; rfl
  have e3 : ∀ n d rr, askS (mkK 5 n d rr) 5 1 = stt n d 1 ∧ askS (mkK 5 n d rr) 5 2 = stt n d 2 ∧ askS (mkK 5 n d rr) 5 3 = stt n d 3 := fun n d rr => ⟨rfl, rfl, rfl⟩
  have C1 := hid (fun (W : World) g (h : TB g none W 0 []) => begin_any h (by omega) (by simp) 5 2)
  have C2 := hid (fun (W : World) g mb (h : TB g mb W 1 [mkK 5 2 false rz]) => ask_tb h 5 2)
  have C3 := hid (fun (W : World) g mb (h : TB g mb W 1 [mkK 5 2 false rz]) => done_any h (by omega) 5 2 (r7 (.slice none 0 0)) (SLie.nil W))
  have C4 := hid (fun (W : World) v g mb (h : TB g mb W 2 [mkK 5 2 true (r7 v)]) => ask_tb h 5 2)
  have C5 := hid (fun (W : World) v g mb (h : TB g mb W 2 [mkK 5 2 true (r7 v)]) => ask_tb h 5 1)
  have C6 := hid (fun (W : World) v g mb (h : TB g mb W 2 [mkK 5 2 true (r7 v)]) => ask_tb h 5 3)
  simp only [e1, e2] at C1
  have a1 := at_one (mkK 5 2 false rz) 5 rfl
  simp only [a1] at C2
  have d0 : donE [mkK 5 2 false rz] 5 2 = 0 := by unfold donE; rw [a1]; decide
  have d1 : ∀ v', donL [mkK 5 2 false rz] 5 2 { r7 (.slice none 0 0) with nv := v' } = [mkK 5 2 true (r7 v')] := fun v' => by unfold donL; rw [if_pos d0]; rfl
  simp only [d0, d1] at C3
  have a2 : ∀ v, at_ [mkK 5 2 true (r7 v)] 5 = mkK 5 2 true (r7 v) := fun v => at_one _ _ rfl
  simp only [a2] at C4 C5 C6
  have q2 : askS (mkK 5 2 false rz) 5 2 = 2 ∧ askE 5 2 = 0 ∧ askR (mkK 5 2 false rz) 5 2 = rz := ⟨by decide, by decide, by unfold askR; rw [show (okc 5 2 && (stt (mkK 5 2 false rz).n (mkK 5 2 false rz).d 2 == 3)) = false by decide]; rfl⟩
  have q4 : ∀ v, askS (mkK 5 2 true (r7 v)) 5 2 = 3 ∧ askR (mkK 5 2 true (r7 v)) 5 2 = r7 v := fun v => ⟨by show (if okc 5 2 then stt 2 true 2 else 0) = 3; decide, by unfold askR; rw [show (okc 5 2 && (stt (mkK 5 2 true (r7 v)).n (mkK 5 2 true (r7 v)).d 2 == 3)) = true from (by show (okc 5 2 && (stt 2 true 2 == 3)) = true; decide)]; rfl⟩
  have q5 : ∀ v, askS (mkK 5 2 true (r7 v)) 5 1 = 4 ∧ askE 5 1 = 0 ∧ askR (mkK 5 2 true (r7 v)) 5 1 = rz := fun v => ⟨by show (if okc 5 1 then stt 2 true 1 else 0) = 4; decide, by decide, by unfold askR; rw [show (okc 5 1 && (stt (mkK 5 2 true (r7 v)).n (mkK 5 2 true (r7 v)).d 1 == 3)) = false from (by show (okc 5 1 && (stt 2 true 1 == 3)) = false; decide)]; rfl⟩
  have q6 : ∀ v, askS (mkK 5 2 true (r7 v)) 5 3 = 1 ∧ askE 5 3 = 0 ∧ askR (mkK 5 2 true (r7 v)) 5 3 = rz := fun v => ⟨by show (if okc 5 3 then stt 2 true 3 else 0) = 1; decide, by decide, by unfold askR; rw [show (okc 5 3 && (stt (mkK 5 2 true (r7 v)).n (mkK 5 2 true (r7 v)).d 3 == 3)) = false from (by show (okc 5 3 && (stt 2 true 3 == 3)) = false; decide)]; rfl⟩
  simp only [q2.1, q2.2.1, q2.2.2] at C2
  simp only [(q4 _).1, (q4 _).2, q2.2.1] at C4
  simp only [(q5 _).1, (q5 _).2.2] at C5
  simp only [(q6 _).1, (q6 _).2.2] at C6
  simp only [Rs.v, rz, r7] at C2 C3 C4 C5 C6
  clear e1 e2 e3 a1 a2 d0 d1 q2 q4 q5 q6
  go_enter Try.func18, Try.ntmps18
  go_wp2_with (go_at_call 7; fail)
  refine (new_any _).mono ?_
  rintro e w1 ⟨rfl, ht1, hw1⟩
  have HT1 := hid ht1
  have HB1 : Hid (Below w.heap.size w w1) := hid (by rw [hw1]; exact below_alloc _ _)
  obtain ⟨g, hg⟩ : ∃ g, g = w.heap.size := ⟨_, rfl⟩
  have hgg : w.heap.size ≤ g := by omega
  rw [← hg] at HT1 ⊢
  clear ht1 hw1 hg
  go_wp2_with (go_at_call 8; fail)
  refine (C1.out _ _ HT1.out).mono ?_
  rintro e w2 ⟨rfl, mb, ht2, hm2, hk2⟩
  have HT2 := hid ht2
  have HM : Hid (∀ b, mb = some b → w.heap.size ≤ b) := hid (fun b hb => by
    rcases hm2 with e | ⟨_, b', e, h⟩
    · rw [e] at hb; cases hb
    · rw [e] at hb; cases hb; have := HB1.out.size; omega)
  have HB2 := hid (KQ.below HB1.out hk2 hgg (fun b hb => by cases hb) rfl)
  clear ht2 hm2 hk2 C1 HT1 HB1
  go_wp2_with (go_at_call 12; fail)
  refine (C2.out _ _ _ HT2.out).mono ?_
  rintro e w3 ⟨v3, rfl, hs3, hb3⟩
  obtain ⟨ao3, cap3, rfl, _⟩ := hs3
  have HB3 := hid ((HB2.out.next hb3).next (below_alloc w3 (.cells #[.int .i64 0, .string ⟨#[]⟩, .int .i64 0, .int .i64 0, .int .i64 0, .slice ao3 0 cap3] 32)))
  have HT3 := hid ((HT2.out.below hb3).below (below_alloc w3 (.cells #[.int .i64 0, .string ⟨#[]⟩, .int .i64 0, .int .i64 0, .int .i64 0, .slice ao3 0 cap3] 32)))
  clear hb3 C2 HT2 HB2
  go_wp2_with (go_at_call 10; fail)
  refine (C3.out _ _ _ HT3.out).mono ?_
  rintro e w4 ⟨rfl, v4, ht4, hk4⟩
  have HT4 := hid ht4
  have HB4 := hid (KQ.below HB3.out hk4 hgg HM.out rfl)
  clear ht4 hk4 C3 HT3 HB3
  go_wp2_with (go_at_call 12; fail)
  refine (C4.out _ _ _ _ HT4.out).mono ?_
  rintro e w5 ⟨v5, rfl, hs5, hb5⟩
  obtain ⟨ao5, cap5, rfl, _⟩ := hs5
  have HB5 := hid ((HB4.out.next hb5).next (below_alloc w5 (.cells #[.int .i64 0, .string ⟨#[]⟩, .int .i64 0, .int .i64 0, .int .i64 7, .slice ao5 0 cap5] 32)))
  have HT5 := hid ((HT4.out.below hb5).below (below_alloc w5 (.cells #[.int .i64 0, .string ⟨#[]⟩, .int .i64 0, .int .i64 0, .int .i64 7, .slice ao5 0 cap5] 32)))
  have HX5 := hid (show (w5.alloc (.cells #[.int .i64 0, .string ⟨#[]⟩, .int .i64 0, .int .i64 0, .int .i64 7, .slice ao5 0 cap5] 32)).heap[w5.heap.size]? = some (.cells #[.int .i64 0, .string ⟨#[]⟩, .int .i64 0, .int .i64 0, .int .i64 7, .slice ao5 0 cap5] 32 (0, 0)) from box_at _ _)
  clear hb5 C4 HT4 HB4
  go_wp2_with (go_at_call 12; fail)
  refine (C5.out _ _ _ _ HT5.out).mono ?_
  rintro e w6 ⟨v6, rfl, hs6, hb6⟩
  obtain ⟨ao6, cap6, rfl, _⟩ := hs6
  have HB6 := hid ((HB5.out.next hb6).next (below_alloc w6 (.cells #[.int .i64 0, .string ⟨#[]⟩, .int .i64 0, .int .i64 0, .int .i64 0, .slice ao6 0 cap6] 32)))
  have HT6 := hid ((HT5.out.below hb6).below (below_alloc w6 (.cells #[.int .i64 0, .string ⟨#[]⟩, .int .i64 0, .int .i64 0, .int .i64 0, .slice ao6 0 cap6] 32)))
  have HX6 := hid ((Below.heap_alloc w6 (.cells #[.int .i64 0, .string ⟨#[]⟩, .int .i64 0, .int .i64 0, .int .i64 0, .slice ao6 0 cap6] 32) _ (by have := hb6.size; simp at this; omega)).trans ((hb6.block _ (lt_of_block HX5.out)).trans HX5.out))
  clear hb6 C5 HT5 HB5
  go_wp2_with (go_at_call 12; fail)
  refine (C6.out _ _ _ _ HT6.out).mono ?_
  rintro e w7 ⟨v7, rfl, hs7, hb7⟩
  obtain ⟨ao7, cap7, rfl, _⟩ := hs7
  have HB7 := hid ((HB6.out.next hb7).next (below_alloc w7 (.cells #[.int .i64 0, .string ⟨#[]⟩, .int .i64 0, .int .i64 0, .int .i64 0, .slice ao7 0 cap7] 32)))
  have HX7 := hid ((hb7.block _ (lt_of_block HX6.out)).trans HX6.out)
  have hx7 : w7.cell? ⟨w5.heap.size, 4, none⟩ = some (.int .i64 7) := by simp [World.cell?, HX7.out]
  have hl7 := lt_of_block HX7.out
  clear hb7 C6 HT6 HB6
  go_wp2
  go_ret
  exact ⟨rfl, HB7.out⟩
set_option maxRecDepth 100000 in
theorem clients_nil (w : World) : Calls Try.prog 17 #[.pointer none] w fun e w' => e = .returned (.slice none 0 0) ∧ w' = w := by
  go_enter Try.func17, Try.ntmps17
  go_wp2
  go_ret
  exact ⟨rfl, rfl⟩
set_option maxRecDepth 100000 in
set_option maxHeartbeats 2000000 in
theorem nil_walk (c r : Int) (w : World) : Calls Try.prog 5 #[.int .i64 c, .int .i64 r] w fun e w' => e = .returned (.bool true) ∧ Below w.heap.size w w' := by
  have C1 := hid (fun (W : World) => ask_any (p := .pointer none) (x := kz) c r W (hid fun V _ => find_nil c V) (SLie.nil W))
  have C2 := hid (fun (W : World) => last_any (p := .pointer none) (x := kz) c W (hid fun V _ => find_nil c V) kz_nv)
  have C3 := hid (fun (W : World) => begin_no (p := .pointer none) (x := kz) (rm := false) c r W (hid fun V _ => find_nil c V) (hid fun V _ => hasRoom_nil c V) (fun h => by cases h.2.2))
  cases ho : okc c r with
  | false =>
    have C4 := hid (fun (W : World) => done_far (p := .pointer none) c r rz W ho ⟨none, 0, 0, rfl⟩)
    have a1 : askS kz c r = 0 := by unfold askS; rw [ho]; rfl
    have a2 : askE c r = 1 := by unfold askE; rw [ho]; rfl
    have a3 : askR kz c r = rz := by unfold askR; rw [ho]; rfl
    simp only [a1, a2, a3, ho, Bool.false_eq_true, if_false] at C1 C3
    simp only [Rs.v, rz, kz] at C1 C2 C3 C4
    clear a1 a2 a3
    go_enter Try.func5, Try.ntmps5
    go_wp2_with (first
      | (go_at_call 12; refine (C1.out _).mono ?_; rintro e w1 ⟨v1, rfl, hs1, hb1⟩; obtain ⟨ao1, cap1, rfl, _⟩ := hs1; have HB1 := hid (hb1.next (below_alloc w1 (.cells #[.int .i64 0, .string ⟨#[]⟩, .int .i64 0, .int .i64 0, .int .i64 0, .slice ao1 0 cap1] 32))); clear hb1)
      | (go_at_call 15; refine (C2.out _).mono ?_; rintro e w2 ⟨rfl, hb2⟩; have HB2 := hid (HB1.out.next hb2); clear hb2)
      | (go_at_call 8; refine (C3.out _).mono ?_; rintro e w3 ⟨rfl, hb3⟩; have HB3 := hid (HB2.out.next hb3); clear hb3)
      | (go_at_call 10; refine (C4.out _).mono ?_; rintro e w4 ⟨rfl, hb4⟩; have HB4 := hid (HB3.out.next hb4); clear hb4)
      | (go_at_call 19; refine (wrong_any _ _ _).mono ?_; rintro e w5 ⟨rfl, he⟩; have he := he.symm; subst he; rw [ho])
      | (go_at_call 18; refine (speaks_any _).mono ?_; rintro e w6 ⟨rfl, hb6⟩))
    go_ret
    exact ⟨rfl, HB4.out.next hb6⟩
  | true =>
    have hr := (okc_iff c r).1 ho
    have h1 : stt 0 false r = 1 := by unfold stt; rw [if_pos (by omega)]
    have C4 := hid (fun (W : World) => done_no (p := .pointer none) (x := kz) c r rz W (hid fun V _ => find_nil c V) ⟨none, 0, 0, rfl⟩ (fun h => by have : stt 0 false r = 2 := h.2; omega))
    have a1 : askS kz c r = 1 := by unfold askS; rw [ho]; exact h1
    have a2 : askE c r = 0 := by unfold askE; rw [ho]; rfl
    have a3 : askR kz c r = rz := by
      unfold askR
      rw [ho]
      show (if (true && (stt 0 false r == 3)) = true then kz.r else rz) = rz
      rw [h1]; rfl
    have a4 : donX kz c r = 6 := by
      unfold donX
      rw [ho]
      show (if true = true then if stt 0 false r = 3 then (7 : Int) else 6 else 1) = 6
      rw [h1]; rfl
    have a5 : stt kz.n kz.d r = 1 := h1
    simp only [a1, a2, a3, a4, a5, ho, if_true] at C1 C3 C4
    simp only [Rs.v, rz, kz] at C1 C2 C3 C4
    clear a1 a2 a3 a4 a5 h1 hr
    go_enter Try.func5, Try.ntmps5
    go_wp2_with (first
      | (go_at_call 12; refine (C1.out _).mono ?_; rintro e w1 ⟨v1, rfl, hs1, hb1⟩; obtain ⟨ao1, cap1, rfl, _⟩ := hs1; have HB1 := hid (hb1.next (below_alloc w1 (.cells #[.int .i64 0, .string ⟨#[]⟩, .int .i64 0, .int .i64 0, .int .i64 0, .slice ao1 0 cap1] 32))); clear hb1)
      | (go_at_call 15; refine (C2.out _).mono ?_; rintro e w2 ⟨rfl, hb2⟩; have HB2 := hid (HB1.out.next hb2); clear hb2)
      | (go_at_call 8; refine (C3.out _).mono ?_; rintro e w3 ⟨rfl, hb3⟩; have HB3 := hid (HB2.out.next hb3); clear hb3)
      | (go_at_call 10; refine (C4.out _).mono ?_; rintro e w4 ⟨rfl, hb4⟩; have HB4 := hid (HB3.out.next hb4); clear hb4)
      | (go_at_call 19; refine (wrong_any _ _ _).mono ?_; rintro e w5 ⟨rfl, he⟩; have he := he.symm; subst he; rw [ho])
      | (go_at_call 17; refine (clients_nil _).mono ?_; rintro e w7 ⟨rfl, he⟩; have he := he.symm; subst he)
      | (go_at_call 18; refine (speaks_any _).mono ?_; rintro e w6 ⟨rfl, hb6⟩))
    go_ret
    exact ⟨rfl, HB4.out.next hb6⟩
end Go.Proofs.Ytabkfmmbjjchdaa
