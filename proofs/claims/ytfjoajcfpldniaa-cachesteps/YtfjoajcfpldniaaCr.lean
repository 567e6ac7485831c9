import Derived.Test.YtfjoajcfpldniaaCq
namespace Go.Proofs.Ytfjoajcfpldniaa
open Go.RowKit Go.Maps

theorem isB_of {k : Int} (h0 : 0 ≤ k) (h1 : k < 1024) {d : ByteArray} (hd : d.size = 128) : isB k d = true := decide_eq_true ⟨h0, h1, hd⟩
theorem sp1 {a : ByteArray} (h : a.size = 128) : loadR 1 [] 1 a = (-1, 0, [⟨1, 0, false, a⟩]) := by
  unfold loadR findP
  rw [isB_of (by decide) (by decide) h]
  rfl
theorem sp2 {a b : ByteArray} (h : b.size = 128) : loadR 1 [⟨1, 0, false, a⟩] 2 b = (1, 0, [⟨2, 0, false, b⟩]) := by
  unfold loadR findP
  rw [isB_of (by decide) (by decide) h]
  rfl
theorem sp3 {b c : ByteArray} (h : c.size = 128) : storeR [⟨2, 0, false, b⟩] 2 c = (0, [⟨2, 0, true, c⟩]) := by
  unfold storeR findP
  rw [isB_of (by decide) (by decide) h]
  rfl
theorem sp4 {c d : ByteArray} (h : d.size = 128) : loadR 1 [⟨2, 0, true, c⟩] 3 d = (0, 5, [⟨2, 0, true, c⟩]) := by
  unfold loadR findP
  rw [isB_of (by decide) (by decide) h]
  rfl
theorem sp5 (c : ByteArray) : (dirtyP [⟨2, 0, true, c⟩]).take 48 = [⟨2, 0, true, c⟩] := by
  unfold dirtyP
  rw [List.mergeSort_singleton]
  rfl
theorem sp6 (c : ByteArray) : clearP [⟨2, 0, true, c⟩] [⟨2, 0, true, c⟩] = [⟨2, 0, false, c⟩] := rfl
theorem sp7 {c d : ByteArray} (h : d.size = 128) : loadR 1 [⟨2, 0, false, c⟩] 3 d = (2, 0, [⟨3, 0, false, d⟩]) := by
  unfold loadR findP
  rw [isB_of (by decide) (by decide) h]
  rfl
theorem sp8 (d : ByteArray) : lookR [⟨3, 0, false, d⟩] 3 = (d, true, [⟨3, 0, false, d⟩]) := rfl
set_option maxRecDepth 100000 in
set_option maxHeartbeats 4000000 in
theorem speaks_any (w : World) : Calls Try.prog 10 #[] w fun e w' => e = .returned (.bool true) ∧ Below w.heap.size w w' := by
  have HN := hid (cnew 1 (by decide) (by decide) w.heap.size w (Nat.le_refl _))
  have HBl := hid (fun n h0 h1 w => block_bi n h0 h1 w)
  have hz := Bi_size
  have HZ := hid hz
  clear hz
  go_enter Try.func10, Try.ntmps10
  go_wp2_with (first
    | (go_at_call 8; fail))
  refine (HN.out).mono ?_
  rintro e w1 ⟨g, rfl, hC, hB⟩
  have HC := hid hC
  have HB := hid hB
  clear hC hB HN
  go_wp2_with (first
    | (go_at_call 24; refine (HBl.out _ (by decide) (by decide) _).mono ?_; rintro e wz ⟨rfl, hbz⟩; replace HC := hid (HC.out.below hbz); replace HB := hid (HB.out.next hbz); clear hbz)
    | (go_at_call 18; fail))
  have c1 := cload 1 ⟨by decide, by decide⟩ (Bi 97) _ HC.out (by decide)
  rw [sp1 (HZ.out 97)] at c1
  refine c1.mono ?_
  rintro e w2 ⟨rfl, hC2, _, hB2⟩
  have HC2 := hid hC2
  have HB2 := hid (HB.out.trans hB2)
  clear hC2 hB2 c1 HC HB
  go_wp2_with (first
    | (go_at_call 24; refine (HBl.out _ (by decide) (by decide) _).mono ?_; rintro e wz ⟨rfl, hbz⟩; replace HC2 := hid (HC2.out.below hbz); replace HB2 := hid (HB2.out.next hbz); clear hbz)
    | (go_at_call 18; fail))
  have c2 := cload 2 ⟨by decide, by decide⟩ (Bi 98) _ HC2.out (by decide)
  rw [sp2 (HZ.out 98)] at c2
  refine c2.mono ?_
  rintro e w3 ⟨rfl, hC3, _, hB3⟩
  have HC3 := hid hC3
  have HB3 := hid (HB2.out.trans hB3)
  clear hC3 hB3 c2 HC2 HB2
  go_wp2_with (first
    | (go_at_call 24; refine (HBl.out _ (by decide) (by decide) _).mono ?_; rintro e wz ⟨rfl, hbz⟩; replace HC3 := hid (HC3.out.below hbz); replace HB3 := hid (HB3.out.next hbz); clear hbz)
    | (go_at_call 20; fail))
  have c3 := cstore 2 ⟨by decide, by decide⟩ (Bi 99) _ HC3.out (by decide)
  rw [sp3 (HZ.out 99)] at c3
  refine c3.mono ?_
  rintro e w4 ⟨rfl, hC4, _, hB4⟩
  have HC4 := hid hC4
  have HB4 := hid (HB3.out.trans hB4)
  clear hC4 hB4 c3 HC3 HB3
  go_wp2_with (first
    | (go_at_call 24; refine (HBl.out _ (by decide) (by decide) _).mono ?_; rintro e wz ⟨rfl, hbz⟩; replace HC4 := hid (HC4.out.below hbz); replace HB4 := hid (HB4.out.next hbz); clear hbz)
    | (go_at_call 18; fail))
  have c4 := cload 3 ⟨by decide, by decide⟩ (Bi 100) _ HC4.out (by decide)
  rw [sp4 (HZ.out 100)] at c4
  refine c4.mono ?_
  rintro e w5 ⟨rfl, hC5, _, hB5⟩
  have HC5 := hid hC5
  have HB5 := hid (HB4.out.trans hB5)
  clear hC5 hB5 c4 HC4 HB4
  go_wp2_with (first
    | (go_at_call 23; fail))
  have c5 := ctake _ HC5.out
  rw [sp5, sp6] at c5
  refine c5.mono ?_
  rintro e w6 ⟨v6, rfl, hv6, hC6, _, hB6⟩
  have HC6 := hid hC6
  have HB6 := hid (HB5.out.trans hB6)
  have HV6 := hid hv6
  obtain ⟨lo, lc, rfl, hl1, hl2, hl3⟩ := hv6
  obtain ⟨gb, off, _, rfl, _⟩ := hl3 0 (by simp)
  unfold maxLen at hl2
  simp only [List.map_cons, List.map_nil, List.length_cons, List.length_nil, Nat.zero_add] at hl1 HV6 ⊢
  clear hC6 hB6 c5 HC5 HB5 hl3
  go_wp2_with (first
    | (go_at_call 24; refine (HBl.out _ (by decide) (by decide) _).mono ?_; rintro e wz ⟨rfl, hbz⟩; replace HC6 := hid (HC6.out.below hbz); replace HB6 := hid (HB6.out.next hbz); replace HV6 := hid (HV6.out.below hbz); clear hbz)
    | (go_at_call 18; fail))
  have c7 := cload 3 ⟨by decide, by decide⟩ (Bi 100) _ HC6.out (by decide)
  rw [sp7 (HZ.out 100)] at c7
  refine c7.mono ?_
  rintro e w7 ⟨rfl, hC7, hO7, hB7⟩
  have HC7 := hid hC7
  have HB7 := hid (HB6.out.trans hB7)
  replace HV6 := hid (HV6.out.oc hO7)
  clear hC7 hB7 c7 HC6 HB6 hO7
  go_wp2_with (first
    | (go_at_call 19; fail))
  have c8 := clook 3 ⟨by decide, by decide⟩ _ HC7.out (by decide)
  rw [sp8] at c8
  refine c8.mono ?_
  rintro e w8 ⟨rfl, _, hO8, hB8⟩
  have HB8 := hid (HB7.out.trans hB8)
  replace HV6 := hid (HV6.out.oc hO8)
  clear hB8 c8 HC7 HB7 hO8
  obtain ⟨gb', off', e1, hgl, _, cd⟩ := HV6.out.cell 0 (by simp)
  injection e1 with e1
  injection e1 with e2 e3 e4
  subst e2 e3
  simp only [List.getElem_cons_zero, Nat.zero_mul, Nat.add_zero] at cd
  unfold chP at cd
  simp only at cd
  go_wp2
  go_region_held3 (fun w' => w'.cell? ⟨gb, off + 1, none⟩ = some (.string (Bi 99))) (first | exact cd | exact d2 | exact d1 | go_keep) (first
    | (go_at_call 24; have hk := HBd; clear hk; refine (HBl.out _ (by decide) (by decide) _).mono ?_; rintro e wb ⟨rfl, hbb⟩; have HBe : Hid (Below w8.heap.size w8 wb) := hid (HBd.out.next ⟨hbb.os, hbb.tape, hbb.output, hbb.size, hbb.block⟩); have d2 := (HBe.out.cell (p := ⟨gb, off + 1, none⟩) hgl).trans cd; clear hbb)
    | (go_at_call 24; refine (HBl.out _ (by decide) (by decide) _).mono ?_; rintro e wa ⟨rfl, hba⟩; have HBd : Hid (Below w8.heap.size w8 wa) := hid ⟨hba.os, hba.tape, hba.output, hba.size, hba.block⟩; have d1 := (HBd.out.cell (p := ⟨gb, off + 1, none⟩) hgl).trans cd; clear hba))
  all_goals
    go_wp2
    go_ret
    have k := HB8.out.next HBe.out
    exact ⟨by simp, ⟨k.os, k.tape, k.output, k.size, k.block⟩⟩
end Go.Proofs.Ytfjoajcfpldniaa
