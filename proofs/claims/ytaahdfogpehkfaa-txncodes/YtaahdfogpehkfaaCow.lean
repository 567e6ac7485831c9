import Derived.Test.YtaahdfogpehkfaaRd
namespace Go.Proofs.Ytaahdfogpehkfaa
open Go.RowKit Go.Maps
theorem SLie.nil (w : World) : SLie w (.slice none 0 0) [] := ⟨none, 0, rfl, Nat.le_refl _, by decide, fun i hi => by simp at hi⟩
/-- what both encode -/
theorem enc_both (seq : Int) (vl : Value) (l : List Chg) : ∃ (E : List ByteArray) (k : Int),
    (∀ w, CLie w vl l → Calls Try.prog 15 #[.int .i64 seq, vl] w fun e w' => ∃ v', e = .returned (.tuple #[v', .int .i64 k]) ∧ SLie w' v' E ∧ Below w.heap.size w w') ∧
    (∀ w, CLie w vl l → Calls Try.prog 16 #[.int .i64 seq, vl] w fun e w' => ∃ v', e = .returned (.tuple #[v', .int .i64 k]) ∧ SLie w' v' E ∧ Below w.heap.size w w') := by
  by_cases hseq : 1 ≤ seq ∧ seq ≤ 1099511627776
  · cases hr : right l with
    | false => exact ⟨[], 70, fun w h => (encode_txn seq vl l hseq w h hr).mono fun e w' ⟨he, hb⟩ => ⟨_, he, SLie.nil _, hb⟩, fun w h => (refEncode_txn seq vl l hseq w h hr).mono fun e w' ⟨he, hb⟩ => ⟨_, he, SLie.nil _, hb⟩⟩
    | true =>
      obtain ⟨n, rfl⟩ : ∃ n : Nat, seq = n := ⟨seq.toNat, by omega⟩
      exact ⟨encL n l, 0, fun w h => encode_ok n vl l (by omega) (by omega) w h hr, fun w h => refEncode_ok n vl l (by omega) (by omega) w h hr⟩
  · exact ⟨[], 1, fun w h => (encode_arg seq vl hseq w).mono fun e w' ⟨he, hw⟩ => ⟨_, he, SLie.nil _, hw ▸ Below.refl _ _⟩, fun w h => (refEncode_arg seq vl hseq w).mono fun e w' ⟨he, hw⟩ => ⟨_, he, SLie.nil _, hw ▸ Below.refl _ _⟩⟩
theorem rp_det (b : ByteArray) (bl : List ByteArray) : ∃ (n k g : Int) (L : List Chg), ∀ e w', RP b bl e w' → ∃ v', e = .returned (.tuple #[.int .i64 n, v', .int .i64 k, .int .i64 g]) ∧ CLie w' v' L := by
  by_cases hh : ∃ s ps sm, isHead b s ps sm
  · obtain ⟨s, ps, sm, hd⟩ := hh
    by_cases hs : bl.length < ps.length
    · exact ⟨0, 0, 20, [], fun e w' h => ⟨_, (h.2 s ps sm hd).1 hs, CLie.nil _⟩⟩
    · by_cases hg : blocksB (bl.take ps.length) = true ∧ crc (allD (bl.take ps.length)) = sm
      · exact ⟨s, 1 + (ps.length : Int), 0, zipC ps (bl.take ps.length), fun e w' h => ((h.2 s ps sm hd).2 (by omega)).1 hg⟩
      · exact ⟨0, 0, 4, [], fun e w' h => ⟨_, ((h.2 s ps sm hd).2 (by omega)).2 hg, CLie.nil _⟩⟩
  · exact ⟨0, 0, 4, [], fun e w' h => ⟨_, h.1 hh, CLie.nil _⟩⟩
/-- what both decode -/
theorem dec_both (vb : Value) (bls : List ByteArray) (hy : ∀ x ∈ bls, x.size ≤ 140737488351232) : ∃ (n k g : Int) (L : List Chg),
    (∀ w, SLie w vb bls → Calls Try.prog 17 #[vb] w fun e w' => (∃ v', e = .returned (.tuple #[.int .i64 n, v', .int .i64 k, .int .i64 g]) ∧ CLie w' v' L) ∧ Below w.heap.size w w') ∧
    (∀ w, SLie w vb bls → Calls Try.prog 18 #[vb] w fun e w' => (∃ v', e = .returned (.tuple #[.int .i64 n, v', .int .i64 k, .int .i64 g]) ∧ CLie w' v' L) ∧ Below w.heap.size w w') := by
  cases bls with
  | nil =>
    refine ⟨0, 0, 20, [], fun w h => ?_, fun w h => ?_⟩
    · obtain ⟨ao, cap, rfl, _⟩ := h
      exact (decode_none ao cap w).mono fun e w' ⟨he, hw⟩ => ⟨⟨_, he, CLie.nil _⟩, hw ▸ Below.refl _ _⟩
    · obtain ⟨ao, cap, rfl, _⟩ := h
      exact (refDecode_none ao cap w).mono fun e w' ⟨he, hw⟩ => ⟨⟨_, he, CLie.nil _⟩, hw ▸ Below.refl _ _⟩
  | cons b bl =>
    have hb : b.size ≤ 150000000000000 := by have := hy b (by simp); omega
    obtain ⟨n, k, g, L, hR⟩ := rp_det b bl
    exact ⟨n, k, g, L, fun w h => (decode_all vb b bl w h hb).mono fun e w' ⟨he, hw⟩ => ⟨hR e w' he, hw⟩, fun w h => (refDecode_any vb b bl w h hb).mono fun e w' ⟨he, hw⟩ => ⟨hR e w' he, hw⟩⟩
set_option maxRecDepth 100000 in
set_option maxHeartbeats 4000000 in
theorem codes_walk (seq : Int) (vl vb : Value) (l : List Chg) (bls : List ByteArray) (w : World) (hl : CLie w vl l) (hb : SLie w vb bls) (hy : ∀ x ∈ bls, x.size ≤ 140737488351232) : Calls Try.prog 4 #[.int .i64 seq, vl, vb] w fun e w' => e = .returned (.bool true) ∧ Below w.heap.size w w' := by
  obtain ⟨E, ke, he1, he2⟩ := enc_both seq vl l
  obtain ⟨n, k, g, L, hd1, hd2⟩ := dec_both vb bls hy
  have HE1 := hid he1
  have HE2 := hid he2
  have HD1 := hid hd1
  have HD2 := hid hd2
  have HS := hid speaks_any
  have HL := hid hl
  have HB := hid hb
  have HTX := hid (fun v v' w h k => texts_same v v' E w h k)
  have HCH := hid (fun v v' w h k => changes_any v v' L L w h k)
  simp only [sameC_self] at HCH
  clear he1 he2 hd1 hd2 hl hb hy
  go_enter Try.func4, Try.ntmps4
  go_wp2_with (first | (go_at_call 15; fail))
  refine (HE1.out _ HL.out).mono ?_
  rintro e w1 ⟨v1, rfl, hE1, hb1⟩
  have HX1 := hid hE1
  have HL1 := hid (HL.out.below hb1)
  have HB1 := hid (HB.out.below hb1)
  have HW1 := hid hb1
  clear hE1 hb1
  go_wp2_with (first | (go_at_call 16; fail))
  refine (HE2.out _ HL1.out).mono ?_
  rintro e w2 ⟨v2, rfl, hE2, hb2⟩
  have HX2 := hid (HX1.out.below hb2)
  have HY2 := hid hE2
  have HB2 := hid (HB1.out.below hb2)
  have HW2 := hid (HW1.out.next hb2)
  clear hE2 hb2
  go_wp2_with (first | (go_at_call 17; fail))
  refine (HD1.out _ HB2.out).mono ?_
  rintro e w3 ⟨⟨v3, rfl, hL3⟩, hb3⟩
  have HX3 := hid (HX2.out.below hb3)
  have HY3 := hid (HY2.out.below hb3)
  have HB3 := hid (HB2.out.below hb3)
  have HC3 := hid hL3
  have HW3 := hid (HW2.out.next hb3)
  clear hL3 hb3
  go_wp2_with (first | (go_at_call 18; fail))
  refine (HD2.out _ HB3.out).mono ?_
  rintro e w4 ⟨⟨v4, rfl, hL4⟩, hb4⟩
  have HX4 := hid (HX3.out.below hb4)
  have HY4 := hid (HY3.out.below hb4)
  have HC4 := hid (HC3.out.below hb4)
  have HD4 := hid hL4
  have HW4 := hid (HW3.out.next hb4)
  clear hL4 hb4
  go_wp2_with (first
    | (go_at_call 19; refine (HTX.out _ _ _ HX4.out HY4.out).mono ?_; rintro e w5 ⟨rfl, hb5⟩; have HB5 := hid hb5; clear hb5)
    | (go_at_call 13; refine (HCH.out _ _ _ (HC4.out.below HB5.out) (HD4.out.below HB5.out)).mono ?_; rintro e w6 ⟨rfl, hb6⟩; have HB6 := hid (HB5.out.next hb6); clear hb6)
    | (go_at_call 14; refine (HS.out _).mono ?_; rintro e w8 ⟨rfl, hb8⟩))
  go_ret
  exact ⟨rfl, (HW4.out.next HB6.out).next hb8⟩
end Go.Proofs.Ytaahdfogpehkfaa
