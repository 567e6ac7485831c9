import Derived.Test.YtjnhibpebikkmaaGreatGf
namespace Go.Proofs.YtjnhibpebikkmaaGreat
open Go.RowKit Go.Maps Go.Shelf

theorem s_geo : geo 40 20 4 = sG := rfl
theorem s_okS : Sh.okS ((40 : Nat) : Int) ((20 : Nat) : Int) ((4 : Nat) : Int) := by
  refine ⟨⟨⟨?_, ?_⟩, ⟨?_, ?_⟩, ⟨?_, ?_⟩⟩, ?_⟩ <;> decide
set_option maxRecDepth 1000000 in
theorem s_y : st (bys sG sB2 (usdI sG sB2 1) (min 8959 8961) (min (min 8959 8961 + 5) 8961 - min 8959 8961)) = ⟨#[0, 120]⟩ := by decide +kernel
theorem s_sz : ∀ s ∈ sF, s.size = 128 := by
  intro s hs
  rw [List.eq_of_mem_replicate hs]
  exact Zs_size 128
theorem s_len : sF.length = 40 := List.length_replicate
/-- the view of 'speaks', in a world above w -/
structure SV (w : World) (p : Nat) (B : List ByteArray) (w' : World) : Prop where
  ex : ∃ q cap m, VI sG p q cap m w' sF B ∧ w.heap.size ≤ q ∧ w.heap.size ≤ m
  le : w.heap.size ≤ p
  bel : Below w.heap.size w w'
theorem SV.next {w w1 w2 : World} {p : Nat} {B : List ByteArray} (h : SV w p B w1) (k : Below w1.heap.size w1 w2) : SV w p B w2 := by
  obtain ⟨⟨q, cap, m, hv, hq, hm⟩, hp, hb⟩ := h
  exact ⟨⟨q, cap, m, hv.below k, hq, hm⟩, hp, hb.next k⟩
theorem sv_free {w w1 : World} {p : Nat} {B : List ByteArray} (h : SV w p B w1) : Calls Tryz.prog 18 #[.pointer (some ⟨p, 0, none⟩)] w1 fun e w' => e = .returned (.int .i64 (freN sG B)) ∧ SV w p B w' := by
  obtain ⟨q, cap, m, hv, hq, hm⟩ := h.ex
  exact (free_any hv).mono fun e w' ⟨he, hb⟩ => ⟨he, h.next hb⟩
set_option maxRecDepth 100000 in
theorem sv_set {w w1 : World} {p : Nat} (h : SV w p sF w1) : Calls Tryz.prog 13 #[.pointer (some ⟨p, 0, none⟩), .int .i64 1, sN.v] w1 fun e w' => e = .returned (.int .i64 0) ∧ SV w p sB w' := by
  obtain ⟨q, cap, m, hv, hq, hm⟩ := h.ex
  have k := vset_ok (w := w1) 1 (show 1 < sG.z by decide) sN s_c hv
  have e0 : putB sG sF 1 sN = sB := by unfold sB; rfl
  rw [e0] at k
  exact k.mono fun e w' ⟨he, hv', ho⟩ => ⟨he, ⟨q, cap, m, hv', hq, hm⟩, h.le, h.bel.trans (ho.below h.bel.size (fun x hx => by rw [List.mem_singleton] at hx; omega))⟩
set_option maxRecDepth 100000 in
theorem sv_write {w w1 : World} {p : Nat} (h : SV w p sB w1) : Calls Tryz.prog 11 #[.pointer (some ⟨p, 0, none⟩), .int .i64 1, .int .i64 8960, .string ⟨#[120]⟩] w1 fun e w' => e = .returned (.int .i64 0) ∧ SV w p sB2 w' := by
  obtain ⟨q, cap, m, hv, hq, hm⟩ := h.ex
  have c1 : ((1 : Nat) : Int) = 1 := rfl
  have ha : usdE sG sB ((1 : Nat) : Int) = 0 := by rw [c1]; exact s_a
  have hr : (layR sG sB (usdI sG sB ((1 : Nat) : Int)) 8960 sD).1 = 0 := by
    have k := s_r
    unfold sR at k
    rw [c1]
    exact k
  have hd1 : sD.size = 1 := rfl
  have k := write_ok (w := w1) 1 8960 sD (by rw [hd1]; decide) (by rw [hd1]; decide) (by rw [hd1]; decide) ha hr hv
  have e0 : putB sG (layR sG sB (usdI sG sB ((1 : Nat) : Int)) 8960 sD).2.1 1 (layR sG sB (usdI sG sB ((1 : Nat) : Int)) 8960 sD).2.2 = sB2 := by
    unfold sB2 sR
    rw [c1]
  rw [e0] at k
  exact k.mono fun e w' ⟨he, hv', ho⟩ => ⟨he, ⟨q, cap, m, hv', hq, hm⟩, h.le, h.bel.trans (ho.below h.bel.size (fun x hx => by rw [List.mem_singleton] at hx; omega))⟩
theorem sv_read {w w1 : World} {p : Nat} (h : SV w p sB2 w1) : Calls Tryz.prog 17 #[.pointer (some ⟨p, 0, none⟩), .int .i64 1, .int .i64 8959, .int .i64 5] w1 fun e w' => e = .returned (.tuple #[.string ⟨#[0, 120]⟩, .int .i64 0]) ∧ SV w p sB2 w' := by
  obtain ⟨q, cap, m, hv, hq, hm⟩ := h.ex
  have k := read_ok (w := w1) 1 8959 5 8961 (by decide) (by decide) s_u.1 s_u.2.1 (by decide) hv
  rw [s_y] at k
  exact k.mono fun e w' ⟨he, hb⟩ => ⟨he, h.next hb⟩
theorem sv_at {w w1 : World} {p : Nat} (h : SV w p sB2 w1) : Calls Tryz.prog 19 #[.pointer (some ⟨p, 0, none⟩), .int .i64 1, .int .i64 70] w1 fun e w' => e = .returned (.tuple #[.int .i64 25, .int .i64 0]) ∧ SV w p sB2 w' := by
  obtain ⟨q, cap, m, hv, hq, hm⟩ := h.ex
  have k := at_ok (w := w1) 1 70 (by decide) s_n hv
  rw [s_k] at k
  exact k.mono fun e w' ⟨he, hb⟩ => ⟨he, h.next hb⟩
theorem sv_changes {w w1 : World} {p : Nat} (h : SV w p sB2 w1) : Calls Tryz.prog 10 #[.pointer (some ⟨p, 0, none⟩)] w1 fun e w' => ∃ ao cp, e = .returned (.slice ao 5 cp) ∧ SV w p sB2 w' := by
  obtain ⟨q, cap, m, hv, hq, hm⟩ := h.ex
  refine (changes_any hv).mono ?_
  rintro e w' ⟨v, rfl, ⟨ao, cp, rfl, _⟩, hb⟩
  rw [s_l]
  exact ⟨ao, cp, rfl, h.next hb⟩
theorem sv_new {w w1 : World} {v : Value} (hb : Below w.heap.size w w1) (hs : SRow w.heap.size w1 v sF) : ∃ ao cp, v = .slice ao 40 cp ∧ Calls Tryz.prog 8 #[.agg #[.int .i64 40, .int .i64 20, .int .i64 4], v] w1 fun e w' => ∃ p, e = .returned (.tuple #[.pointer (some ⟨p, 0, none⟩), .int .i64 0]) ∧ SV w p sF w' := by
  have h40 : sF.length = 40 := s_len
  unfold SRow at hs
  rw [h40] at hs
  obtain ⟨g, cp, rfl, hg, hc⟩ := own_row hs (by decide)
  refine ⟨some ⟨g, 0, none⟩, cp, rfl, ?_⟩
  have hrow : ∀ j (hj : j < sF.length), w1.cell? ⟨g, 0 + j, none⟩ = some (.string sF[j]) := fun j hj => by
    rw [Nat.zero_add, hc j (by simpa using hj)]
    simp
  have hlt : g < w1.heap.size := row_lt (F := sF) (by rw [h40]; decide) (fun i hi => by have := hrow i hi; rwa [Nat.zero_add] at this)
  refine (new_ok (x := 40) (y := 20) (z := 4) s_okS g 0 cp sF h40 s_sz w1 hrow hlt).mono ?_
  rintro e w' ⟨p, rfl, hnv⟩
  obtain ⟨⟨q, cap, m, hvi, hq, hm⟩, hp, hbn⟩ := hnv
  rw [s_geo] at hvi
  have hsz := hb.size
  exact ⟨p, rfl, ⟨⟨q, cap, m, hvi, by omega, by omega⟩, by omega, hb.next hbn⟩⟩
set_option maxRecDepth 100000 in
set_option maxHeartbeats 2000000 in
theorem speaks_any (w : World) : Calls Tryz.prog 9 #[] w fun e w' => e = .returned (.bool true) ∧ Below w.heap.size w w' := by
  go_enter Tryz.func9, Tryz.ntmps9
  go_wp2_with (go_at_call 15; fail)
  refine (little_any _).mono ?_
  rintro e w1 ⟨rfl, hb1⟩
  go_wp2_with (go_at_call 15; fail)
  refine (little_any _).mono ?_
  rintro e w2 ⟨rfl, hb2⟩
  go_wp2_with (go_at_call 16; fail)
  refine (blank_any _).mono ?_
  rintro e w3 ⟨v3, rfl, hs3, hb3⟩
  have hb03 := (hb1.next hb2).next hb3
  have hs03 : SRow w.heap.size w3 v3 sF := by
    obtain ⟨e1, e2 | ⟨x, cp, cur, e3, e4, e5⟩⟩ := hs3
    · exact ⟨e1, .inl e2⟩
    · exact ⟨e1, .inr ⟨x, cp, cur, e3, Nat.le_trans (hb1.next hb2).size e4, e5⟩⟩
  obtain ⟨ao, cp, rfl, hnew⟩ := sv_new hb03 hs03
  have HNEW := hid hnew
  clear hb1 hb2 hb3 hb03 hs3 hs03 hnew
  have q26 : ∀ (w : World) (g : Nat), (binOp .eql 26 (.pointer (some ⟨g, 0, none⟩)) (.pointer none)).run Tryz.prog w = .ok (.bool false) w := fun w g => by kernel_rfl
  go_wp2_with (first | (go_at_call 8; fail))
  refine HNEW.out.mono ?_
  rintro e w4 ⟨p, rfl, hv4⟩
  have HV4 := hid hv4
  clear hv4 HNEW
  go_wp2_with (go_at_call 18; fail)
  refine (sv_free HV4.out).mono ?_
  rintro e w5 ⟨rfl, hv5⟩
  rw [s_f]
  have HV5 := hid hv5
  clear hv5 HV4
  go_wp2_with (first
    | (go_at_call 13; refine (sv_set HV5.out).mono ?_; rintro e w6 ⟨rfl, hv6⟩; have HV6 := hid hv6; clear hv6)
    | (go_at_call 11; refine (sv_write HV6.out).mono ?_; rintro e w7 ⟨rfl, hv7⟩; have HV7 := hid hv7; clear hv7)
    | (go_at_call 17; refine (sv_read HV7.out).mono ?_; rintro e w8 ⟨rfl, hv8⟩; have HV8 := hid hv8; clear hv8)
    | (go_at_call 19; refine (sv_at HV8.out).mono ?_; rintro e w9 ⟨rfl, hv9⟩; have HV9 := hid hv9; clear hv9)
    | (go_at_call 18; fail))
  refine (sv_free HV9.out).mono ?_
  rintro e w10 ⟨rfl, hv10⟩
  rw [s_g]
  have HV10 := hid hv10
  clear hv10
  go_wp2_with (first
    | (go_at_call 10; refine (sv_changes HV10.out).mono ?_; rintro e w11 ⟨ao', cp', rfl, hv11⟩; have HV11 := hid hv11; clear hv11))
  go_ret
  exact ⟨rfl, HV11.out.bel⟩
end Go.Proofs.YtjnhibpebikkmaaGreat
