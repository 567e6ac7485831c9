import Derived.Test.YtecfibabeimjoaaRc
namespace Go.Proofs.Ytecfibabeimjoaa
open Go.RowKit Go.Maps Go.Sort Go.Shelf
set_option maxRecDepth 100000 in
set_option maxHeartbeats 1000000 in
theorem rtwice_no {B1 g : Nat} {n : Int} {v : Value} {L : List Msg} (i : Int) (hi : ¬ inL L i) (w : World) (h : RB B1 g w n v L) : Calls Try.prog 16 #[.pointer (some ⟨g, 0, none⟩), .int .i64 i] w fun e w' => e = .returned (.int .i64 6) ∧ Below w.heap.size w w' := by
  have HL := hid (rlist_any w h)
  have hlen : (dd L).length ≤ 1024 := Nat.le_trans (dd_len_le L) h.le
  unfold inL at hi
  obtain ⟨l, hl⟩ : ∃ l, l = dd L := ⟨_, rfl⟩
  rw [← hl] at HL hlen hi
  clear hl h
  by_cases h0 : i < 0
  · go_enter Try.func16, Try.ntmps16
    go_wp2_with (go_at_call 21; fail)
    refine (HL.out).mono ?_
    rintro e w2 ⟨v2, rfl, hL2, hb2⟩
    obtain ⟨ao2, cap2, rfl⟩ := hL2.len
    clear hi
    go_wp2
    go_ret
    exact ⟨rfl, hb2⟩
  · have h1 : (l.length : Int) ≤ i := by omega
    go_enter Try.func16, Try.ntmps16
    go_wp2_with (go_at_call 21; fail)
    refine (HL.out).mono ?_
    rintro e w2 ⟨v2, rfl, hL2, hb2⟩
    obtain ⟨ao2, cap2, rfl⟩ := hL2.len
    clear hi
    go_wp2
    go_ret
    exact ⟨rfl, hb2⟩
set_option maxRecDepth 100000 in
set_option maxHeartbeats 1000000 in
/-- Twice of one that is there: what add does -/
theorem rtwice_go {B1 g : Nat} {n : Int} {v : Value} {L : List Msg} (i : Nat) (hi : i < (dd L).length) (r : Int) (R : World → World → Prop) (w : World) (h : RB B1 g w n v L)
    (hA : ∀ w1, RB B1 g w1 n v L → Calls Try.prog 28 #[.pointer (some ⟨g, 0, none⟩), valM (dd L)[i]] w1 fun e w' => e = .returned (.int .i64 r) ∧ R w1 w') :
    Calls Try.prog 16 #[.pointer (some ⟨g, 0, none⟩), .int .i64 i] w fun e w' => e = .returned (.int .i64 r) ∧ ∃ w1, Below w.heap.size w w1 ∧ R w1 w' := by
  have HL := hid (rlist_any w h)
  have hlen : (dd L).length ≤ 1024 := Nat.le_trans (dd_len_le L) h.le
  have HA := hid hA
  have HR := hid h
  obtain ⟨x, hx⟩ : ∃ x, x = (dd L)[i] := ⟨_, rfl⟩
  have HX := hid hx
  rw [← hx] at HA
  clear h hA hx
  unfold valM at HA
  go_enter Try.func16, Try.ntmps16
  go_wp2_with (go_at_call 21; fail)
  refine (HL.out).mono ?_
  rintro e w2 ⟨v2, rfl, hL2, hb2⟩
  obtain ⟨gb, cap2, rfl, hc1, hc2, hbs, hgl, c0, c1, c2⟩ := hL2.cellsAt i hi
  rw [← HX.out] at c0 c1 c2
  have HA2 := hid (HA.out w2 (HR.out.below hb2))
  have HB2 := hid hb2
  unfold maxLen at hc2
  obtain ⟨l, hl⟩ : ∃ l, l = dd L := ⟨_, rfl⟩
  rw [← hl] at hi hlen hc1 ⊢
  clear hL2 hb2 HL HA HR HX hl
  go_wp2_with (first
    | (go_at_call 28; refine (HA2.out).mono ?_; rintro e w3 ⟨rfl, hR3⟩))
  go_ret
  exact ⟨rfl, w2, HB2.out, hR3⟩
end Go.Proofs.Ytecfibabeimjoaa
