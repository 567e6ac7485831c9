import Derived.Test.YtonejnbflkkapabRf
namespace Go.Proofs.Ytonejnbflkkapab
open Go.RowKit

theorem WIs.below {base g : Nat} {w w' : World} {bs : List UInt8} (h : WIs base g w bs) (k : Below w.heap.size w w') : WIs base g w' bs := by
  obtain ⟨v, h1, h2⟩ := h
  refine ⟨v, (k.block g (lt_of_block h1)).trans h1, ?_⟩
  have hlt := h2.lt
  obtain ⟨e1, e2 | ⟨b, cap, cur, rfl, e3, e4, e5⟩⟩ := h2
  · exact ⟨e1, .inl e2⟩
  · exact ⟨e1, .inr ⟨b, cap, cur, rfl, e3, (k.block b (hlt b rfl).2).trans e4, e5⟩⟩
theorem RIs.below {g : Nat} {w w' : World} {s : ByteArray} {e : Int} (h : RIs g w s e) (k : Below w.heap.size w w') : RIs g w' s e := (k.block g h.lt).trans h

def S0 : ByteArray := st [172, 2, 1, 2, 97, 98]
def S1 : ByteArray := st [1, 2, 97, 98]
def S2 : ByteArray := st [2, 97, 98]
def S3 : ByteArray := st []
def AB : ByteArray := { data := #[97, 98] }
theorem e300 : [] ++ uEnc 300 = [172, 2] := by rw [uEnc_hi (by decide), uEnc_lo (by decide)]; decide
theorem eM1 : [172, 2] ++ uEnc (zig (-1)) = [172, 2, 1] := by rw [show zig (-1) = 1 by decide, uEnc_lo (by decide)]; decide
theorem eAB : [172, 2, 1] ++ (uEnc AB.size ++ AB.data.toList) = [172, 2, 1, 2, 97, 98] := by rw [show AB.size = 2 by decide, uEnc_lo (by decide)]; decide
theorem sp_uint (g : Nat) (w : World) (h : RIs g w S0 0) : Calls Try.prog 15 #[.pointer (some ⟨g, 0, none⟩)] w fun x w' => x = .returned (.tuple #[.int .i64 300, .int .i64 0]) ∧ RIs g w' S1 0 ∧ Kept w.heap.size g w w' :=
  uint_ok g S0 2 (by decide) (by decide) w h
theorem sp_int (g : Nat) (w : World) (h : RIs g w S1 0) : Calls Try.prog 17 #[.pointer (some ⟨g, 0, none⟩)] w fun x w' => x = .returned (.tuple #[.int .i64 (-1), .int .i64 0]) ∧ RIs g w' S2 0 ∧ Kept w.heap.size g w w' :=
  int_ok g S1 1 (by decide) (by decide) w h
theorem sp_text (g : Nat) (w : World) (h : RIs g w S2 0) : Calls Try.prog 21 #[.pointer (some ⟨g, 0, none⟩), .int .i64 9] w fun x w' => x = .returned (.tuple #[.string AB, .int .i64 0]) ∧ RIs g w' S3 0 ∧ Kept w.heap.size g w w' :=
  text_ok g S2 9 (by decide) 1 (by decide) (by decide) (by decide) (by decide) w h
theorem sp_end (g : Nat) (w : World) (h : RIs g w S3 0) : Calls Try.prog 24 #[.pointer (some ⟨g, 0, none⟩)] w fun x w' => x = .returned (.int .i64 0) ∧ w' = w :=
  end_r g S3 0 w h
theorem sp_wu (B : Nat) (w : World) (h : WIs B B w []) (hb : B ≤ w.heap.size) : Calls Try.prog 29 #[.pointer (some ⟨B, 0, none⟩), .int .i64 300] w fun e w' => e = .returned (.int .i64 0) ∧ WIs B B w' [172, 2] ∧ Kept B B w w' := by
  have := uint_w B B 300 [] (by decide) (by decide) w h hb; rwa [e300] at this
theorem sp_wi (B : Nat) (w : World) (h : WIs B B w [172, 2]) (hb : B ≤ w.heap.size) : Calls Try.prog 33 #[.pointer (some ⟨B, 0, none⟩), .int .i64 (-1)] w fun e w' => e = .returned (.int .i64 0) ∧ WIs B B w' [172, 2, 1] ∧ Kept B B w w' := by
  have := int_w B B (-1) [172, 2] (by decide) (by decide) w h hb; rwa [eM1] at this
theorem sp_wt (B : Nat) (w : World) (h : WIs B B w [172, 2, 1]) (hb : B ≤ w.heap.size) : Calls Try.prog 35 #[.pointer (some ⟨B, 0, none⟩), .string AB] w fun e w' => e = .returned (.int .i64 0) ∧ WIs B B w' [172, 2, 1, 2, 97, 98] ∧ Kept B B w w' := by
  have := text_w B B AB [172, 2, 1] (by decide) (by decide) w h hb; rwa [eAB] at this
theorem sp_out (B : Nat) (w : World) (h : WIs B B w [172, 2, 1, 2, 97, 98]) : Calls Try.prog 12 #[.pointer (some ⟨B, 0, none⟩)] w fun e w' => e = .returned (.string S0) ∧ w' = w :=
  out_w B B _ w h
theorem below_alloc (w : World) (o : Obj) : Below w.heap.size w (w.alloc o) := (Below.refl _ _).alloc (Nat.le_refl _) o

set_option maxRecDepth 10000 in
set_option maxHeartbeats 2000000 in
theorem speaks_any (w : World) : Calls Try.prog 13 #[] w fun e w' => e = .returned (.bool true) ∧ Below w.heap.size w w' := by
  have hAB : AB.toList = [97, 98] := by rw [Lib.toList_data]; rfl
  have hS0 : S0.toList = [172, 2, 1, 2, 97, 98] := by rw [Lib.toList_data]; rfl
  go_enter Try.func13, Try.ntmps13
  go_wp2_with (first | (go_at_call 9; refine (new_any _).mono ?_; rintro e w1 ⟨rfl, hw1⟩; have b1 := hw1 ▸ below_alloc w _; have i1 := hw1 ▸ WIs.new w w.heap.size; clear hw1; have z1 := b1.size) | (go_at_call 29; refine (sp_wu w.heap.size _ i1 z1).mono ?_; rintro e w2 ⟨rfl, i2, k2⟩; have z2 := k2.size) | (go_at_call 33; refine (sp_wi w.heap.size _ i2 (by omega)).mono ?_; rintro e w3 ⟨rfl, i3, k3⟩; have z3 := k3.size) | (go_at_call 35; refine (sp_wt w.heap.size _ i3 (by omega)).mono ?_; rintro e w4 ⟨rfl, i4, k4⟩; have z4 := k4.size) | (go_at_call 12; have hq := i5; refine (sp_out w.heap.size _ (i4.below hbl)).mono ?_; rintro e wq ⟨rfl, hwq⟩; have hwq := hwq.symm; subst hwq) | (go_at_call 12; refine (sp_out w.heap.size _ i4).mono ?_; rintro e wq ⟨rfl, hwq⟩; have hwq := hwq.symm; subst hwq) | (go_at_call 14; refine (of_any _ _).mono ?_; rintro e w5 ⟨rfl, hw5⟩; have b5 := hw5 ▸ below_alloc w4 _; have i5 := hw5 ▸ RIs.new _ w4; clear hw5) | (go_at_call 15; refine (sp_uint _ _ i5).mono ?_; rintro e w6 ⟨rfl, i6, k6⟩) | (go_at_call 17; refine (sp_int _ _ i6).mono ?_; rintro e w7 ⟨rfl, i7, k7⟩) | (go_at_call 21; refine (sp_text _ _ i7).mono ?_; rintro e w8 ⟨rfl, i8, k8⟩; have hbl := ((b5.trans (k6.below b5.size (Nat.le_refl _))).trans (k7.below (Nat.le_trans b5.size k6.size) (Nat.le_refl _))).trans (k8.below (Nat.le_trans b5.size (Nat.le_trans k6.size k7.size)) (Nat.le_refl _))) | (go_at_call 24; refine (sp_end _ _ i8).mono ?_; rintro e wq ⟨rfl, hwq⟩; have hwq := hwq.symm; subst hwq))
  go_ret
  have b4 : Below w.heap.size w w4 := ((b1.trans (k2.below (Nat.le_refl _) (Nat.le_refl _))).trans (k3.below (Nat.le_refl _) (Nat.le_refl _))).trans (k4.below (Nat.le_refl _) (Nat.le_refl _))
  exact ⟨rfl, b4.trans (hbl.mono b4.size)⟩
end Go.Proofs.Ytonejnbflkkapab
