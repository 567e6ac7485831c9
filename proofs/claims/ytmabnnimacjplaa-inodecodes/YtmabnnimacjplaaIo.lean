import Derived.Test.YtmabnnimacjplaaIn
namespace Go.Proofs.Ytmabnnimacjplaa
open Go.RowKit Go.Maps

def N0 : Ino := ⟨1, 2, 300, 0, 0, 0, 0, 0, 0, 258, 0⟩
theorem n0_right : rightI N0 = true := by decide +kernel
theorem n0_enc : encV N0 = st (encL N0) := by unfold encV; rw [if_pos n0_right]
theorem n0_size : (encV N0).size = 32 := by rw [n0_enc, st_size, encL_len]
theorem cos4 : cosV [0, 6, 70, 134] = 8 ∧ cosE [0, 6, 70, 134] = 0 := by decide +kernel
theorem pl134 : pl0 134 = 2 ∧ pl1 134 = 1 ∧ pl2 134 = 0 ∧ plE 134 = 0 := by decide +kernel
theorem lie4 (w : World) : ILie (w.alloc (.cells #[.int .i64 0, .int .i64 6, .int .i64 70, .int .i64 134] 3)) (.slice (some ⟨w.heap.size, 0, none⟩) 4 4) [0, 6, 70, 134] := by
  refine ⟨_, 4, rfl, Nat.le_refl _, by unfold maxLen; omega, fun i hi => ⟨w.heap.size, 0, rfl, by simp, ?_⟩⟩
  rw [cell_of (box_at w _)]
  have hi' : i < 4 := hi
  match i, hi' with
  | 0, _ => rfl
  | 1, _ => rfl
  | 2, _ => rfl
  | 3, _ => rfl
set_option maxRecDepth 100000 in
set_option maxHeartbeats 4000000 in
theorem speaks_any (w : World) : Calls Try.prog 15 #[] w fun e w' => e = .returned (.bool true) ∧ Below w.heap.size w w' := by
  have HE := hid (encode_any N0)
  rw [rightE n0_right] at HE
  have HD := hid (decode_any (encV N0) (by rw [n0_size]; decide))
  rw [show (encV N0).data.toList = encL N0 by rw [n0_enc, st_list], (dec_yes n0_right).1, (dec_yes n0_right).2] at HD
  have hsz := n0_size
  have HP := hid (place_any 134)
  rw [pl134.1, pl134.2.1, pl134.2.2.1, pl134.2.2.2] at HP
  have HC := hid (fun v w h => cost_any v [0, 6, 70, 134] w h)
  rw [cos4.1, cos4.2] at HC
  have heq : ∀ w, (Op.equalIn 10000 24 N0.v N0.v).run Try.prog w = .ok true w := fun w => by rw [eqI]; simp
  obtain ⟨E, hE⟩ : ∃ E, E = encV N0 := ⟨_, rfl⟩
  rw [← hE] at HE HD hsz
  clear hE
  have HB0 : Hid (Box w.heap.size (w.alloc (.cells #[.int .i64 1, .int .i64 2, .int .i64 300, .int .i64 0, .int .i64 0, .int .i64 0, .int .i64 0, .int .i64 0, .int .i64 0, .int .i64 258, .int .i64 0] 24)) N0) := box_at _ _
  have HL4 := hid lie4
  have HBX : Hid (∀ w : World, Box w.heap.size (w.alloc (.cells #[.int .i64 1, .int .i64 2, .int .i64 300, .int .i64 0, .int .i64 0, .int .i64 0, .int .i64 0, .int .i64 0, .int .i64 0, .int .i64 258, .int .i64 0] 24)) N0) := fun w => box_at _ _
  simp only [Ino.v, N0] at HE HD heq
  go_enter Try.func15, Try.ntmps15
  go_wp2_with (first
    | (go_at_call 9; refine (HE.out _).mono ?_; rintro x w1 ⟨rfl, hb1⟩; have HB1 := hid (HB0.out.below hb1); have HW1 : Hid (Below w.heap.size w w1) := (below_alloc w _).next hb1; clear hb1)
    | (go_at_call 11; refine (HD.out _).mono ?_; rintro x w2 ⟨rfl, hb2⟩; have HB2 := hid ((HB1.out.below hb2).below (below_alloc w2 (.cells #[.int .i64 1, .int .i64 2, .int .i64 300, .int .i64 0, .int .i64 0, .int .i64 0, .int .i64 0, .int .i64 0, .int .i64 0, .int .i64 258, .int .i64 0] 24))); have HC2 := hid (HBX.out w2); have HW2 : Hid (Below w.heap.size w (w2.alloc (.cells #[.int .i64 1, .int .i64 2, .int .i64 300, .int .i64 0, .int .i64 0, .int .i64 0, .int .i64 0, .int .i64 0, .int .i64 0, .int .i64 258, .int .i64 0] 24))) := (HW1.out.next hb2).next (below_alloc w2 _); clear hb2)
    | (go_at_call 20; refine (HP.out _).mono ?_; rintro x w3 ⟨rfl, hb3⟩; have HB3 := hid (HB2.out.below hb3); have HC3 := hid (HC2.out.below hb3); have HW3 : Hid (Below w.heap.size w w3) := HW2.out.next hb3; clear hb3)
    | (go_at_call 26; refine (HC.out _ _ (HL4.out _)).mono ?_; rintro x w4 ⟨rfl, hb4⟩; have hB4 := ((HB3.out.below (below_alloc _ _)).below hb4); have hC4 := ((HC3.out.below (below_alloc _ _)).below hb4); have HW4 : Hid (Below w.heap.size w w4) := (HW3.out.next (below_alloc _ _)).next hb4; obtain ⟨c0, c1, c2, c3, c4, c5, c6, c7, c8, c9, c10⟩ := hB4.cells; obtain ⟨d0, d1, d2, d3, d4, d5, d6, d7, d8, d9, d10⟩ := hC4.cells; clear hb4 hB4 hC4))
  go_ret
  exact ⟨rfl, HW4.out⟩
end Go.Proofs.Ytmabnnimacjplaa
