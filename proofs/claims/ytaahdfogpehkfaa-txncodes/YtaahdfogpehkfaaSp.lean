import Derived.Test.YtaahdfogpehkfaaTr
import Derived.Test.YtaahdfogpehkfaaYa
import Derived.Deep.RegionHeld3
import Derived.Deep.DeepCutAuto
namespace Go.Proofs.Ytaahdfogpehkfaa
open Go.RowKit Go.Maps
theorem CLie.one (w : World) (b : Int) (d : ByteArray) : CLie (w.alloc (.cells #[.int .i64 b, .string d] 44)) (.slice (some ⟨w.heap.size, 0, none⟩) 1 1) [⟨b, d⟩] := by
  refine ⟨_, _, rfl, Nat.le_refl _, by decide, fun i hi => ⟨w.heap.size, 0, rfl, by simp, ?_⟩⟩
  match i, hi with
  | 0, _ => exact two_cells (box_at w _)
theorem four_cells {w : World} {g : Nat} {a b c d : Value} {t : TypeId} (hh : w.heap[g]? = some (.cells #[a, b, c, d] t (0, 0))) : w.cell? ⟨g, 0, none⟩ = some a ∧ w.cell? ⟨g, 1, none⟩ = some b ∧ w.cell? ⟨g, 2, none⟩ = some c ∧ w.cell? ⟨g, 3, none⟩ = some d := by
  refine ⟨?_, ?_, ?_, ?_⟩ <;> simp [World.cell?, hh]
theorem CLie.two (w : World) (b : Int) (d : ByteArray) (b' : Int) (d' : ByteArray) : CLie (w.alloc (.cells #[.int .i64 b, .string d, .int .i64 b', .string d'] 44)) (.slice (some ⟨w.heap.size, 0, none⟩) 2 2) [⟨b, d⟩, ⟨b', d'⟩] := by
  obtain ⟨c0, c1, c2, c3⟩ := four_cells (box_at w (.cells #[.int .i64 b, .string d, .int .i64 b', .string d'] 44))
  refine ⟨_, _, rfl, Nat.le_refl _, by decide, fun i hi => ⟨w.heap.size, 0, rfl, by simp, ?_⟩⟩
  match i, hi with
  | 0, _ => exact ⟨c0, c1⟩
  | 1, _ => exact ⟨c2, c3⟩
theorem sameC_self (l : List Chg) : sameC l l = true := (sameC_iff l l).2 rfl
set_option maxRecDepth 100000 in
set_option maxHeartbeats 4000000 in
theorem speaks_any (w : World) : Calls Try.prog 14 #[] w fun e w' => e = .returned (.bool true) ∧ Below w.heap.size w w' := by
  have HBI := hid (fun n h0 h1 w => block_bi n h0 h1 w)
  have za := Bi_size 97
  have zb := Bi_size 98
  have zc := Bi_size 99
  obtain ⟨F, hF⟩ : ∃ F, F = Bi := ⟨_, rfl⟩
  rw [← hF] at HBI za zb zc
  clear hF
  have r1 : right [⟨3, (F 97)⟩] = true := by simp [right, rises, za]
  have r2 : right [⟨3, (F 98)⟩, ⟨5, (F 99)⟩] = true := by simp [right, rises, zb, zc]
  have hm : mRes [⟨3, (F 97)⟩] [⟨3, (F 98)⟩, ⟨5, (F 99)⟩] = (0, [⟨3, (F 98)⟩, ⟨5, (F 99)⟩]) := by
    rw [mRes_of r1 r2]
    simp [mergeL, withL]
  have r3 : right [⟨0, ⟨#[]⟩⟩] = false := by decide
  have HE := hid (fun v w h => encode_ok 7 v [⟨3, (F 97)⟩] (by decide) (by decide) w h r1)
  have HD := hid (fun v w h => dec_enc v 7 [⟨3, (F 97)⟩] [] w h (by decide) (by decide) r1)
  have HM := hid (fun va vb w h k => merge_any va vb [⟨3, (F 97)⟩] [⟨3, (F 98)⟩, ⟨5, (F 99)⟩] w h k)
  have HK := hid (fun v w h => check_any v [⟨0, ⟨#[]⟩⟩] w h)
  have HS := hid (fun v v' w h k => changes_any v v' [⟨3, (F 97)⟩] [⟨3, (F 97)⟩] w h k)
  rw [sameC_self] at HS
  rw [hm] at HM
  rw [r3] at HK
  rw [List.append_nil] at HD
  simp only [Bool.false_eq_true, if_false, List.length_cons, List.length_nil] at HK HE HD
  rw [show ((7 : Nat) : Int) = 7 from rfl] at HE HD
  rw [show (1 + ((0 + 1 : Nat) : Int)) = 2 from rfl] at HD
  clear r1 r2 r3 hm za zb zc
  obtain ⟨E, hE⟩ : ∃ E, E = encL 7 [⟨3, (F 97)⟩] := ⟨_, rfl⟩
  have hEl : E.length = 2 := by rw [hE]; rfl
  rw [← hE] at HE HD
  clear hE
  go_enter Try.func14, Try.ntmps14
  go_wp2_with (first
    | (go_at_call 25; refine (HBI.out _ (by decide) (by decide) _).mono ?_; rintro e w1 ⟨rfl, hb1⟩; have HB1 := hid (hb1.next (below_alloc w1 (.cells #[.int .i64 3, .string (F 97)] 44))); have HL1 := hid (CLie.one w1 3 (F 97)); clear hb1)
    | (go_at_call 15; refine (HE.out _ _ HL1.out).mono ?_; fail))
  refine (HE.out _ _ HL1.out).mono ?_
  rintro e w2 ⟨v2, rfl, hS2, hb2⟩
  have HS2 := hid hS2
  have HL2 := hid (HL1.out.below hb2)
  have HB2 := hid (HB1.out.next hb2)
  obtain ⟨eo, ecap, rfl, he1, he2, _⟩ := hS2
  clear hb2 HL1 HB1
  rw [hEl] at HS2 he1 ⊢
  unfold maxLen at he2
  go_wp2_with (first
    | (go_at_call 17; refine (HD.out _ _ HS2.out).mono ?_; fail))
  refine (HD.out _ _ HS2.out).mono ?_
  rintro e w3 ⟨⟨v3, rfl, hL3⟩, hb3⟩
  have HX3 := hid hL3
  have HL3 := hid (HL2.out.below hb3)
  have HB3 := hid (HB2.out.next hb3)
  obtain ⟨xo, xcap, rfl, hx1, hx2, _⟩ := hL3
  clear hb3 HL2 HB2
  unfold maxLen at hx2
  go_wp2_with (first
    | (go_at_call 25; have hk := HB4; clear hk; refine (HBI.out _ (by decide) (by decide) _).mono ?_; rintro e w5 ⟨rfl, hb5⟩
       have HB5 := hid ((HB4.out.next hb5).next (below_alloc w5 (.cells #[.int .i64 3, .string (F 98), .int .i64 5, .string (F 99)] 44)))
       have HR5 := hid (CLie.two w5 3 (F 98) 5 (F 99))
       clear hb5)
    | (go_at_call 25; refine (HBI.out _ (by decide) (by decide) _).mono ?_; rintro e w4 ⟨rfl, hb4⟩; have HB4 := hid hb4; clear hb4)
    | (go_at_call 9; refine (HM.out _ _ _ (HL3.out.below HB5.out) HR5.out).mono ?_; fail))
  refine (HM.out _ _ _ (HL3.out.below HB5.out) HR5.out).mono ?_
  rintro e w6 ⟨⟨v6, rfl, hL6⟩, hb6⟩
  have HL6 := hid (HL3.out.below (HB5.out.next hb6))
  have HX6 := hid (HX3.out.below (HB5.out.next hb6))
  have HB6 := hid (HB3.out.next (HB5.out.next hb6))
  obtain ⟨mo, mcap, rfl, hm1, hm2, hmc⟩ := hL6
  obtain ⟨gb, off, rfl, hg, c0, c1⟩ := hmc 0 (by simp)
  clear hb6 hmc HB3 HB4 HB5 HX3 HR5
  rw [Nat.zero_mul, Nat.add_zero] at c0 c1
  unfold maxLen at hm2
  simp only [List.getElem_cons_zero, List.length_cons, List.length_nil] at c0 c1 hm1 hx1 HX6 ⊢
  go_upto_region 5 with fail
  skip
  · (go_region_held3 (fun w' => w'.cell? ⟨gb, off + 1, none⟩ = some (.string (F 98))) (first | exact c1 | exact k3 | exact k2 | exact k1 | go_keep) (first
        | (go_at_call 13; refine (HS.out _ _ _ (by exact HX6.out.below ⟨rfl, rfl, rfl, Nat.le_refl _, fun _ _ => rfl⟩) (by exact HL6.out.below ⟨rfl, rfl, rfl, Nat.le_refl _, fun _ _ => rfl⟩)).mono ?_; rintro e w7 ⟨rfl, hb7⟩; have k1 := (hb7.cell (p := ⟨gb, off + 1, none⟩) hg).trans c1; have hg7 : gb < w7.heap.size := Nat.lt_of_lt_of_le hg hb7.size; have HB7 : Hid (Below w6.heap.size w6 w7) := ⟨hb7.os, hb7.tape, hb7.output, hb7.size, hb7.block⟩; clear hb7)
        | (go_at_call 25; refine (HBI.out _ (by decide) (by decide) _).mono ?_; rintro e w8 ⟨rfl, hb8⟩; have k2 := (hb8.cell (p := ⟨gb, off + 1, none⟩) hg7).trans k1; have hg8 : gb < w8.heap.size := Nat.lt_of_lt_of_le hg7 hb8.size; have HB8 : Hid (Below w7.heap.size w7 w8) := ⟨hb8.os, hb8.tape, hb8.output, hb8.size, hb8.block⟩; clear hb8)
        | (go_at_call 11; refine (HK.out _ _ (by exact CLie.one _ 0 _)).mono ?_; rintro e w9 ⟨rfl, hb9⟩; have k3 := (hb9.cell (p := ⟨gb, off + 1, none⟩) (by simp; omega)).trans ((Below.cell (below_alloc _ _) (p := ⟨gb, off + 1, none⟩) hg8).trans k2); have hn9 := (below_alloc _ _).next hb9; have HB9 : Hid (Below w8.heap.size w8 w9) := ⟨hn9.os, hn9.tape, hn9.output, hn9.size, hn9.block⟩; clear hb9 hn9)))
    all_goals
      go_wp2
      go_ret
      have hf := ((HB6.out.next HB7.out).next HB8.out).next HB9.out
      exact ⟨rfl, ⟨hf.os, hf.tape, hf.output, hf.size, hf.block⟩⟩
end Go.Proofs.Ytaahdfogpehkfaa
