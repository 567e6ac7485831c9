import Derived.Test.YtmcahiebcflfoaaKa
import Derived.Deep.DeepCutAuto
import Derived.Deep.CutBlock
import Derived.BigRegion
namespace Go.Proofs.Ytmcahiebcflfoaa
open Go.RowKit Go.Maps
theorem cat_list (a b : ByteArray) : (a ++ b).data.toList = a.data.toList ++ b.data.toList := by simp
/-- a number's bytes -/
def fx (n k : Int) : ByteArray := st (fEnc n.toNat k.toNat)
theorem fx_any (n k : Int) (h0 : 0 ≤ n) (h1 : n ≤ 9223372036854775807) (h2 : 0 ≤ k) (h3 : k ≤ 8) (w : World) : Calls Try.prog 45 #[.int .i64 n, .int .i64 k] w fun e w' => e = .returned (.string (fx n k)) ∧ Below w.heap.size w w' := by
  obtain ⟨n, rfl⟩ : ∃ m : Nat, n = m := ⟨n.toNat, by omega⟩
  obtain ⟨k, rfl⟩ : ∃ m : Nat, k = m := ⟨k.toNat, by omega⟩
  exact refFixed n k (by omega) (by omega) w
set_option maxRecDepth 100000 in
set_option maxHeartbeats 4000000 in
theorem refHeader_j (g : Nat) (r : Option Nat) (P : Int) (T F S : Nat) (vs : List Value) (hT : T < 65536) (hF : F + S ≤ 9223372036854775807) (w : World) (h : RK g r w P T F S vs) : Calls Try.prog 21 #[.pointer (some ⟨g, 0, none⟩)] w fun e w' => e = .returned (.string (hdB T F (F + S))) ∧ Below w.heap.size w w' := by
  obtain ⟨Lv, hr, h1, h2, h3⟩ := h
  obtain ⟨c0, c1, c2, c3, c4⟩ := h1.cells
  have hgl := h1.lt
  clear h2 h3 h1
  have HFx := hid (fun n k h0 h1 h2 h3 w => fx_any n k h0 h1 h2 h3 w)
  have HL : Hid (((⟨#[72]⟩ : ByteArray) ++ fx T 2 ++ fx F 8 ++ fx ((F : Int) + (S : Int)) 8).data.toList = hdL T F (F + S)) := by
    show _ = _
    rw [cat_list, cat_list, cat_list]
    unfold fx hdL
    rw [show ((F : Int) + (S : Int)).toNat = F + S by omega]
    simp [st_list]
  have z1 : (fx T 2).size = 2 := by unfold fx; rw [st_size, fEnc_len]; rfl
  have z2 : (fx F 8).size = 8 := by unfold fx; rw [st_size, fEnc_len]; rfl
  have z3 : (fx ((F : Int) + (S : Int)) 8).size = 8 := by unfold fx; rw [st_size, fEnc_len]; rfl
  obtain ⟨f, hf⟩ : ∃ f, f = fx := ⟨_, rfl⟩
  rw [← hf] at HFx HL z1 z2 z3
  clear hf
  obtain ⟨u, hu⟩ : ∃ u, (⟨#[72]⟩ : ByteArray) ++ f T 2 ++ f F 8 ++ f ((F : Int) + (S : Int)) 8 = u := ⟨_, rfl⟩
  have HK := hid (fun w => refBlock u (by rw [← len_list, ← hu, HL.out, hdL_len]; decide) w)
  rw [← hu, HL.out] at HK
  have HU := hid hu
  obtain ⟨R, hR⟩ : ∃ R, R = hdB T F (F + S) := ⟨_, rfl⟩
  have HKR : Hid (∀ w : World, Calls Try.prog 44 #[.string ((⟨#[72]⟩ : ByteArray) ++ f T 2 ++ f F 8 ++ f ((F : Int) + (S : Int)) 8)] w fun e w' => e = .returned (.tuple #[.string R, .int .i64 0]) ∧ Below w.heap.size w w') := by
    intro w
    rw [hR]
    exact HK.out w
  rw [← hR]
  clear hu hR HK HL
  have hwr : IntKind.i64.wrap ((F : Int) + (S : Int)) = (F : Int) + (S : Int) := by
    rw [IntKind.wrap_i64]; omega
  go_enter Try.func21, Try.ntmps21
  go_wp2
  go_region_held3 (fun w' => w'.cell? ⟨g, 1, none⟩ = some (.int .i64 (T : Int)) ∧ w'.cell? ⟨g, 2, none⟩ = some (.int .i64 (F : Int)) ∧ w'.cell? ⟨g, 3, none⟩ = some (.int .i64 (S : Int))) (first | exact ⟨c1, c2, c3⟩ | exact d4 | exact d3 | exact d2 | exact d1 | go_keep) (first
    | (go_at_call 44; refine (HKR.out _).mono ?_; rintro e w4 ⟨rfl, hb4⟩; have HB4 : Hid (Below w.heap.size w w4) := hid (HB3.out.next ⟨hb4.os, hb4.tape, hb4.output, hb4.size, hb4.block⟩); have d4 : w4.cell? ⟨g, 1, none⟩ = some (.int .i64 (T : Int)) ∧ w4.cell? ⟨g, 2, none⟩ = some (.int .i64 (F : Int)) ∧ w4.cell? ⟨g, 3, none⟩ = some (.int .i64 (S : Int)) := ⟨(HB4.out.cell (p := ⟨g, 1, none⟩) hgl).trans c1, (HB4.out.cell (p := ⟨g, 2, none⟩) hgl).trans c2, (HB4.out.cell (p := ⟨g, 3, none⟩) hgl).trans c3⟩; clear hb4)
    | (go_at_call 45; have hk := HB2; clear hk; refine (HFx.out _ _ (by omega) (by omega) (by decide) (by decide) _).mono ?_; rintro e w3 ⟨rfl, hb3⟩; have HB3 : Hid (Below w.heap.size w w3) := hid (HB2.out.next ⟨hb3.os, hb3.tape, hb3.output, hb3.size, hb3.block⟩); have d3 : w3.cell? ⟨g, 1, none⟩ = some (.int .i64 (T : Int)) ∧ w3.cell? ⟨g, 2, none⟩ = some (.int .i64 (F : Int)) ∧ w3.cell? ⟨g, 3, none⟩ = some (.int .i64 (S : Int)) := ⟨(HB3.out.cell (p := ⟨g, 1, none⟩) hgl).trans c1, (HB3.out.cell (p := ⟨g, 2, none⟩) hgl).trans c2, (HB3.out.cell (p := ⟨g, 3, none⟩) hgl).trans c3⟩; clear hb3)
    | (go_at_call 45; have hk := HB1; clear hk; refine (HFx.out _ _ (by omega) (by omega) (by decide) (by decide) _).mono ?_; rintro e w2 ⟨rfl, hb2⟩; have HB2 : Hid (Below w.heap.size w w2) := hid (HB1.out.next ⟨hb2.os, hb2.tape, hb2.output, hb2.size, hb2.block⟩); have d2 : w2.cell? ⟨g, 1, none⟩ = some (.int .i64 (T : Int)) ∧ w2.cell? ⟨g, 2, none⟩ = some (.int .i64 (F : Int)) ∧ w2.cell? ⟨g, 3, none⟩ = some (.int .i64 (S : Int)) := ⟨(HB2.out.cell (p := ⟨g, 1, none⟩) hgl).trans c1, (HB2.out.cell (p := ⟨g, 2, none⟩) hgl).trans c2, (HB2.out.cell (p := ⟨g, 3, none⟩) hgl).trans c3⟩; clear hb2)
    | (go_at_call 45; refine (HFx.out _ _ (by omega) (by omega) (by decide) (by decide) _).mono ?_; rintro e w1 ⟨rfl, hb1⟩; have HB1 : Hid (Below w.heap.size w w1) := hid ⟨hb1.os, hb1.tape, hb1.output, hb1.size, hb1.block⟩; have d1 : w1.cell? ⟨g, 1, none⟩ = some (.int .i64 (T : Int)) ∧ w1.cell? ⟨g, 2, none⟩ = some (.int .i64 (F : Int)) ∧ w1.cell? ⟨g, 3, none⟩ = some (.int .i64 (S : Int)) := ⟨(HB1.out.cell (p := ⟨g, 1, none⟩) hgl).trans c1, (HB1.out.cell (p := ⟨g, 2, none⟩) hgl).trans c2, (HB1.out.cell (p := ⟨g, 3, none⟩) hgl).trans c3⟩; clear hb1))
  all_goals
    go_wp2
    go_ret
    exact ⟨rfl, HB4.out⟩
end Go.Proofs.Ytmcahiebcflfoaa
