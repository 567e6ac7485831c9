import Derived.Test.YtonejnbflkkapaaRefP
import Derived.WalkSmall
namespace Go.Proofs.Ytonejnbflkkapaa
open Go.RowKit

theorem bcell {W w1 : World} (hb : Below W.heap.size W w1) : (∀ b o, b < W.heap.size → w1.cell? ⟨b, o, none⟩ = W.cell? ⟨b, o, none⟩) ∧ (∀ b o, b < W.heap.size → w1.frozen? ⟨b, o, none⟩ = W.frozen? ⟨b, o, none⟩) :=
  ⟨fun b o h => hb.cell (p := ⟨b, o, none⟩) h, fun b o h => hb.frozen (p := ⟨b, o, none⟩) h⟩
set_option maxHeartbeats 2000000 in
theorem fields_walk (n a b v : Int) (ha : -9223372036854775808 ≤ a ∧ a ≤ 9223372036854775807) (hb : -9223372036854775808 ≤ b ∧ b ≤ 9223372036854775807) (hv : -9223372036854775808 ≤ v ∧ v ≤ 9223372036854775807) (w : World) :
    Calls Try.prog 5 #[.agg #[.int .i64 n, .int .i64 a, .int .i64 b, .int .i64 v]] w fun e w' => e = .returned (.bool true) ∧ Below w.heap.size w w' := by
  cases hf : fld a b with
  | false =>
    go_enter Try.func5, Try.ntmps5
    go_wp2_with (first | (go_at_call 12; refine (speaks_any _).mono ?_; rintro e w' ⟨rfl, q, rfl⟩) | (go_at_call 19; refine (field_no _ _ _ hb hf _).mono ?_; rintro e w' ⟨rfl, rfl⟩) | (go_at_call 20; refine (refField_no _ _ _ ha hb hf _).mono ?_; rintro e w' ⟨rfl, rfl⟩) | (go_at_call 21; refine (put_no _ _ _ _ hb hf _).mono ?_; rintro e w' ⟨rfl, rfl⟩) | (go_at_call 22; refine (refPut_no _ _ _ _ ha hb hf _).mono ?_; rintro e w' ⟨rfl, rfl⟩))
    go_ret
    exact ⟨rfl, below_drewN ((Below.refl _ _).alloc (Nat.le_refl _) _) _⟩
  | true =>
  have ⟨f0, f1, f2, f3⟩ := fld_of hf
  by_cases h0 : v < 0
  · go_enter Try.func5, Try.ntmps5
    go_wp2_with (first | (go_at_call 12; refine (speaks_any _).mono ?_; rintro e w' ⟨rfl, q, rfl⟩) | (go_at_call 19; refine (field_yes _ _ _ hf _).mono ?_; rintro e w' ⟨rfl, q, rfl⟩) | (go_at_call 20; refine (refField_yes _ _ _ hf _).mono ?_; rintro e w1 ⟨rfl, hb1⟩; obtain ⟨hc, hz⟩ := bcell hb1; have hs1 := hb1.size) | (go_at_call 21; refine (put_neg _ _ _ _ hf h0 _).mono ?_; rintro e w' ⟨rfl, rfl⟩) | (go_at_call 22; refine (refPut_neg _ _ _ _ hf h0 _).mono ?_; rintro e w' ⟨rfl, rfl⟩))
    go_ret
    exact ⟨rfl, below_drewN ((below_drewN ((Below.refl _ _).alloc (Nat.le_refl _) _) _).trans (hb1.mono (by simp))) _⟩
  have h0' : 0 ≤ v := by omega
  clear h0
  by_cases hvb : 2 ^ b.toNat ≤ v
  · go_enter Try.func5, Try.ntmps5
    go_wp2_with (first | (go_at_call 12; refine (speaks_any _).mono ?_; rintro e w' ⟨rfl, q, rfl⟩) | (go_at_call 19; refine (field_yes _ _ _ hf _).mono ?_; rintro e w' ⟨rfl, q, rfl⟩) | (go_at_call 20; refine (refField_yes _ _ _ hf _).mono ?_; rintro e w1 ⟨rfl, hb1⟩; obtain ⟨hc, hz⟩ := bcell hb1; have hs1 := hb1.size) | (go_at_call 21; refine (put_big _ _ _ _ hf h0' hvb _).mono ?_; rintro e w' ⟨rfl, rfl⟩) | (go_at_call 22; refine (refPut_big _ _ _ _ hf h0' hv.2 hvb _).mono ?_; rintro e w2 ⟨rfl, hb2⟩))
    go_ret
    exact ⟨rfl, below_drewN (((below_drewN ((Below.refl _ _).alloc (Nat.le_refl _) _) _).trans (hb1.mono (by simp))).trans (hb2.mono (by have := hb1.size; simp at this; omega))) _⟩
  have hvb' : v < 2 ^ b.toNat := by omega
  clear hvb
  go_enter Try.func5, Try.ntmps5
  go_wp2_with (first | (go_at_call 12; refine (speaks_any _).mono ?_; rintro e w' ⟨rfl, q, rfl⟩) | (go_at_call 19; refine (field_yes _ _ _ hf _).mono ?_; rintro e w' ⟨rfl, q, rfl⟩) | (go_at_call 20; refine (refField_yes _ _ _ hf _).mono ?_; rintro e w1 ⟨rfl, hb1⟩; obtain ⟨hc, hz⟩ := bcell hb1; have hs1 := hb1.size) | (go_at_call 21; refine (put_yes _ _ _ _ hf h0' hvb' _).mono ?_; rintro e w' ⟨rfl, q2, rfl⟩) | (go_at_call 22; refine (refPut_yes _ _ _ _ hf h0' hvb' _).mono ?_; rintro e w2 ⟨rfl, hb2⟩))
  go_ret
  exact ⟨rfl, below_drewN ((below_drewN ((below_drewN ((Below.refl _ _).alloc (Nat.le_refl _) _) _).trans (hb1.mono (by simp))) _).trans (hb2.mono (by have := hb1.size; simp at this ⊢; omega))) _⟩
end Go.Proofs.Ytonejnbflkkapaa
