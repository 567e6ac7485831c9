import Derived.Test.YtnoocgodnpjnoaaDoorQb
namespace Go.Proofs.YtnoocgodnpjnoaaDoor
open Go.RowKit

def isP (n : Int) : Bool := decide (0 ≤ n) && decide (n ≤ 533248)
theorem place_any (n : Int) (w : World) : Calls Tryd.prog 30 #[.int .i64 n] w fun e w' => e = .returned (.bool (isP n)) ∧ w' = w := by
  unfold isP
  by_cases h0 : 0 ≤ n
  · by_cases h1 : n ≤ 533248
    · go_enter Tryd.func30, Tryd.ntmps30
      go_wp2
      go_ret
      exact ⟨by simp [h0, h1], rfl⟩
    · go_enter Tryd.func30, Tryd.ntmps30
      go_wp2
      go_ret
      exact ⟨by simp [h1], rfl⟩
  · go_enter Tryd.func30, Tryd.ntmps30
    go_wp2
    go_ret
    exact ⟨by rw [decide_eq_false (by omega)]; rfl, rfl⟩
theorem close_yes {g : Nat} {w : World} {D : Nat → Dsc} (k : Nat) (h : TI g w D) (hk : k < 16) (ho : (D k).o = true) : Calls Tryd.prog 16 #[.pointer (some ⟨g, 0, none⟩), .int .i64 k] w fun e w' => e = .returned (.int .i64 0) ∧ TI g w' (upd D k Dsc.zero) ∧ KP g w w' := by
  have HT := hid (h.put k hk Dsc.zero)
  unfold Dsc.zero at HT ⊢
  have HF := hid (find_yes k h hk ho)
  obtain ⟨c0, c1, c2⟩ := h.cells k hk
  have f0 := h.free (k * 3)
  have f1 := h.free (k * 3 + 1)
  have f2 := h.free (k * 3 + 2)
  clear h ho
  go_enter Tryd.func16, Tryd.ntmps16
  go_wp2_with (first | (go_at_call 26; refine (HF.out).mono ?_; rintro e w2 ⟨rfl, hw2⟩; subst hw2))
  go_ret
  exact ⟨rfl, HT.out, (((KP.refl g _).set _ _).set _ _).set _ _⟩
theorem moved_yes {g : Nat} {w : World} {D : Nat → Dsc} (k : Nat) (n : Int) (h : TI g w D) (hk : k < 16) (ho : (D k).o = true) (hp : 0 ≤ (D k).n ∧ (D k).n ≤ 533248) (hn : 0 ≤ n ∧ (D k).n + n ≤ 533248) : Calls Tryd.prog 20 #[.pointer (some ⟨g, 0, none⟩), .int .i64 k, .int .i64 n] w fun e w' => e = .returned (.int .i64 0) ∧ TI g w' (upd D k ⟨(D k).o, (D k).p, (D k).n + n⟩) ∧ KP g w w' := by
  have HT := hid (h.place k hk ((D k).n + n))
  have HF := hid (find_yes k h hk ho)
  obtain ⟨c0, c1, c2⟩ := h.cells k hk
  have f2 := h.free (k * 3 + 2)
  obtain ⟨x, hx⟩ : ∃ x, x = (D k).n := ⟨_, rfl⟩
  rw [← hx] at c2 hp hn HT ⊢
  clear h ho hx
  have hw1 : IntKind.i64.wrap (x + n) = x + n := by rw [IntKind.wrap_i64]; omega
  have hw2 : IntKind.i64.wrap (533248 - x) = 533248 - x := by rw [IntKind.wrap_i64]; omega
  go_enter Tryd.func20, Tryd.ntmps20
  go_wp2_with (first | (go_at_call 26; refine (HF.out).mono ?_; rintro e w2 ⟨rfl, hw2⟩; subst hw2))
  go_ret
  exact ⟨rfl, HT.out, (KP.refl g _).set _ _⟩
theorem seek_yes {g : Nat} {w : World} {D : Nat → Dsc} (k : Nat) (m n : Int) (h : TI g w D) (hk : k < 16) (ho : (D k).o = true) (hm : 0 ≤ m ∧ m ≤ 533248) (hn : 0 ≤ m + n ∧ m + n ≤ 533248) : Calls Tryd.prog 17 #[.pointer (some ⟨g, 0, none⟩), .int .i64 k, .int .i64 m, .int .i64 n] w fun e w' => e = .returned (.tuple #[.int .i64 (m + n), .int .i64 0]) ∧ TI g w' (upd D k ⟨(D k).o, (D k).p, m + n⟩) ∧ KP g w w' := by
  have HT := hid (h.place k hk (m + n))
  have HF := hid (find_yes k h hk ho)
  obtain ⟨c0, c1, c2⟩ := h.cells k hk
  have f2 := h.free (k * 3 + 2)
  have HP : Hid (∀ w', Calls Tryd.prog 30 #[.int .i64 m] w' fun e w'' => e = .returned (.bool true) ∧ w'' = w') := hid (fun w' => (place_any m w').mono (by rintro e w2 ⟨rfl, h2⟩; exact ⟨by unfold isP; simp [hm.1, hm.2], h2⟩))
  clear h ho
  have hw1 : IntKind.i64.wrap (m + n) = m + n := by rw [IntKind.wrap_i64]; omega
  have hw2 : IntKind.i64.wrap (533248 - m) = 533248 - m := by rw [IntKind.wrap_i64]; omega
  have hw3 : IntKind.i64.wrap (-m) = -m := by rw [IntKind.wrap_i64]; omega
  have hc : (w.setCell ⟨g, k * 3 + 2, none⟩ (.int .i64 (m + n))).cell? ⟨g, k * 3 + 2, none⟩ = some (.int .i64 (m + n)) := by
    have := (HT.out.cells k hk).2.2
    rw [upd_same] at this
    exact this
  go_enter Tryd.func17, Tryd.ntmps17
  go_wp2_with (first | (go_at_call 26; refine (HF.out).mono ?_; rintro e w2 ⟨rfl, hw2⟩; subst hw2) | (go_at_call 30; refine (HP.out _).mono ?_; rintro e w2 ⟨rfl, hw2⟩; subst hw2))
  go_ret2
  exact ⟨rfl, HT.out, (KP.refl g _).set _ _⟩
end Go.Proofs.YtnoocgodnpjnoaaDoor
