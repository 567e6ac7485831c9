import Derived.Test.YtmemelamgldpcaaVb
import Derived.Test.YtmemelamgldpcaaVc
import Derived.Test.YtmemelamgldpcaaVe
namespace Go.Proofs.Ytmemelamgldpcaa
open Go.RowKit

theorem srt_perm (l : List Int) : (srt l).Perm l := List.mergeSort_perm l _
theorem srt_sorted (l : List Int) : (srt l).Pairwise (· ≤ ·) := by
  have h := List.pairwise_mergeSort (le := fun x y : Int => decide (x ≤ y)) (fun a b c h1 h2 => by simp only [decide_eq_true_eq] at *; omega) (fun a b => by simp only [Bool.or_eq_true, decide_eq_true_eq]; omega) l
  exact List.Pairwise.imp (fun {_ _} hab => of_decide_eq_true hab) h
theorem srt_of {l s : List Int} (hp : l.Perm s) (hs : s.Pairwise (· ≤ ·)) : srt l = s :=
  List.Perm.eq_of_pairwise (le := fun a b : Int => a ≤ b) (fun _ _ _ _ h1 h2 => Int.le_antisymm h1 h2) (srt_sorted l) hs ((srt_perm l).trans hp)
theorem com_said : comR [5, 3, 9] = 5 ∧ comE [5, 3, 9] = 0 := by
  have h1 : comK [5, 3, 9] = true := by decide
  have h2 : srt [5, 3, 9] = [3, 5, 9] := srt_of (by decide) (by decide)
  unfold comR comE
  rw [h1, h2]
  decide
set_option maxRecDepth 100000 in
theorem speaks_any (w : World) : Calls Try.prog 14 #[] w fun e w' => e = .returned (.bool true) ∧ Below w.heap.size w w' := by
  have f1 : enoR 5 = 3 := by decide
  have f2 : enoE 5 = 0 := by decide
  have f3 : priR 3 4 = 1 := by decide
  have f4 : priE 3 4 = 0 := by decide
  have f5 : nexR 3 4 1 = 7 := by decide
  have f6 : nexE 3 4 1 = 0 := by decide
  have f7 := com_said.1
  have f8 := com_said.2
  have f9 : besR [⟨0, 1, 3⟩, ⟨0, 2, 1⟩] = 1 := by decide +kernel
  have f10 : besE [⟨0, 1, 3⟩, ⟨0, 2, 1⟩] = 0 := by decide +kernel
  have c15 : Calls Try.prog 15 #[.slice (some ⟨w.heap.size, 0, none⟩) 3 3] (w.alloc (.cells #[.int .i64 5, .int .i64 3, .int .i64 9] 3)) _ := commit_any (l := [5, 3, 9]) ⟨some ⟨w.heap.size, 0, none⟩, 3, rfl, Nat.le_refl _, by decide, fun i hi => ⟨w.heap.size, 0, rfl, by simp, by
    rw [World.cell?_alloc_at _ _ _ _ rfl]
    match i, hi with
    | 0, _ => rfl
    | 1, _ => rfl
    | 2, _ => rfl⟩⟩
  have c17 : ∀ W : World, Calls Try.prog 17 #[.slice (some ⟨W.heap.size, 0, none⟩) 2 2] (W.alloc (.cells #[.int .i64 0, .int .i64 1, .int .i64 3, .int .i64 0, .int .i64 2, .int .i64 1] 38)) _ := fun W => best_any (l := [⟨0, 1, 3⟩, ⟨0, 2, 1⟩]) ⟨some ⟨W.heap.size, 0, none⟩, 2, rfl, Nat.le_refl _, by decide, fun i hi => ⟨W.heap.size, 0, rfl, by simp, by
    rw [World.cell?_alloc_at _ _ _ _ rfl, World.cell?_alloc_at _ _ _ _ rfl, World.cell?_alloc_at _ _ _ _ rfl]
    match i, hi with
    | 0, _ => exact ⟨rfl, rfl, rfl⟩
    | 1, _ => exact ⟨rfl, rfl, rfl⟩⟩⟩
  rw [f7, f8] at c15
  simp only [f9, f10] at c17
  clear f7 f8 f9 f10
  go_enter Try.func14, Try.ntmps14
  go_wp2_with (first
    | (go_at_call 9; refine (enough_any _ _).mono ?_; rintro e w' ⟨rfl, he⟩; have he := he.symm; subst he; rw [f1, f2])
    | (go_at_call 10; refine (primary_any _ _ _).mono ?_; rintro e w' ⟨rfl, he⟩; have he := he.symm; subst he; rw [f3, f4])
    | (go_at_call 11; refine (next_any _ _ _ _).mono ?_; rintro e w' ⟨rfl, he⟩; have he := he.symm; subst he; rw [f5, f6])
    | (go_at_call 15; refine c15.mono ?_; rintro e w1 ⟨rfl, hb1⟩)
    | (go_at_call 17; refine (c17 _).mono ?_; rintro e w2 ⟨rfl, hb2⟩))
  go_ret
  have hs1 := hb1.size
  rw [World.size_alloc] at hs1 hb1 hb2
  have B1 : Below w.heap.size w w1 := ((Below.refl _ w).alloc (Nat.le_refl _) _).trans (hb1.mono (by omega))
  exact ⟨rfl, B1.trans (((Below.refl _ w1).alloc B1.size _).trans (hb2.mono (by omega)))⟩
set_option maxRecDepth 100000 in
set_option maxHeartbeats 1000000 in
theorem turns_walk (n v d : Int) (w : World) : Calls Try.prog 3 #[.int .i64 n, .int .i64 v, .int .i64 d] w fun e w' => e = .returned (.bool true) ∧ Below w.heap.size w w' := by
  obtain ⟨a, ha⟩ : ∃ a, a = enoR n := ⟨_, rfl⟩
  obtain ⟨e0, he0⟩ : ∃ e0, e0 = enoE n := ⟨_, rfl⟩
  obtain ⟨b, hb⟩ : ∃ b, b = priR n v := ⟨_, rfl⟩
  obtain ⟨f0, hf0⟩ : ∃ f0, f0 = priE n v := ⟨_, rfl⟩
  obtain ⟨c, hc⟩ : ∃ c, c = nexR n v d := ⟨_, rfl⟩
  obtain ⟨g0, hg0⟩ : ∃ g0, g0 = nexE n v d := ⟨_, rfl⟩
  have C1 := hid (fun W => enough_any n W)
  have C2 := hid (fun W => primary_any n v W)
  have C3 := hid (fun W => next_any n v d W)
  have C4 := hid (fun W => rnext_any n v d W)
  rw [← ha, ← he0] at C1
  rw [← hb, ← hf0] at C2
  rw [← hc, ← hg0] at C3 C4
  clear hc hg0
  rcases hn : nod n with _ | _
  · have x1 : a = 0 := by rw [ha]; unfold enoR; rw [hn]; rfl
    have x2 : e0 = 1 := by rw [he0]; unfold enoE; rw [hn]; rfl
    have x3 : b = 0 := by rw [hb]; unfold priR; rw [hn]; rfl
    have x4 : f0 = 1 := by rw [hf0]; unfold priE; rw [hn]; rfl
    subst x1 x2 x3 x4
    clear ha he0 hb hf0
    go_enter Try.func3, Try.ntmps3
    go_wp2_with (first
      | (go_at_call 9; refine (C1.out _).mono ?_; rintro e w' ⟨rfl, he⟩; have he := he.symm; subst he)
      | (go_at_call 10; refine (C2.out _).mono ?_; rintro e w' ⟨rfl, he⟩; have he := he.symm; subst he)
      | (go_at_call 11; refine (C3.out _).mono ?_; rintro e w' ⟨rfl, he⟩; have he := he.symm; subst he)
      | (go_at_call 12; refine (C4.out _).mono ?_; rintro e w' ⟨rfl, he⟩; have he := he.symm; subst he)
      | (go_at_call 13; refine (rnodes_any _ _).mono ?_; rintro e w' ⟨rfl, he⟩; have he := he.symm; subst he; rw [hn])
      | (go_at_call 14; refine (speaks_any _).mono ?_; rintro e w' ⟨rfl, hB⟩))
    go_ret
    exact ⟨rfl, hB⟩
  · have hN := (nod_iff n).1 hn
    have x1 : a = n / 2 + 1 := by rw [ha]; unfold enoR; rw [hn]; rfl
    have x2 : e0 = 0 := by rw [he0]; unfold enoE; rw [hn]; rfl
    subst x2
    have y1 : 2 * a = n + 1 := by omega
    have y2 : 0 ≤ a ∧ a ≤ 4 := by omega
    have y3 : 1 ≤ n ∧ n ≤ 7 := by omega
    have y4 : (2 * a == n + 1) = true := by rw [y1]; simp
    replace y1 := hid y1
    clear x1 ha he0
    rcases hv : up v 1099511627776 with _ | _
    · have x3 : b = 0 := by rw [hb]; unfold priR; rw [hn, hv]; rfl
      have x4 : f0 = 1 := by rw [hf0]; unfold priE; rw [hn, hv]; rfl
      subst x3 x4
      have hv' : v < 0 ∨ (¬ v < 0 ∧ 1099511627776 < v) := by
        have : ¬ up v 1099511627776 = true := by simp [hv]
        rw [up_iff] at this
        omega
      clear hb hf0 hv
      replace hN := hid hN
      rcases hv' with h1 | ⟨h1, h2⟩
      all_goals
        go_enter Try.func3, Try.ntmps3
        go_wp2_with (first
          | (go_at_call 9; refine (C1.out _).mono ?_; rintro e w' ⟨rfl, he⟩; have he := he.symm; subst he)
          | (go_at_call 10; refine (C2.out _).mono ?_; rintro e w' ⟨rfl, he⟩; have he := he.symm; subst he)
          | (go_at_call 11; refine (C3.out _).mono ?_; rintro e w' ⟨rfl, he⟩; have he := he.symm; subst he)
          | (go_at_call 12; refine (C4.out _).mono ?_; rintro e w' ⟨rfl, he⟩; have he := he.symm; subst he)
          | (go_at_call 13; refine (rnodes_any _ _).mono ?_; rintro e w' ⟨rfl, he⟩; have he := he.symm; subst he; rw [hn])
          | (go_at_call 14; refine (speaks_any _).mono ?_; rintro e w' ⟨rfl, hB⟩))
        go_ret
        exact ⟨rfl, hB⟩
    · have x3 : b = v % n := by rw [hb]; unfold priR; rw [hn, hv]; rfl
      have x4 : f0 = 0 := by rw [hf0]; unfold priE; rw [hn, hv]; rfl
      subst x4
      have hv' := (up_iff _ _).1 hv
      have h1 : ¬ v < 0 := by omega
      have h2 : ¬ 1099511627776 < v := by omega
      have x5 : v % n = b := x3.symm
      clear hb hf0 hv x3
      rcases hN with rfl | rfl | rfl | rfl
      all_goals
        go_enter Try.func3, Try.ntmps3
        go_wp2_with (first
          | (go_at_call 9; refine (C1.out _).mono ?_; rintro e w' ⟨rfl, he⟩; have he := he.symm; subst he)
          | (go_at_call 10; refine (C2.out _).mono ?_; rintro e w' ⟨rfl, he⟩; have he := he.symm; subst he)
          | (go_at_call 11; refine (C3.out _).mono ?_; rintro e w' ⟨rfl, he⟩; have he := he.symm; subst he)
          | (go_at_call 12; refine (C4.out _).mono ?_; rintro e w' ⟨rfl, he⟩; have he := he.symm; subst he)
          | (go_at_call 13; refine (rnodes_any _ _).mono ?_; rintro e w' ⟨rfl, he⟩; have he := he.symm; subst he; rw [hn])
          | (go_at_call 14; refine (speaks_any _).mono ?_; rintro e w' ⟨rfl, hB⟩))
        go_ret
        exact ⟨rfl, hB⟩
end Go.Proofs.Ytmemelamgldpcaa
