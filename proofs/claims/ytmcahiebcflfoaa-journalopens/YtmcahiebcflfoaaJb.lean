import Derived.Test.YtmcahiebcflfoaaJa
import Derived.Test.YtmcahiebcflfoaaTf
namespace Go.Proofs.Ytmcahiebcflfoaa
open Go.RowKit Go.Maps
/-- numbers together -/
def sumI : List Int → Int
  | [] => 0
  | x :: l => x + sumI l
theorem sumI_snoc : ∀ (l : List Int) (x : Int), sumI (l ++ [x]) = sumI l + x
  | [], x => by simp [sumI]
  | y :: l, x => by
    show y + sumI (l ++ [x]) = y + sumI l + x
    rw [sumI_snoc l x]; omega
theorem sumI_nn : ∀ {l : List Int}, (∀ x ∈ l, 0 ≤ x) → 0 ≤ sumI l
  | [], _ => Int.le_refl _
  | y :: l, h => by
    have h1 := sumI_nn (l := l) (fun x hx => h x (by simp [hx]))
    have h2 := h y (by simp)
    show 0 ≤ y + sumI l
    omega
theorem sumI_app (a b : List Int) : sumI (a ++ b) = sumI a + sumI b := by
  induction a with
  | nil => simp [sumI]
  | cons x a ih => show x + sumI (a ++ b) = x + sumI a + sumI b; rw [ih]; omega
theorem sumI_take {l : List Int} (h : ∀ x ∈ l, 0 ≤ x) (q : Nat) : 0 ≤ sumI (l.take q) ∧ sumI (l.take q) ≤ sumI l := by
  have h1 := sumI_nn (l := l.take q) (fun x hx => h x (List.mem_of_mem_take hx))
  have h2 := sumI_nn (l := l.drop q) (fun x hx => h x (List.mem_of_mem_drop hx))
  have h3 := sumI_app (l.take q) (l.drop q)
  rw [List.take_append_drop] at h3
  omega
set_option maxRecDepth 100000 in
theorem total_any (v : Value) (l : List Int) (hn : ∀ x ∈ l, 0 ≤ x) (hs : sumI l ≤ 1000000) (w : World) (h : ILie w v l) : Calls Try.prog 35 #[v] w fun e w' => e = .returned (.int .i64 (sumI l)) ∧ w' = w := by
  obtain ⟨ao, cap, rfl, hlc, hcm, hcell⟩ := h
  have HC := hid hcell
  have HN := hid hn
  clear hcell hn
  unfold maxLen at hcm
  obtain ⟨A, hA⟩ : ∃ A, A = sumI l := ⟨_, rfl⟩
  rw [← hA] at hs ⊢
  have HA := hid hA
  clear hA
  go_enter Try.func35, Try.ntmps35
  go_wp2
  go_loopw [3, 8] (fun s i wr => ∃ (q : Nat) (t : Int), i = .int .i64 q ∧ q ≤ l.length ∧ s = .int .i64 t ∧ t = sumI (l.take q) ∧ wr = w) (fun _ i _ => l.length - (intOf i).toNat)
  case atStart => exact ⟨0, 0, rfl, Nat.zero_le _, rfl, rfl, rfl⟩
  case round =>
    obtain ⟨q, t, rfl, hq, rfl, ht, hw⟩ := hrel
    subst hw
    have HT := hid ht
    have hb := sumI_take HN.out q
    rw [← ht, ← HA.out] at hb
    clear ht
    by_cases hqk : q < l.length
    · obtain ⟨gb, off, e, hgl, c0⟩ := HC.out q hqk
      subst e
      have hb2 := sumI_take HN.out (q + 1)
      have HS : Hid (sumI (l.take (q + 1)) = t + l[q]) := by show _ = _; rw [List.take_succ_eq_append_getElem hqk, sumI_snoc, HT.out]
      rw [HS.out, ← HA.out] at hb2
      obtain ⟨x, hx⟩ : ∃ x, x = l[q] := ⟨_, rfl⟩
      rw [← hx] at c0 hb2 HS
      clear hx
      go_wp2
      go_roundw
      case rel => exact ⟨q + 1, t + x, by go_num, by omega, rfl, HS.out.symm, trivial⟩
      case measure => simp [intOf]; omega
    · have hqe : q = l.length := by omega
      subst hqe
      rw [List.take_length] at HT
      go_wp2
      go_ret
      have e : t = A := by rw [HT.out, HA.out]
      exact ⟨by rw [← e]; rfl, rfl⟩
theorem place_any (g : Nat) (P T F S p : Int) (sv : Value) (hP : 0 < P) (hp : 0 ≤ p) (w : World) (h : JIs g w P T F sv S) : Calls Try.prog 36 #[.pointer (some ⟨g, 0, none⟩), .int .i64 p] w fun e w' => e = .returned (.int .i64 (p % P)) ∧ w' = w := by
  obtain ⟨c0, c1, c2, c3, c4⟩ := h.cells
  have hP' : (P == 0) = false := by simp; omega
  go_enter Try.func36, Try.ntmps36
  go_wp2
  go_ret
  exact ⟨rfl, rfl⟩
theorem free_any (g : Nat) (P T F S : Int) (sv : Value) (l : List Int) (hn : ∀ x ∈ l, 0 ≤ x) (hs : sumI l ≤ P) (hP : 0 < P) (hP2 : P ≤ 300) (w : World) (h : JIs g w P T F sv S) (hl : ILie w sv l) : Calls Try.prog 22 #[.pointer (some ⟨g, 0, none⟩)] w fun e w' => e = .returned (.int .i64 (P - sumI l)) ∧ ∃ q, w' = w.drewN q := by
  have HN := hid (none_any g P T F S sv hP w h)
  obtain ⟨c0, c1, c2, c3, c4⟩ := h.cells
  have HT := hid (fun w h => total_any sv l hn (by omega) w h)
  have HL := hid hl
  have h0 := sumI_nn hn
  obtain ⟨A, hA⟩ : ∃ A, A = sumI l := ⟨_, rfl⟩
  rw [← hA] at HT hs h0 ⊢
  clear hA hn
  obtain ⟨ao, cap, rfl, _⟩ := hl
  go_enter Try.func22, Try.ntmps22
  go_wp2_with (first | (go_at_call 38; refine (HN.out).mono ?_; rintro e w1 ⟨rfl, hw⟩; have hw := hw.symm; subst hw))
  go_quiet ((go_at_call 35; exact Calls.quiet_of_same (HT.out _ (by exact HL.out.below ⟨rfl, rfl, rfl, Nat.le_refl _, fun _ _ => rfl⟩))))
  go_wp2
  go_ret
  exact ⟨rfl, _, rfl⟩
end Go.Proofs.Ytmcahiebcflfoaa
