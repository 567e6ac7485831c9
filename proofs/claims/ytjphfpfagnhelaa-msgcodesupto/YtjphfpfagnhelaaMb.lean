import Derived.Test.YtjphfpfagnhelaaMa
import Derived.Test.YtjphfpfagnhelaaFd
namespace Go.Proofs.Ytjphfpfagnhelaa
open Go.RowKit Go.Maps

theorem below_dN {B : Nat} {w w' : World} (h : Below B w w') (n : Nat) : Below B w (w'.drewN n) := ⟨h.os, h.tape, h.output, h.size, h.block⟩
/-- whether the views fall anywhere -/
def fallsB : List Ent → Bool
  | x :: y :: l => decide (y.V < x.V) || fallsB (y :: l)
  | _ => false
theorem fallsB_iff : ∀ l : List Ent, fallsB l = true ↔ ∃ k, ∃ h : k + 1 < l.length, l[k + 1].V < l[k].V
  | [] => by simp [fallsB]
  | [x] => by simp [fallsB]
  | x :: y :: l => by
    rw [fallsB, Bool.or_eq_true, decide_eq_true_iff, fallsB_iff (y :: l)]
    constructor
    · rintro (h | ⟨k, h, hk⟩)
      · exact ⟨0, by simp, h⟩
      · exact ⟨k + 1, by simp at h ⊢; omega, hk⟩
    · rintro ⟨k, h, hk⟩
      cases k with
      | zero => exact .inl hk
      | succ k => exact .inr ⟨k, by simp at h ⊢; omega, hk⟩
set_option maxRecDepth 100000 in
set_option maxHeartbeats 1000000 in
theorem fall_any {w : World} {v : Value} {l : List Ent} (h : ELie w v l) : Calls Try.prog 56 #[v] w fun e w' => e = .returned (.bool (fallsB l)) ∧ ∃ q, w' = w.drewN q := by
  obtain ⟨ao, cap, rfl, hlc, hcm, hcell⟩ := h
  have HC := hid hcell
  unfold maxLen at hcm
  clear hcell
  obtain ⟨n, hn⟩ : ∃ n, n = l.length := ⟨_, rfl⟩
  rw [← hn] at hlc ⊢
  have HN := hid hn
  clear hn
  obtain ⟨b, hb⟩ : ∃ b, b = fallsB l := ⟨_, rfl⟩
  rw [← hb]
  have HB := hid hb
  clear hb
  go_enter Try.func56, Try.ntmps56
  go_wp2
  go_loopw [3] (fun i wr => ∃ j : Nat, i = .int .i64 j ∧ 1 ≤ j ∧ j ≤ n + 1 ∧ Hid (∀ k, k + 1 < j → ∀ h : k + 1 < l.length, l[k].V ≤ l[k + 1].V) ∧ ∃ q, wr = w.drewN q) (fun i _ => n + 1 - (intOf i).toNat)
  case atStart => exact ⟨1, rfl, Nat.le_refl _, by omega, hid (fun k hk => by omega), 0, rfl⟩
  case round =>
    obtain ⟨j, rfl, hj1, hj, HT, q, rfl⟩ := hrel
    by_cases hlt : j < n
    · obtain ⟨m, hm⟩ : ∃ m, j = m + 1 := ⟨j - 1, by omega⟩
      have hl1 : j < l.length := by rw [← HN.out]; exact hlt
      obtain ⟨ga, oa, ea, hga, hat⟩ := HC.out j hl1
      have hlm : m < l.length := by omega
      obtain ⟨gb, ob, eb, hgb, hbt⟩ := HC.out m hlm
      subst ea
      cases eb
      obtain ⟨x, hx⟩ : ∃ x, x = l[j].V := ⟨_, rfl⟩
      obtain ⟨y, hy⟩ : ∃ y, y = l[m].V := ⟨_, rfl⟩
      have c0 := hat.1
      have d0 := hbt.1
      rw [← hx] at c0
      rw [← hy] at d0
      have HX := hid hx
      have HY := hid hy
      clear hx hy hat hbt
      have e2 : IntKind.i64.wrap ((j : Int) - 1) = (m : Int) := by rw [IntKind.wrap_i64]; omega
      have e3 : (j : Int) - 1 = (m : Int) := by omega
      have g1 : (0 : Int) ≤ (m : Int) ∧ (m : Int) < (n : Int) := by omega
      have HJ := hid hm
      clear hm
      by_cases hv : x < y
      · have HR : Hid (fallsB l = true) := hid ((fallsB_iff l).2 ⟨m, by have := HJ.out; omega, by have := HJ.out; subst this; rw [← HX.out, ← HY.out]; exact hv⟩)
        go_wp2
        go_quiet (fail)
        go_wp2
        go_ret
        exact ⟨by rw [show b = true from HB.out.trans HR.out]; rfl, _, by first | exact drewN2 _ _ _ | rfl⟩
      · have HR : Hid (∀ k, k + 1 < j + 1 → ∀ h : k + 1 < l.length, l[k].V ≤ l[k + 1].V) := hid (fun k hk h => by
          have e := HJ.out
          subst e
          by_cases e : k = m
          · subst e; rw [← HX.out, ← HY.out]; exact Int.not_lt.1 hv
          · exact HT.out k (by omega) h)
        go_wp2
        go_quiet (fail)
        go_wp2
        go_roundw
        case rel => exact ⟨j + 1, by go_num, by omega, by omega, HR, _, by first | exact drewN2 _ _ _ | rfl⟩
        case measure => simp [intOf]; omega
    · have HR : Hid (fallsB l = false) := hid (by
        rw [← Bool.not_eq_true, fallsB_iff]
        rintro ⟨k, h, hk⟩
        have := HN.out
        exact Int.not_lt.2 (HT.out k (by omega) h) hk)
      go_wp2
      go_ret
      exact ⟨by rw [show b = false from HB.out.trans HR.out]; rfl, q, rfl⟩
theorem isNum_any (n : Int) (w : World) : Calls Try.prog 55 #[.int .i64 n] w fun e w' => e = .returned (.bool (nB n 0)) ∧ w' = w := by
  by_cases h : 0 ≤ n
  · have h' : nB n 0 = decide (n ≤ 1099511627776) := by unfold nB; rw [decide_eq_true h]; rfl
    rw [h']
    clear h'
    go_enter Try.func55, Try.ntmps55
    go_wp2
    go_ret
    exact ⟨rfl, rfl⟩
  · have h' : nB n 0 = false := by unfold nB; rw [decide_eq_false h]; rfl
    rw [h']
    clear h'
    go_enter Try.func55, Try.ntmps55
    go_wp2
    go_ret
    exact ⟨rfl, rfl⟩
/-- a message; sl: the entries as they lie, es: as they read -/
structure Mg where
  K : Int
  V : Int
  N : Int
  A : Int
  C : Int
  sl : Value
  es : List Ent
def Mg.v (m : Mg) : Value := .agg #[.int .i64 m.K, .int .i64 m.V, .int .i64 m.N, .int .i64 m.A, .int .i64 m.C, m.sl]
/-- the numbers of a message are right -/
def hdB (K V N A C : Int) : Bool := decide (1 ≤ K) && (decide (K ≤ 7) && (nB V 0 && (nB N 0 && (nB A 0 && nB C 0))))
set_option maxRecDepth 100000 in
set_option maxHeartbeats 2000000 in
theorem isRightM_any {w : World} (m : Mg) (h : ELie w m.sl m.es) : Calls Try.prog 33 #[m.v] w fun e w' => e = .returned (.bool (hdB m.K m.V m.N m.A m.C && !fallsB m.es)) ∧ Below w.heap.size w w' := by
  obtain ⟨K, V, N, A, C, sl, es⟩ := m
  simp only [Mg.v] at h ⊢
  have hnot : ∀ (x : Bool) (w : World), (Op.unary .not (.bool x)).run Try.prog w = .ok (.bool (!x)) w := fun _ _ => rfl
  obtain ⟨b1, hb1⟩ : ∃ b, b = nB V 0 := ⟨_, rfl⟩
  obtain ⟨b2, hb2⟩ : ∃ b, b = nB N 0 := ⟨_, rfl⟩
  obtain ⟨b3, hb3⟩ : ∃ b, b = nB A 0 := ⟨_, rfl⟩
  obtain ⟨b4, hb4⟩ : ∃ b, b = nB C 0 := ⟨_, rfl⟩
  obtain ⟨b5, hb5⟩ : ∃ b, b = fallsB es := ⟨_, rfl⟩
  have c1 := hid (isNum_any V)
  have c2 := hid (isNum_any N)
  have c3 := hid (isNum_any A)
  have c4 := hid (isNum_any C)
  have c5 : Hid (∀ o, Calls Try.prog 56 #[sl] (w.alloc o) fun e w' => e = .returned (.bool (fallsB es)) ∧ ∃ q, w' = (w.alloc o).drewN q) := hid (fun o => fall_any (h.below (below_alloc w o)))
  obtain ⟨sa, sn, sc, hsl⟩ : ∃ a n c, sl = .slice a n c := by obtain ⟨a, c, e, _⟩ := h; exact ⟨a, _, c, e⟩
  subst hsl
  clear h
  unfold hdB
  rw [← hb1, ← hb2, ← hb3, ← hb4, ← hb5]
  rw [← hb1] at c1
  rw [← hb2] at c2
  rw [← hb3] at c3
  rw [← hb4] at c4
  rw [← hb5] at c5
  clear hb1 hb2 hb3 hb4 hb5
  by_cases k1 : 1 ≤ K
  case neg =>
    rw [decide_eq_false k1]
    go_enter Try.func33, Try.ntmps33
    go_wp2
    go_ret
    exact ⟨by simp, below_alloc _ _⟩
  rw [decide_eq_true k1]
  by_cases k2 : K ≤ 7
  case neg =>
    rw [decide_eq_false k2]
    go_enter Try.func33, Try.ntmps33
    go_wp2
    go_ret
    exact ⟨by simp, below_alloc _ _⟩
  rw [decide_eq_true k2]
  cases b1 with
  | false =>
    go_enter Try.func33, Try.ntmps33
    go_wp2_with (first | (go_at_call 55; first | (refine (c1.out _).mono ?_; rintro e w' ⟨rfl, rfl⟩; clear c1)))
    go_ret
    exact ⟨by simp, below_alloc _ _⟩
  | true =>
  cases b2 with
  | false =>
    go_enter Try.func33, Try.ntmps33
    go_wp2_with (first | (go_at_call 55; first | (refine (c1.out _).mono ?_; rintro e w' ⟨rfl, rfl⟩; clear c1) | (refine (c2.out _).mono ?_; rintro e w' ⟨rfl, rfl⟩; clear c2)))
    go_ret
    exact ⟨by simp, below_alloc _ _⟩
  | true =>
  cases b3 with
  | false =>
    go_enter Try.func33, Try.ntmps33
    go_wp2_with (first | (go_at_call 55; first | (refine (c1.out _).mono ?_; rintro e w' ⟨rfl, rfl⟩; clear c1) | (refine (c2.out _).mono ?_; rintro e w' ⟨rfl, rfl⟩; clear c2) | (refine (c3.out _).mono ?_; rintro e w' ⟨rfl, rfl⟩; clear c3)))
    go_ret
    exact ⟨by simp, below_alloc _ _⟩
  | true =>
  cases b4 with
  | false =>
    go_enter Try.func33, Try.ntmps33
    go_wp2_with (first | (go_at_call 55; first | (refine (c1.out _).mono ?_; rintro e w' ⟨rfl, rfl⟩; clear c1) | (refine (c2.out _).mono ?_; rintro e w' ⟨rfl, rfl⟩; clear c2) | (refine (c3.out _).mono ?_; rintro e w' ⟨rfl, rfl⟩; clear c3) | (refine (c4.out _).mono ?_; rintro e w' ⟨rfl, rfl⟩; clear c4)))
    go_ret
    exact ⟨by simp, below_alloc _ _⟩
  | true =>
  simp only [Bool.true_and]
  go_enter Try.func33, Try.ntmps33
  go_wp2_with (first | (go_at_call 55; first | (refine (c1.out _).mono ?_; rintro e w' ⟨rfl, rfl⟩; clear c1) | (refine (c2.out _).mono ?_; rintro e w' ⟨rfl, rfl⟩; clear c2) | (refine (c3.out _).mono ?_; rintro e w' ⟨rfl, rfl⟩; clear c3) | (refine (c4.out _).mono ?_; rintro e w' ⟨rfl, rfl⟩; clear c4)) | (go_at_call 56; refine (c5.out _).mono ?_; rintro e w' ⟨rfl, q, rfl⟩))
  go_ret
  exact ⟨rfl, below_dN (below_alloc _ _) q⟩
end Go.Proofs.Ytjphfpfagnhelaa
