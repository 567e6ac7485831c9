import Derived.Test.YtnoocgodnpjnoaaDoorQe
import Derived.Test.YtnoocgodnpjnoaaDoorQf
namespace Go.Proofs.YtnoocgodnpjnoaaDoor
open Go.RowKit

theorem opn_nat {D : Nat → Dsc} {k : Nat} (hk : k < 16) : opn D (k : Int) = (D k).o := by
  unfold opn
  rw [decide_eq_true (by omega), decide_eq_true (by omega), Int.toNat_natCast]
  simp
theorem find_none {g : Nat} {w : World} {D : Nat → Dsc} (fd : Int) (h : TI g w D) (ho : opn D fd = false) : Calls Tryd.prog 26 #[.pointer (some ⟨g, 0, none⟩), .int .i64 fd] w fun e w' => e = .returned (.pointer none) ∧ w' = w := find_no fd h ho
def closE (D : Nat → Dsc) (fd : Int) : Int := if opn D fd then 0 else 311
def closD (D : Nat → Dsc) (fd : Int) : Nat → Dsc := if opn D fd then upd D fd.toNat Dsc.zero else D
theorem close_any {g : Nat} {w : World} {D : Nat → Dsc} (fd : Int) (h : TI g w D) : Calls Tryd.prog 16 #[.pointer (some ⟨g, 0, none⟩), .int .i64 fd] w fun e w' => e = .returned (.int .i64 (closE D fd)) ∧ TI g w' (closD D fd) ∧ KP g w w' := by
  unfold closE closD
  cases ho : opn D fd with
  | true =>
    obtain ⟨k, rfl, hk, hd⟩ := opn_parts ho
    have := close_yes k h hk hd
    simpa using this
  | false =>
    have HF := hid (find_no fd h ho)
    simp only [Bool.false_eq_true, if_false]
    have HH := hid h
    clear ho h
    go_enter Tryd.func16, Tryd.ntmps16
    go_wp2_with (first | (go_at_call 26; refine (HF.out).mono ?_; rintro e w2 ⟨rfl, hw2⟩; subst hw2))
    go_ret
    exact ⟨rfl, HH.out, KP.refl g _⟩
/-- may it go there? -/
def skB (m n : Int) : Bool := decide (0 ≤ m) && (decide (m ≤ 533248) && (decide (0 ≤ m + n) && decide (m + n ≤ 533248)))
def seekE (D : Nat → Dsc) (fd m n : Int) : Int := if opn D fd then (if skB m n then 0 else 309) else 311
def seekR (D : Nat → Dsc) (fd m n : Int) : Int := if seekE D fd m n = 0 then m + n else 0
def seekD (D : Nat → Dsc) (fd m n : Int) : Nat → Dsc := if seekE D fd m n = 0 then upd D fd.toNat ⟨(D fd.toNat).o, (D fd.toNat).p, m + n⟩ else D
theorem seek_any {g : Nat} {w : World} {D : Nat → Dsc} (fd m n : Int) (h : TI g w D) : Calls Tryd.prog 17 #[.pointer (some ⟨g, 0, none⟩), .int .i64 fd, .int .i64 m, .int .i64 n] w fun e w' => e = .returned (.tuple #[.int .i64 (seekR D fd m n), .int .i64 (seekE D fd m n)]) ∧ TI g w' (seekD D fd m n) ∧ KP g w w' := by
  unfold seekD seekR seekE
  cases ho : opn D fd with
  | true =>
    obtain ⟨k, rfl, hk, hd⟩ := opn_parts ho
    cases hb : skB m n with
    | true =>
      unfold skB at hb
      simp at hb
      have := seek_yes k m n h hk hd ⟨hb.1, hb.2.1⟩ ⟨hb.2.2.1, hb.2.2.2⟩
      simpa using this
    | false =>
      have HF := hid (find_yes k h hk hd)
      simp only [Bool.false_eq_true, if_false, if_true, show ¬ (309 : Int) = 0 by decide]
      have HH := hid h
      clear ho h
      have HP := hid (fun w' => place_any m w')
      unfold skB at hb
      cases hp : isP m with
      | false =>
        rw [hp] at HP
        clear hb hp
        go_enter Tryd.func17, Tryd.ntmps17
        go_wp2_with (first | (go_at_call 26; refine (HF.out).mono ?_; rintro e w2 ⟨rfl, hw2⟩; subst hw2) | (go_at_call 30; refine (HP.out _).mono ?_; rintro e w2 ⟨rfl, hw2⟩; subst hw2))
        go_ret2
        exact ⟨rfl, HH.out, KP.refl g _⟩
      | true =>
        rw [hp] at HP
        unfold isP at hp
        simp at hp
        have hw2 : IntKind.i64.wrap (533248 - m) = 533248 - m := by rw [IntKind.wrap_i64]; omega
        have hw3 : IntKind.i64.wrap (-m) = -m := by rw [IntKind.wrap_i64]; omega
        by_cases h1 : n < -m
        · clear hb
          go_enter Tryd.func17, Tryd.ntmps17
          go_wp2_with (first | (go_at_call 26; refine (HF.out).mono ?_; rintro e w2 ⟨rfl, hw2⟩; subst hw2) | (go_at_call 30; refine (HP.out _).mono ?_; rintro e w2 ⟨rfl, hw2⟩; subst hw2))
          go_ret2
          exact ⟨rfl, HH.out, KP.refl g _⟩
        · have h2 : 533248 - m < n := by
            rw [decide_eq_true hp.1, decide_eq_true hp.2, decide_eq_true (by omega)] at hb
            simp at hb
            omega
          clear hb
          go_enter Tryd.func17, Tryd.ntmps17
          go_wp2_with (first | (go_at_call 26; refine (HF.out).mono ?_; rintro e w2 ⟨rfl, hw2⟩; subst hw2) | (go_at_call 30; refine (HP.out _).mono ?_; rintro e w2 ⟨rfl, hw2⟩; subst hw2))
          go_ret2
          exact ⟨rfl, HH.out, KP.refl g _⟩
  | false =>
    have HF := hid (find_no fd h ho)
    simp only [Bool.false_eq_true, if_false, show ¬ (311 : Int) = 0 by decide]
    have HH := hid h
    clear ho h
    go_enter Tryd.func17, Tryd.ntmps17
    go_wp2_with (first | (go_at_call 26; refine (HF.out).mono ?_; rintro e w2 ⟨rfl, hw2⟩; subst hw2))
    go_ret2
    exact ⟨rfl, HH.out, KP.refl g _⟩
def movE (D : Nat → Dsc) (fd n : Int) : Int := if opn D fd then (if decide (0 ≤ n) && decide ((D fd.toNat).n + n ≤ 533248) then 0 else 309) else 311
def movD (D : Nat → Dsc) (fd n : Int) : Nat → Dsc := if movE D fd n = 0 then upd D fd.toNat ⟨(D fd.toNat).o, (D fd.toNat).p, (D fd.toNat).n + n⟩ else D
/-- all places are in range -/
def PI (D : Nat → Dsc) : Prop := ∀ i, 0 ≤ (D i).n ∧ (D i).n ≤ 533248
theorem moved_any {g : Nat} {w : World} {D : Nat → Dsc} (fd n : Int) (h : TI g w D) (hP : PI D) : Calls Tryd.prog 20 #[.pointer (some ⟨g, 0, none⟩), .int .i64 fd, .int .i64 n] w fun e w' => e = .returned (.int .i64 (movE D fd n)) ∧ TI g w' (movD D fd n) ∧ KP g w w' := by
  unfold movD movE
  cases ho : opn D fd with
  | true =>
    obtain ⟨k, rfl, hk, hd⟩ := opn_parts ho
    cases hb : decide (0 ≤ n) && decide ((D (k : Int).toNat).n + n ≤ 533248) with
    | true =>
      simp at hb
      have := moved_yes k n h hk hd (hP k) hb
      simpa using this
    | false =>
      have HF := hid (find_yes k h hk hd)
      simp only [Bool.false_eq_true, if_false, if_true, show ¬ (309 : Int) = 0 by decide]
      have HH := hid h
      obtain ⟨c0, c1, c2⟩ := h.cells k hk
      have hp := hP k
      rw [Int.toNat_natCast] at hb
      obtain ⟨x, hx⟩ : ∃ x, x = (D k).n := ⟨_, rfl⟩
      rw [← hx] at hb c2 hp
      clear ho h hx c0 c1 hP
      have hw2 : IntKind.i64.wrap (533248 - x) = 533248 - x := by rw [IntKind.wrap_i64]; omega
      by_cases h1 : n < 0
      · clear hb
        go_enter Tryd.func20, Tryd.ntmps20
        go_wp2_with (first | (go_at_call 26; refine (HF.out).mono ?_; rintro e w2 ⟨rfl, hw2⟩; subst hw2))
        go_ret
        exact ⟨rfl, HH.out, KP.refl g _⟩
      · have h2 : 533248 - x < n := by
          rw [decide_eq_true (by omega)] at hb
          simp at hb
          omega
        clear hb
        go_enter Tryd.func20, Tryd.ntmps20
        go_wp2_with (first | (go_at_call 26; refine (HF.out).mono ?_; rintro e w2 ⟨rfl, hw2⟩; subst hw2))
        go_ret
        exact ⟨rfl, HH.out, KP.refl g _⟩
  | false =>
    have HF := hid (find_no fd h ho)
    simp only [Bool.false_eq_true, if_false, show ¬ (311 : Int) = 0 by decide]
    have HH := hid h
    clear ho h
    go_enter Tryd.func20, Tryd.ntmps20
    go_wp2_with (first | (go_at_call 26; refine (HF.out).mono ?_; rintro e w2 ⟨rfl, hw2⟩; subst hw2))
    go_ret
    exact ⟨rfl, HH.out, KP.refl g _⟩
/-- to open -/
def openE (D : Nat → Dsc) (s : ByteArray) : Int := if splE s.data.toList = 0 then (match lf D 16 with | none => 5 | some _ => 0) else splE s.data.toList
def openR (D : Nat → Dsc) (s : ByteArray) : Int := if splE s.data.toList = 0 then (match lf D 16 with | none => 0 | some k => (k : Int)) else 0
def openD (D : Nat → Dsc) (s : ByteArray) : Nat → Dsc := if splE s.data.toList = 0 then (match lf D 16 with | none => D | some k => upd D k ⟨true, s, 0⟩) else D
theorem open_any {g : Nat} {w : World} {D : Nat → Dsc} (s : ByteArray) (h : TI g w D) (hs : s.size ≤ 1048576) : Calls Tryd.prog 14 #[.pointer (some ⟨g, 0, none⟩), .string s] w fun e w' => e = .returned (.tuple #[.int .i64 (openR D s), .int .i64 (openE D s)]) ∧ TI g w' (openD D s) ∧ KP g w w' := by
  unfold openE openR openD
  by_cases he : splE s.data.toList = 0
  · simp only [if_pos he]
    cases hf : lf D 16 with
    | none => exact (open_full s h hs he hf).mono (by rintro e w' ⟨rfl, b⟩; exact ⟨rfl, h.below b, KP.of_below b⟩)
    | some k => exact open_ok s k h hs he hf
  · simp only [if_neg he]
    exact (open_err s w hs he).mono (by rintro e w' ⟨rfl, b⟩; exact ⟨rfl, h.below b, KP.of_below b⟩)
theorem at_yes {g : Nat} {w : World} {D : Nat → Dsc} (k : Nat) (h : TI g w D) (hk : k < 16) (ho : (D k).o = true) : Calls Tryd.prog 9 #[.pointer (some ⟨g, 0, none⟩), .int .i64 k] w fun e w' => e = .returned (.tuple #[.string (D k).p, .int .i64 (D k).n, .int .i64 0]) ∧ ∃ q, w' = w.drewN q := by
  have HF := hid (find_yes k h hk ho)
  obtain ⟨c0, c1, c2⟩ := h.cells k hk
  obtain ⟨pl, hpl⟩ : ∃ x, x = (D k).n := ⟨_, rfl⟩
  obtain ⟨pa, hpa⟩ : ∃ x, x = (D k).p := ⟨_, rfl⟩
  rw [← hpl] at c2 ⊢
  rw [← hpa] at c1 ⊢
  clear hpl hpa c0 h ho
  go_enter Tryd.func9, Tryd.ntmps9
  go_wp2_with (first | (go_at_call 26; refine (HF.out).mono ?_; rintro e w2 ⟨rfl, hw2⟩; subst hw2))
  go_quiet (fail)
  go_wp2
  go_ret3
  exact ⟨rfl, _, rfl⟩
theorem at_no {g : Nat} {w : World} {D : Nat → Dsc} (fd : Int) (h : TI g w D) (ho : opn D fd = false) : Calls Tryd.prog 9 #[.pointer (some ⟨g, 0, none⟩), .int .i64 fd] w fun e w' => e = .returned (.tuple #[.string ⟨#[]⟩, .int .i64 0, .int .i64 311]) ∧ w' = w := by
  have HF := hid (find_no fd h ho)
  clear h ho
  go_enter Tryd.func9, Tryd.ntmps9
  go_wp2_with (first | (go_at_call 26; refine (HF.out).mono ?_; rintro e w2 ⟨rfl, hw2⟩; subst hw2))
  go_ret3
  exact ⟨rfl, rfl⟩
end Go.Proofs.YtnoocgodnpjnoaaDoor
