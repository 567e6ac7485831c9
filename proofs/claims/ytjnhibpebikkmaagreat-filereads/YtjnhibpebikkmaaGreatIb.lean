import Derived.Test.YtjnhibpebikkmaaGreatEq
namespace Go.Proofs.YtjnhibpebikkmaaGreat
open Go.RowKit

def Ino.zero : Ino := ⟨0, 0, 0, 0, 0, 0, 0, 0, 0, 0, 0⟩
/-- an inode that is free, that is used, that is right -/
def freeI (n : Ino) : Bool := decide (n = Ino.zero)
def namesB (n : Ino) : Bool := okN n.a && okN n.b && okN n.c && okN n.d && okN n.e && okN n.f && okN n.s && okN n.t
def usedI (n : Ino) : Bool := lnk n.k n.l && decide (0 ≤ n.z) && decide (n.z ≤ 533248) && namesB n
def rightI (n : Ino) : Bool := freeI n || usedI n
def chkE (n : Ino) : Int := if rightI n then 0 else 120
theorem free_zero {n : Ino} (h : freeI n = true) : n = Ino.zero := of_decide_eq_true h
theorem chk_cases (n : Ino) : (n = Ino.zero ∧ chkE n = 0) ∨ (freeI n = false ∧ ((lnk n.k n.l = false ∧ chkE n = 120) ∨ (lnk n.k n.l = true ∧ ((¬ 0 ≤ n.z ∧ chkE n = 120) ∨ (0 ≤ n.z ∧ ((¬ n.z ≤ 533248 ∧ chkE n = 120) ∨ (n.z ≤ 533248 ∧ ((namesB n = true ∧ chkE n = 0) ∨ (namesB n = false ∧ chkE n = 120))))))))) := by
  cases hf : freeI n with
  | true =>
    have := free_zero hf
    exact .inl ⟨this, by unfold chkE rightI; rw [hf]; rfl⟩
  | false =>
    refine .inr ⟨rfl, ?_⟩
    unfold chkE rightI usedI
    rw [hf]
    cases lnk n.k n.l with
    | false => left; exact ⟨rfl, rfl⟩
    | true =>
      right
      refine ⟨rfl, ?_⟩
      by_cases h1 : 0 ≤ n.z
      · right
        refine ⟨h1, ?_⟩
        by_cases h2 : n.z ≤ 533248
        · right
          refine ⟨h2, ?_⟩
          cases namesB n <;> simp [h1, h2]
        · left
          simp [h1, h2]
      · left
        simp [h1]
theorem wrapv (n : Ino) (w : World) : (Op.equalIn 10000 33 n.v Ino.zero.v).run Tryz.prog w = .ok (freeI n) w := eqI n Ino.zero w
set_option maxRecDepth 100000 in
set_option maxHeartbeats 2000000 in
theorem check_any (n : Ino) (w : World) : Calls Tryz.prog 36 #[n.v] w fun e w' => e = .returned (.int .i64 (chkE n)) ∧ Below w.heap.size w w' := by
  have HL := hid (isLinks_any n.k n.l)
  have HN := hid (names_any n)
  have HR : Hid (∀ w, Calls Tryz.prog 63 #[Ino.names n] w fun e w' => e = .returned (.bool (namesB n)) ∧ Below w.heap.size w w') := areRight_any n
  have heq := wrapv n
  rcases chk_cases n with ⟨rfl, hE⟩ | ⟨hF, hc⟩
  · rw [show lnk Ino.zero.k Ino.zero.l = false from rfl] at HL
    rw [show freeI Ino.zero = true from rfl] at heq
    rw [hE]
    clear hE
    simp only [Ino.v, Ino.zero] at heq HL ⊢
    go_enter Tryz.func36, Tryz.ntmps36
    go_wp2_with (first
      | (go_at_call 61; refine (HL.out _).mono ?_; rintro e w1 ⟨rfl, rfl⟩))
    go_ret
    exact ⟨rfl, by go_grown⟩
  · rw [hF] at heq
    clear hF
    obtain ⟨k, l, z, a, b, c, d, e, f, s, t⟩ := n
    simp only [Ino.v, Ino.names, Ino.zero] at heq HL HN HR hc ⊢
    rcases hc with ⟨h1, hE⟩ | ⟨h1, ⟨h2, hE⟩ | ⟨h2, ⟨h3, hE⟩ | ⟨h3, ⟨h4, hE⟩ | ⟨h4, hE⟩⟩⟩⟩
    · rw [hE]
      rw [h1] at HL
      clear hE h1
      go_enter Tryz.func36, Tryz.ntmps36
      go_wp2_with (first
        | (go_at_call 61; refine (HL.out _).mono ?_; rintro e w1 ⟨rfl, rfl⟩)
        | (go_at_call 62; refine (HN.out _).mono ?_; rintro e w2 ⟨rfl, hb2⟩)
        | (go_at_call 63; refine (HR.out _).mono ?_; rintro e w3 ⟨rfl, hb3⟩))
      go_ret
      exact ⟨rfl, by go_grown⟩
    · rw [hE]
      rw [h1] at HL
      clear hE h1
      go_enter Tryz.func36, Tryz.ntmps36
      go_wp2_with (first
        | (go_at_call 61; refine (HL.out _).mono ?_; rintro e w1 ⟨rfl, rfl⟩)
        | (go_at_call 62; refine (HN.out _).mono ?_; rintro e w2 ⟨rfl, hb2⟩)
        | (go_at_call 63; refine (HR.out _).mono ?_; rintro e w3 ⟨rfl, hb3⟩))
      go_ret
      exact ⟨rfl, by go_grown⟩
    · rw [hE]
      rw [h1] at HL
      clear hE h1
      go_enter Tryz.func36, Tryz.ntmps36
      go_wp2_with (first
        | (go_at_call 61; refine (HL.out _).mono ?_; rintro e w1 ⟨rfl, rfl⟩)
        | (go_at_call 62; refine (HN.out _).mono ?_; rintro e w2 ⟨rfl, hb2⟩)
        | (go_at_call 63; refine (HR.out _).mono ?_; rintro e w3 ⟨rfl, hb3⟩))
      go_ret
      exact ⟨rfl, by go_grown⟩
    · rw [hE]
      rw [h1] at HL
      rw [h4] at HR
      clear hE h1 h4
      go_enter Tryz.func36, Tryz.ntmps36
      go_wp2_with (first
        | (go_at_call 61; refine (HL.out _).mono ?_; rintro e w1 ⟨rfl, rfl⟩)
        | (go_at_call 62; refine (HN.out _).mono ?_; rintro e w2 ⟨rfl, hb2⟩)
        | (go_at_call 63; refine (HR.out _).mono ?_; rintro e w3 ⟨rfl, hb3⟩))
      go_ret
      exact ⟨rfl, ((below_alloc w _).next hb2).next hb3⟩
    · rw [hE]
      rw [h1] at HL
      rw [h4] at HR
      clear hE h1 h4
      go_enter Tryz.func36, Tryz.ntmps36
      go_wp2_with (first
        | (go_at_call 61; refine (HL.out _).mono ?_; rintro e w1 ⟨rfl, rfl⟩)
        | (go_at_call 62; refine (HN.out _).mono ?_; rintro e w2 ⟨rfl, hb2⟩)
        | (go_at_call 63; refine (HR.out _).mono ?_; rintro e w3 ⟨rfl, hb3⟩))
      go_ret
      exact ⟨rfl, ((below_alloc w _).next hb2).next hb3⟩
end Go.Proofs.YtjnhibpebikkmaaGreat
