import Derived.Test.YtaahdfogpehkfaaTf
import Derived.Test.YtaahdfogpehkfaaSo
import Derived.Laws.Cover1
namespace Go.Proofs.Ytaahdfogpehkfaa
open Go.RowKit Go.Maps Go.Sort Go.Shelf

theorem isNaN_i (a : Int) (w : World) : Calls Try.prog 62 #[.int .i64 a] w fun e w' => e = .returned (.bool false) ∧ w' = w := by
  go_enter Try.func62, Try.ntmps62
  go_wp2
  go_ret
  exact ⟨by simp, rfl⟩
def cmpI (a b : Int) : Int := if a < b then -1 else if b < a then 1 else 0
theorem compare_i (a b : Int) (w : World) : Calls Try.prog 40 #[.int .i64 a, .int .i64 b] w fun e w' => e = .returned (.int .i64 (cmpI a b)) ∧ w' = w := by
  unfold cmpI
  by_cases h1 : a < b
  · rw [if_pos h1]
    go_enter Try.func40, Try.ntmps40
    go_wp2_with (first | (go_at_call 62; refine (isNaN_i _ _).mono ?_; rintro e w1 ⟨rfl, hw⟩; have hw := hw.symm; subst hw))
    go_ret
    exact ⟨rfl, rfl⟩
  · rw [if_neg h1]
    by_cases h2 : b < a
    · rw [if_pos h2]
      go_enter Try.func40, Try.ntmps40
      go_wp2_with (first | (go_at_call 62; refine (isNaN_i _ _).mono ?_; rintro e w1 ⟨rfl, hw⟩; have hw := hw.symm; subst hw))
      go_ret
      exact ⟨rfl, rfl⟩
    · rw [if_neg h2]
      go_enter Try.func40, Try.ntmps40
      go_wp2_with (first | (go_at_call 62; refine (isNaN_i _ _).mono ?_; rintro e w1 ⟨rfl, hw⟩; have hw := hw.symm; subst hw))
      go_ret
      exact ⟨rfl, rfl⟩
/-- in what order changes stand -/
def cfC (x y : Chg) : Int := cmpI x.b y.b
theorem order_any (x y : Chg) (w : World) : Calls Try.prog 22 #[valC x, valC y] w fun e w' => e = .returned (.int .i64 (cfC x y)) ∧ ∃ q os', w' = grow (w.drewN q) os' := by
  unfold cfC valC
  go_enter Try.func22, Try.ntmps22
  go_wp2_with (first | (go_at_call 40; refine (compare_i _ _ _).mono ?_; rintro e w1 ⟨rfl, hw⟩; have hw := hw.symm; subst hw))
  go_ret
  exact ⟨rfl, 0, _, by rw [alloc_eq_grow, alloc_eq_grow, grow_grow]; rfl⟩
theorem cmpLays (blk off size : Nat) (w : World) : CmpLays Try.prog 22 #[] encC 2 cfC blk off size w :=
  fun _ _ _ _ x y => order_any x y _
theorem cmpI_neg (a b : Int) : cmpI a b < 0 ↔ a < b := by unfold cmpI; split <;> (try split) <;> omega
theorem ltOf_iff (x y : Chg) : ltOf cfC x y = true ↔ x.b < y.b := by
  unfold ltOf cfC
  rw [decide_eq_true_eq, cmpI_neg]
theorem lt_false {x y : Chg} : ltOf cfC x y = false ↔ ¬ x.b < y.b := by
  rw [← ltOf_iff]; simp
theorem swoC : SWO (ltOf cfC) where
  irrefl x := lt_false.2 (by omega)
  trans x y z h1 h2 := (ltOf_iff _ _).2 (by have := (ltOf_iff _ _).1 h1; have := (ltOf_iff _ _).1 h2; omega)
  ntrans x y z h1 h2 := by
    rw [lt_false] at *
    omega
theorem agg44 (w : World) : (isAgg 44).run Try.prog w = .ok true w := Try.isAgg44 w
theorem size44 (w : World) : (Go.sizeOf 44).run Try.prog w = .ok 2 w := Try.sizeOf44 w
/-- the sort, at changes: a permutation, rising -/
theorem sort_any (blk off cap : Nat) (d : Array Chg) (w : World) (hH : HoldsK encC 2 w blk off d) (hblk : blk < w.heap.size) (hsz : d.size < 4611686018427387904) :
    Calls Try.prog 38 #[.slice (some ⟨blk, off, none⟩) d.size cap, .func (.func 22) #[] #[]] w fun e w' => e = .returned (.tuple #[]) ∧ ∃ d' n os, PermIn 0 d.size d d' ∧ SortedIn (ltOf cfC) 0 d.size d' ∧ w' = sortWorldK encC 2 w blk off n d' os :=
  AnyQ.slices_SortFunc Try.sl6 2 agg44 size44 encC (fun _ => rfl) (fun x v hv => by simp [encC] at hv; rcases hv with rfl | rfl <;> rfl) cfC swoC 22 #[] blk off cap d w (enters_of Try.func22 (by kernel_rfl) rfl) (cmpLays blk off d.size w) hH hblk hsz
theorem sort_none (p : Option Addr) (cap : Nat) (fv : Value) (w : World) : Calls Try.prog 38 #[.slice p 0 cap, fv] w fun e w' => e = .returned (.tuple #[]) ∧ w' = w :=
  AnyF.slices_SortFunc_none Try.sl6 p cap fv w
end Go.Proofs.Ytaahdfogpehkfaa
