import Derived.Test.YtecfibabeimjoaaBo
namespace Go.Proofs.Ytecfibabeimjoaa
open Go.RowKit Go.Maps Go.Sort Go.Shelf

/-- in what order messages stand -/
def cfM (x y : Msg) : Int := if x.t = y.t then (if x.f = y.f then cmpS x.s y.s else cmpI x.f y.f) else cmpI x.t y.t
set_option maxHeartbeats 1000000 in
theorem order_any (x y : Msg) (w : World) : Calls Try.prog 32 #[valM x, valM y] w fun e w' => e = .returned (.int .i64 (cfM x y)) ∧ ∃ q os', w' = grow (w.drewN q) os' := by
  unfold cfM valM
  by_cases h1 : x.t = y.t
  · rw [if_pos h1]
    have h1' : (x.t == y.t) = true := by simp [h1]
    have H1 := hid h1
    clear h1
    by_cases h2 : x.f = y.f
    · rw [if_pos h2]
      have h2' : (x.f == y.f) = true := by simp [h2]
      clear h2
      go_enter Try.func32, Try.ntmps32
      go_wp2_with (first | (go_at_call 38; refine (compare_s _ _ _).mono ?_; rintro e w1 ⟨rfl, hw⟩; have hw := hw.symm; subst hw))
      go_ret
      exact ⟨rfl, 0, _, by rw [alloc_eq_grow, alloc_eq_grow, grow_grow]; rfl⟩
    · rw [if_neg h2]
      have h2' : (x.f == y.f) = false := by simp [h2]
      clear h2
      go_enter Try.func32, Try.ntmps32
      go_wp2_with (first | (go_at_call 37; refine (compare_i _ _ _).mono ?_; rintro e w1 ⟨rfl, hw⟩; have hw := hw.symm; subst hw))
      go_ret
      exact ⟨rfl, 0, _, by rw [alloc_eq_grow, alloc_eq_grow, grow_grow]; rfl⟩
  · rw [if_neg h1]
    have h1' : (x.t == y.t) = false := by simp [h1]
    clear h1
    go_enter Try.func32, Try.ntmps32
    go_wp2_with (first | (go_at_call 37; refine (compare_i _ _ _).mono ?_; rintro e w1 ⟨rfl, hw⟩; have hw := hw.symm; subst hw))
    go_ret
    exact ⟨rfl, 0, _, by rw [alloc_eq_grow, alloc_eq_grow, grow_grow]; rfl⟩
theorem cmpLays (blk off size : Nat) (w : World) : CmpLays Try.prog 32 #[] encM 3 cfM blk off size w :=
  fun _ _ _ _ x y => order_any x y _
/-- one stands ahead of another -/
def ltP (x y : Msg) : Prop := x.t < y.t ∨ (x.t = y.t ∧ (x.f < y.f ∨ (x.f = y.f ∧ strLt x.s y.s = true)))
theorem cmpI_neg (a b : Int) : cmpI a b < 0 ↔ a < b := by unfold cmpI; split <;> (try split) <;> omega
theorem cmpS_neg (a b : ByteArray) : cmpS a b < 0 ↔ strLt a b = true := by
  unfold cmpS
  split
  · rename_i h; simp [h]
  · rename_i h
    split <;> simp [h]
theorem ltOf_iff (x y : Msg) : ltOf cfM x y = true ↔ ltP x y := by
  unfold ltOf ltP cfM
  rw [decide_eq_true_eq]
  by_cases h1 : x.t = y.t
  · rw [if_pos h1]
    by_cases h2 : x.f = y.f
    · rw [if_pos h2, cmpS_neg]; simp [h1, h2]
    · rw [if_neg h2, cmpI_neg]; simp [h1, h2]
  · rw [if_neg h1, cmpI_neg]; simp [h1]
theorem ltP_irr (x : Msg) : ¬ ltP x x := by
  unfold ltP
  rw [strLt_irr]
  simp
theorem ltP_trans {x y z : Msg} (h1 : ltP x y) (h2 : ltP y z) : ltP x z := by
  unfold ltP at *
  rcases h1 with h1 | ⟨e1, h1 | ⟨e2, h1⟩⟩ <;> rcases h2 with h2 | ⟨e3, h2 | ⟨e4, h2⟩⟩
  · left; omega
  · left; omega
  · left; omega
  · left; omega
  · right; exact ⟨by omega, .inl (by omega)⟩
  · right; exact ⟨by omega, .inl (by omega)⟩
  · left; omega
  · right; exact ⟨by omega, .inl (by omega)⟩
  · right; exact ⟨by omega, .inr ⟨by omega, bl_trans _ _ _ h1 h2⟩⟩
theorem ltP_tri {x y : Msg} (h1 : ¬ ltP x y) (h2 : ¬ ltP y x) : x = y := by
  unfold ltP at h1 h2
  have e1 : x.t = y.t := by
    by_cases a : x.t < y.t
    · exact absurd (.inl a) h1
    · by_cases b : y.t < x.t
      · exact absurd (.inl b) h2
      · omega
  have e2 : x.f = y.f := by
    by_cases a : x.f < y.f
    · exact absurd (.inr ⟨e1, .inl a⟩) h1
    · by_cases b : y.f < x.f
      · exact absurd (.inr ⟨e1.symm, .inl b⟩) h2
      · omega
  have e3 : x.s = y.s := strLt_tri (by
    cases h : strLt x.s y.s with
    | false => rfl
    | true => exact absurd (.inr ⟨e1, .inr ⟨e2, h⟩⟩) h1) (by
    cases h : strLt y.s x.s with
    | false => rfl
    | true => exact absurd (.inr ⟨e1.symm, .inr ⟨e2.symm, h⟩⟩) h2)
  cases x; cases y
  simp only at e1 e2 e3
  subst e1 e2 e3
  rfl
theorem lt_false {x y : Msg} : ltOf cfM x y = false ↔ ¬ ltP x y := by
  rw [← ltOf_iff]; simp
theorem swoM : SWO (ltOf cfM) where
  irrefl x := lt_false.2 (ltP_irr x)
  trans x y z h1 h2 := (ltOf_iff _ _).2 (ltP_trans ((ltOf_iff _ _).1 h1) ((ltOf_iff _ _).1 h2))
  ntrans x y z h1 h2 := by
    rw [lt_false] at *
    intro h3
    by_cases h : ltP y x
    · exact h2 (ltP_trans h h3)
    · have := ltP_tri h1 h
      subst this
      exact h2 h3
theorem totM (x y : Msg) (h1 : ltOf cfM x y = false) (h2 : ltOf cfM y x = false) : x = y := ltP_tri (lt_false.1 h1) (lt_false.1 h2)
theorem agg32 (w : World) : (isAgg 32).run Try.prog w = .ok true w := Try.isAgg32 w
theorem size32 (w : World) : (Go.sizeOf 32).run Try.prog w = .ok 3 w := Try.sizeOf32 w
/-- the sort, at messages -/
theorem sort_any (blk off cap : Nat) (d : Array Msg) (w : World) (hH : HoldsK encM 3 w blk off d) (hblk : blk < w.heap.size) (hsz : d.size < 4611686018427387904) :
    Calls Try.prog 35 #[.slice (some ⟨blk, off, none⟩) d.size cap, .func (.func 32) #[] #[]] w fun e w' => e = .returned (.tuple #[]) ∧ ∃ n os, w' = sortWorldK encM 3 w blk off n (d.toList.mergeSort fun x y => !(ltOf cfM) y x).toArray os :=
  AnyQ.slices_SortFunc_total Try.sl6 3 agg32 size32 encM (fun _ => rfl) (fun x v hv => by simp [encM] at hv; rcases hv with rfl | rfl | rfl <;> rfl) cfM swoM 32 #[] blk off cap d w (enters_of Try.func32 (by kernel_rfl) rfl) (cmpLays blk off d.size w) hH hblk hsz totM
theorem sort_none (p : Option Addr) (cap : Nat) (fv : Value) (w : World) : Calls Try.prog 35 #[.slice p 0 cap, fv] w fun e w' => e = .returned (.tuple #[]) ∧ w' = w :=
  AnyF.slices_SortFunc_none Try.sl6 p cap fv w
end Go.Proofs.Ytecfibabeimjoaa
