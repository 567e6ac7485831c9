import Derived.Test.YtfjoajcfpldniaaKb
namespace Go.Proofs.Ytfjoajcfpldniaa
open Go.RowKit Go.Maps

theorem two_cellsK {w : World} {g : Nat} {a b : Value} {t : TypeId} (hh : w.heap[g]? = some (.cells #[a, b] t (0, 0))) : w.cell? ⟨g, 0, none⟩ = some a ∧ w.cell? ⟨g, 1, none⟩ = some b := by
  refine ⟨?_, ?_⟩ <;> simp [World.cell?, hh]
theorem load_cases {N : Nat} {P : List Fm} {k : Int} {d : ByteArray} (h : (loadR N P k d).2.1 = 0) : (0 ≤ k ∧ k < 1024) ∧ findP P k = none ∧ (((loadR N P k d).1 = -1 ∧ (loadR N P k d).2.2 = P ++ [⟨k, 0, false, d⟩]) ∨ ∃ f, f ∈ P ∧ f.p = 0 ∧ f.y = false ∧ (loadR N P k d).1 = f.b ∧ (loadR N P k d).2.2 = dropP P f.b ++ [⟨k, 0, false, d⟩]) := by
  unfold loadR at *
  split at h
  · simp at h
  · rename_i hb
    rw [if_neg hb]
    have hb' : isB k d = true := by simpa using hb
    obtain ⟨hk0, hk1, _⟩ := of_decide_eq_true hb'
    refine ⟨⟨hk0, hk1⟩, ?_⟩
    cases hf : findP P k with
    | some x => rw [hf] at h; cases h
    | none =>
      rw [hf] at h
      refine ⟨rfl, ?_⟩
      simp only at h ⊢
      split at h
      · rename_i hl
        rw [if_pos hl]
        exact .inl ⟨rfl, rfl⟩
      · rename_i hl
        rw [if_neg hl]
        cases hi : P.find? idleP with
        | none => rw [hi] at h; cases h
        | some f =>
          have h1 := List.find?_some hi
          unfold idleP at h1
          simp at h1
          exact .inr ⟨f, List.mem_of_find?_eq_some hi, h1.1, h1.2, rfl, rfl⟩
theorem load_fail {N : Nat} {P : List Fm} {k : Int} {d : ByteArray} (h : (loadR N P k d).2.1 ≠ 0) : (loadR N P k d).2.2 = P := by
  unfold loadR at *
  split
  · rfl
  · rename_i hb
    rw [if_neg hb] at h
    cases hf : findP P k with
    | some x => rfl
    | none =>
      rw [hf] at h
      simp only at h ⊢
      split
      · rename_i hl
        rw [if_pos hl] at h
        exact absurd rfl h
      · rename_i hl
        rw [if_neg hl] at h
        cases hi : P.find? idleP with
        | none => rfl
        | some f => rw [hi] at h; exact absurd rfl h
theorem find_in {P : List Fm} (hn : (P.map (·.b)).Nodup) {f : Fm} (hf : f ∈ P) : findP P f.b = some f := by
  cases h : findP P f.b with
  | none =>
    unfold findP at h
    rw [List.find?_eq_none] at h
    exact absurd (by simp) (h f hf)
  | some x =>
    obtain ⟨h1, h2⟩ := find_mem h
    rw [fm_b hn h1 hf h2]
theorem fK_new {P : List Fm} {k : Nat} {d : ByteArray} (h : findP P k = none) : fK (P ++ [⟨k, 0, false, d⟩]) = upd (fK P) k (0, d, true) ∧ yK (P ++ [⟨k, 0, false, d⟩]) = yK P := by
  have key := fun j : Nat => find_new (P := P) (f := ⟨(k : Int), 0, false, d⟩) h (j : Int)
  constructor
  · funext j
    unfold fK upd
    rw [key j]
    by_cases e : j = k
    · subst e; simp
    · rw [if_neg (by show ¬ (j : Int) = (k : Int); omega), if_neg e]
  · funext j
    unfold yK
    rw [key j]
    by_cases e : j = k
    · subst e; simp [h]
    · rw [if_neg (by show ¬ (j : Int) = (k : Int); omega)]
theorem fK_swap {P : List Fm} {k ob : Nat} {d : ByteArray} {f : Fm} (h : findP P k = none) (hf : findP P ob = some f) (hy : f.y = false) : fK (dropP P ob ++ [⟨k, 0, false, d⟩]) = upd (upd (fK P) ob (0, ⟨#[]⟩, false)) k (0, d, true) ∧ yK (dropP P ob ++ [⟨k, 0, false, d⟩]) = yK P := by
  have hd : ∀ j : Nat, findP (dropP P ob) j = if j = ob then none else findP P j := fun j => by
    rw [find_drop]
    by_cases e : j = ob
    · rw [if_pos (by omega), if_pos e]
    · rw [if_neg (by omega), if_neg e]
  have hk : findP (dropP P ob) k = none := by
    rw [hd k, h]
    split <;> rfl
  obtain ⟨h1, h2⟩ := fK_new (d := d) hk
  constructor
  · rw [h1]
    congr 1
    funext j
    unfold fK upd
    rw [hd j]
    by_cases e : j = ob
    · rw [if_pos e, if_pos e]
    · rw [if_neg e, if_neg e]
  · rw [h2]
    funext j
    unfold yK
    rw [hd j]
    by_cases e : j = ob
    · subst e; rw [if_pos rfl, hf]; exact hy.symm
    · rw [if_neg e]
theorem fK_look (P : List Fm) (k : Int) : fK (lookR P k).2.2 = fK P ∧ yK (lookR P k).2.2 = yK P := by
  unfold lookR
  cases h : findP P k with
  | none => exact ⟨rfl, rfl⟩
  | some f =>
    obtain ⟨_, rfl⟩ := find_mem h
    have key : ∀ j : Int, findP (dropP P f.b ++ [f]) j = findP P j := fun j => by
      rw [find_redo]
      by_cases e : j = f.b
      · rw [if_pos e, e, h]
      · rw [if_neg e]
    constructor
    · funext j; unfold fK; simp only [key]
    · funext j; unfold yK; simp only [key]
theorem look_at (P : List Fm) (k : Nat) : (lookR P k).1 = (fK P k).2.1 ∧ (lookR P k).2.1 = (fK P k).2.2 := by
  unfold lookR fK
  cases findP P k with
  | none => exact ⟨rfl, rfl⟩
  | some f => exact ⟨rfl, rfl⟩
theorem find_range {P : List Fm} (hr : ∀ f ∈ P, 0 ≤ f.b ∧ f.b < 1024) {k : Int} (hk : ¬ (0 ≤ k ∧ k < 1024)) : findP P k = none := by
  cases h : findP P k with
  | none => rfl
  | some f =>
    obtain ⟨h1, rfl⟩ := find_mem h
    exact absurd (hr f h1) hk
theorem fK_store {P : List Fm} {k : Int} {d : ByteArray} (h : (storeR P k d).1 = 0) : ∃ kk : Nat, k = kk ∧ kk < 1024 ∧ fK (storeR P k d).2 = upd (fK P) kk ((fK P kk).1, d, (fK P kk).2.2) ∧ yK (storeR P k d).2 = upd (yK P) kk true := by
  unfold storeR at *
  split at h
  · simp at h
  · rename_i hb
    rw [if_neg hb]
    have hb' : isB k d = true := by simpa using hb
    obtain ⟨hk0, hk1, _⟩ := of_decide_eq_true hb'
    obtain ⟨kk, rfl⟩ : ∃ kk : Nat, k = kk := ⟨k.toNat, by omega⟩
    refine ⟨kk, rfl, by omega, ?_⟩
    cases hf : findP P (kk : Int) with
    | none => rw [hf] at h; cases h
    | some f =>
      obtain ⟨_, hfb⟩ := find_mem hf
      have key : ∀ j : Nat, findP (dropP P kk ++ [{ f with d := d, y := true }]) j = if j = kk then some { f with d := d, y := true } else findP P j := fun j => by
        have := find_redo P (f := { f with d := d, y := true }) j
        simp only at this
        rw [hfb] at this
        rw [show ({ f with d := d, y := true } : Fm) = ⟨(kk : Int), f.p, true, d⟩ by rw [← hfb], this]
        by_cases e : j = kk
        · rw [if_pos (by omega), if_pos e]
        · rw [if_neg (by omega), if_neg e]
      constructor
      · funext j
        unfold upd
        have hk : fK P kk = (f.p, f.d, true) := by unfold fK; rw [hf]
        rw [hk]
        unfold fK
        show (match findP (dropP P kk ++ [{ f with d := d, y := true }]) j with | some f => (f.p, f.d, true) | none => _) = _
        rw [key j]
        by_cases e : j = kk
        · rw [if_pos e, if_pos e]
        · rw [if_neg e, if_neg e]
          rfl
      · funext j
        unfold upd yK
        show (match findP (dropP P kk ++ [{ f with d := d, y := true }]) j with | some f => f.y | none => false) = _
        rw [key j]
        by_cases e : j = kk
        · rw [if_pos e, if_pos e]
        · rw [if_neg e, if_neg e]
          rfl
theorem fK_set {P : List Fm} {k : Int} {f : Fm} (hr : ∀ f ∈ P, 0 ≤ f.b ∧ f.b < 1024) (hf : findP P k = some f) (p : Int) : ∃ kk : Nat, k = kk ∧ kk < 1024 ∧ (fK P kk).1 = f.p ∧ fK (setP P { f with p := p }) = upd (fK P) kk (p, (fK P kk).2) ∧ yK (setP P { f with p := p }) = yK P := by
  obtain ⟨hm, rfl⟩ := find_mem hf
  have := hr f hm
  obtain ⟨kk, hkk⟩ : ∃ kk : Nat, f.b = kk := ⟨f.b.toNat, by omega⟩
  have key : ∀ j : Nat, findP (setP P { f with p := p }) j = if j = kk then some { f with p := p } else findP P j := fun j => by
    have := find_set (f := { f with p := p }) (f0 := f) (P := P) hf j
    rw [this]
    show (if (j : Int) = f.b then _ else _) = _
    rw [hkk]
    by_cases e : j = kk
    · rw [if_pos (by omega), if_pos e]
    · rw [if_neg (by omega), if_neg e]
  rw [hkk] at hf
  have hk : fK P kk = (f.p, f.d, true) := by unfold fK; rw [hf]
  refine ⟨kk, hkk, by omega, by rw [hk], ?_, ?_⟩
  · funext j
    unfold upd
    rw [hk]
    unfold fK
    rw [key j]
    by_cases e : j = kk
    · rw [if_pos e, if_pos e]
    · rw [if_neg e, if_neg e]
  · funext j
    unfold yK
    rw [key j]
    by_cases e : j = kk
    · subst e; rw [if_pos rfl, hf]
    · rw [if_neg e]
def yS (y : Nat → Bool) (S : List Fm) : Nat → Bool := S.foldl (fun y f => upd y f.b.toNat false) y
theorem yS_snoc (y : Nat → Bool) (S : List Fm) (f : Fm) : yS y (S ++ [f]) = upd (yS y S) f.b.toNat false := by
  unfold yS
  rw [List.foldl_append]
  rfl
theorem yS_at : ∀ (S : List Fm) (y : Nat → Bool) (j : Nat), yS y S j = if S.any (fun s => s.b.toNat == j) then false else y j
  | [], y, j => rfl
  | f :: S, y, j => by
    show yS (upd y f.b.toNat false) S j = _
    rw [yS_at S, List.any_cons]
    unfold upd
    by_cases e : f.b.toNat = j
    · have e1 : (f.b.toNat == j) = true := by simp [e]
      rw [e1, Bool.true_or, if_pos rfl]
      split
      · rfl
      · rw [if_pos e.symm]
    · have e1 : (f.b.toNat == j) = false := by simp [e]
      rw [e1, Bool.false_or]
      split
      · rfl
      · rw [if_neg (Ne.symm e)]
theorem fK_clear {P S : List Fm} (hr : ∀ f ∈ P, 0 ≤ f.b ∧ f.b < 1024) (hS : ∀ f ∈ S, f ∈ P) : fK (clearP P S) = fK P ∧ yK (clearP P S) = yS (yK P) S := by
  constructor
  · funext j
    unfold fK
    rw [find_clear]
    cases h : findP P (j : Int) with
    | none => rfl
    | some f =>
      show ((if S.any (fun s => s.b == f.b) then { f with y := false } else f : Fm).p, (if S.any (fun s => s.b == f.b) then { f with y := false } else f : Fm).d, true) = (f.p, f.d, true)
      split <;> rfl
  · funext j
    rw [yS_at]
    unfold yK
    rw [find_clear]
    cases h : findP P (j : Int) with
    | none => simp
    | some f =>
      obtain ⟨_, hfb⟩ := find_mem h
      have e : S.any (fun s => s.b.toNat == j) = S.any (fun s => s.b == f.b) := by
        rw [Bool.eq_iff_iff, List.any_eq_true, List.any_eq_true]
        constructor
        · rintro ⟨s, hs, hj⟩
          have := hr s (hS s hs)
          simp at hj
          exact ⟨s, hs, by simp; omega⟩
        · rintro ⟨s, hs, hj⟩
          have := hr s (hS s hs)
          simp at hj
          exact ⟨s, hs, by simp; omega⟩
      rw [e]
      show (if S.any (fun s => s.b == f.b) then { f with y := false } else f : Fm).y = _
      split <;> rfl
/-- between two steps -/
structure KQ (W : World) (g a1 a2 : Nat) (w : World) (N J : Nat) (P : List Fm) (f : Nat → Int × ByteArray × Bool) (y : Nat → Bool) : Prop where
  cc : CC W.heap.size g w N J P
  s1 : KF w a1 f
  s2 : DF w a2 y
  ne : a1 ≠ a2
  b1 : W.heap.size ≤ a1
  b2 : W.heap.size ≤ a2
  be : Below W.heap.size W w
section
variable {W : World} {g a1 a2 : Nat} {w w' : World} {N J : Nat} {P : List Fm} {f : Nat → Int × ByteArray × Bool} {y : Nat → Bool}
theorem KQ.below (h : KQ W g a1 a2 w N J P f y) (k : Below w.heap.size w w') : KQ W g a1 a2 w' N J P f y :=
  ⟨h.cc.below k, h.s1.same (k.block _ h.s1.lt), h.s2.same (k.block _ h.s2.lt), h.ne, h.b1, h.b2, h.be.next k⟩
theorem KQ.step {J' : Nat} {P' : List Fm} (h : KQ W g a1 a2 w N J P f y) (hc : CC W.heap.size g w' N J' P') (ho : OC w w') (hb : Below W.heap.size w w') : KQ W g a1 a2 w' N J' P' f y :=
  ⟨hc, h.s1.oc ho, h.s2.oc ho, h.ne, h.b1, h.b2, h.be.trans hb⟩
theorem KQ.more {J' : Nat} (h : KQ W g a1 a2 w N J P f y) (hj : J ≤ J') (hj2 : J' ≤ 90000) : KQ W g a1 a2 w N J' P f y :=
  ⟨h.cc.more hj hj2, h.s1, h.s2, h.ne, h.b1, h.b2, h.be⟩
theorem KQ.drew (h : KQ W g a1 a2 w N J P f y) (n : Nat) : KQ W g a1 a2 (w.drewN n) N J P f y := h.below ⟨rfl, rfl, rfl, Nat.le_refl _, fun _ _ => rfl⟩
theorem KQ.kset (h : KQ W g a1 a2 w N J P f y) {f' : Nat → Int × ByteArray × Bool} {o : Nat} {v : Value} (hk : KF (w.setCell ⟨a1, o, none⟩ v) a1 f') : KQ W g a1 a2 (w.setCell ⟨a1, o, none⟩ v) N J P f' y := by
  obtain ⟨cur, h1, _⟩ := h.s1
  exact ⟨h.cc.other h1 (by decide) (by decide) v, hk, h.s2.same (Below.heap_setCell _ _ _ _ h.ne.symm), h.ne, h.b1, h.b2, h.be.setCell h.b1 _⟩
theorem KQ.dset (h : KQ W g a1 a2 w N J P f y) (j : Nat) (b : Bool) : KQ W g a1 a2 (w.setCell ⟨a2, j, none⟩ (.bool b)) N J P f (upd y j b) := by
  obtain ⟨cur, h1, _⟩ := h.s2
  exact ⟨h.cc.other h1 (by decide) (by decide) _, h.s1.same (Below.heap_setCell _ _ _ _ h.ne), h.s2.set j b, h.ne, h.b1, h.b2, h.be.setCell h.b2 _⟩
theorem KQ.set (h : KQ W g a1 a2 w N J P f y) (j : Nat) (p : Int) (d : ByteArray) (b : Bool) : KQ W g a1 a2 (((w.setCell ⟨a1, j * 3, none⟩ (.int .i64 p)).setCell ⟨a1, j * 3 + 1, none⟩ (.string d)).setCell ⟨a1, j * 3 + 2, none⟩ (.bool b)) N J P (upd f j (p, d, b)) y := by
  have h1 := h.kset (h.s1.set0 j p)
  have h2 := h1.kset (h1.s1.set1 j d)
  have h3 := h2.kset (h2.s1.set2 j b)
  simpa only [upd_upd, upd_at] using h3
theorem KQ.other (h : KQ W g a1 a2 w N J P f y) {x o : Nat} {cs : Array Value} (hx : w.heap[x]? = some (.cells cs 42 (0, 0))) (hb : W.heap.size ≤ x) (v : Value) : KQ W g a1 a2 (w.setCell ⟨x, o, none⟩ v) N J P f y := by
  have n1 : a1 ≠ x := by
    rintro rfl
    obtain ⟨cur, h1, _⟩ := h.s1
    rw [h1] at hx
    simp at hx
  have n2 : a2 ≠ x := by
    rintro rfl
    obtain ⟨cur, h1, _⟩ := h.s2
    rw [h1] at hx
    simp at hx
  exact ⟨h.cc.other hx (by decide) (by decide) v, h.s1.same (Below.heap_setCell _ _ _ _ n1), h.s2.same (Below.heap_setCell _ _ _ _ n2), h.ne, h.b1, h.b2, h.be.setCell hb _⟩
end
theorem CLie.df {w : World} {v : Value} {l : List Chg} (h : CLie w v l) {a : Nat} {y : Nat → Bool} (hs : DF w a y) (o : Nat) (x : Value) : CLie (w.setCell ⟨a, o, none⟩ x) v l := by
  obtain ⟨cur0, h0, _⟩ := hs
  obtain ⟨ao, cap, e, h1, h2, h3⟩ := h
  refine ⟨ao, cap, e, h1, h2, fun i hi => ?_⟩
  obtain ⟨gb, off, cur, e, hg, c⟩ := h3 i hi
  refine ⟨gb, off, cur, e, (Below.heap_setCell _ _ _ _ ?_).trans hg, c⟩
  intro e
  simp only at e
  rw [e, h0] at hg
  simp at hg
theorem kindk (K : Int) : (K = 0 ∨ K = 1) ∨ K = 2 ∨ K = 3 ∨ K = 4 ∨ K = 5 ∨ (K ≠ 0 ∧ K ≠ 1 ∧ K ≠ 2 ∧ K ≠ 3 ∧ K ≠ 4 ∧ K ≠ 5) := by omega
end Go.Proofs.Ytfjoajcfpldniaa
