import Derived.Test.YtfjoajcfpldniaaAr
namespace Go.Proofs.Ytfjoajcfpldniaa
open Go.RowKit Go.Maps

theorem zc43 : Try.zeroCells43 = ((List.replicate 1024 [Value.int .i64 0, .string ⟨#[]⟩, .bool false]).flatten).toArray := by kernel_rfl
theorem zc44 : Try.zeroCells44 = Array.replicate 1024 (.bool false) := by kernel_rfl
def upd {α : Type} (f : Nat → α) (j : Nat) (v : α) : Nat → α := fun i => if i = j then v else f i
/-- what is known of each block: its pins, its content, whether it is there -/
def KF (w : World) (a : Nat) (f : Nat → Int × ByteArray × Bool) : Prop := ∃ cur, w.heap[a]? = some (.cells cur 43 (0, 0)) ∧ cur.size = 3072 ∧ ∀ j, j < 1024 → cur[j * 3]? = some (.int .i64 (f j).1) ∧ cur[j * 3 + 1]? = some (.string (f j).2.1) ∧ cur[j * 3 + 2]? = some (.bool (f j).2.2)
def DF (w : World) (a : Nat) (y : Nat → Bool) : Prop := ∃ cur, w.heap[a]? = some (.cells cur 44 (0, 0)) ∧ cur.size = 1024 ∧ ∀ j, j < 1024 → cur[j]? = some (.bool (y j))
theorem flat3 (a b c : Value) : ∀ (n j : Nat), j < n → ((List.replicate n [a, b, c]).flatten)[j * 3]? = some a ∧ ((List.replicate n [a, b, c]).flatten)[j * 3 + 1]? = some b ∧ ((List.replicate n [a, b, c]).flatten)[j * 3 + 2]? = some c
  | 0, j, h => by omega
  | n + 1, 0, _ => ⟨rfl, rfl, rfl⟩
  | n + 1, j + 1, h => by
    have ih := flat3 a b c n j (by omega)
    rw [List.replicate_succ, List.flatten_cons]
    have e : ∀ t, (([a, b, c] : List Value) ++ (List.replicate n [a, b, c]).flatten)[t + 3]? = ((List.replicate n [a, b, c]).flatten)[t]? := fun t => rfl
    rw [show (j + 1) * 3 = j * 3 + 3 by omega, show j * 3 + 3 + 1 = j * 3 + 1 + 3 by omega, show j * 3 + 3 + 2 = j * 3 + 2 + 3 by omega, e, e, e]
    exact ih
theorem KF.new (w : World) : KF (w.alloc (.cells Try.zeroCells43 43)) w.heap.size (fun _ => (0, ⟨#[]⟩, false)) := by
  refine ⟨_, box_at _ _, ?_, fun j hj => ?_⟩
  · have : Try.zeroCells43.size = 3072 := by kernel_rfl
    exact this
  · rw [zc43]
    simp only [List.getElem?_toArray]
    exact flat3 _ _ _ 1024 j hj
theorem DF.new (w : World) : DF (w.alloc (.cells Try.zeroCells44 44)) w.heap.size (fun _ => false) := by
  refine ⟨_, box_at _ _, by rw [zc44, Array.size_replicate], fun j hj => ?_⟩
  rw [zc44, Array.getElem?_replicate, if_pos hj]
section
variable {w w' : World} {a : Nat} {f : Nat → Int × ByteArray × Bool} {y : Nat → Bool}
theorem KF.lt (h : KF w a f) : a < w.heap.size := by obtain ⟨cur, h1, _⟩ := h; exact lt_of_block h1
theorem DF.lt (h : DF w a y) : a < w.heap.size := by obtain ⟨cur, h1, _⟩ := h; exact lt_of_block h1
theorem KF.same (h : KF w a f) (k : w'.heap[a]? = w.heap[a]?) : KF w' a f := by obtain ⟨cur, h1, h2⟩ := h; exact ⟨cur, k.trans h1, h2⟩
theorem DF.same (h : DF w a y) (k : w'.heap[a]? = w.heap[a]?) : DF w' a y := by obtain ⟨cur, h1, h2⟩ := h; exact ⟨cur, k.trans h1, h2⟩
theorem KF.oc (h : KF w a f) (k : OC w w') : KF w' a f := by
  have h0 := h
  obtain ⟨cur, h1, _⟩ := h
  exact h0.same (k.block a _ _ h1 (by decide) (by decide))
theorem DF.oc (h : DF w a y) (k : OC w w') : DF w' a y := by
  have h0 := h
  obtain ⟨cur, h1, _⟩ := h
  exact h0.same (k.block a _ _ h1 (by decide) (by decide))
theorem KF.cell (h : KF w a f) (j : Nat) (hj : j < 1024) : w.cell? ⟨a, j * 3, none⟩ = some (.int .i64 (f j).1) ∧ w.cell? ⟨a, j * 3 + 1, none⟩ = some (.string (f j).2.1) ∧ w.cell? ⟨a, j * 3 + 2, none⟩ = some (.bool (f j).2.2) := by
  obtain ⟨cur, h1, h2, h3⟩ := h
  obtain ⟨e0, e1, e2⟩ := h3 j hj
  exact ⟨(cell_of h1 _).trans e0, (cell_of h1 _).trans e1, (cell_of h1 _).trans e2⟩
theorem DF.cell (h : DF w a y) (j : Nat) (hj : j < 1024) : w.cell? ⟨a, j, none⟩ = some (.bool (y j)) := by
  obtain ⟨cur, h1, h2, h3⟩ := h
  exact (cell_of h1 _).trans (h3 j hj)
theorem KF.free (h : KF w a f) (i : Nat) : w.frozen? ⟨a, i, none⟩ = false := by obtain ⟨cur, h1, _⟩ := h; exact frees h1 i
theorem DF.free (h : DF w a y) (i : Nat) : w.frozen? ⟨a, i, none⟩ = false := by obtain ⟨cur, h1, _⟩ := h; exact frees h1 i
theorem DF.set (h : DF w a y) (j : Nat) (b : Bool) : DF (w.setCell ⟨a, j, none⟩ (.bool b)) a (upd y j b) := by
  obtain ⟨cur, h1, h2, h3⟩ := h
  refine ⟨_, cells_set h1 _, by simp [h2], fun i hi => ?_⟩
  rw [Array.set!_eq_setIfInBounds]
  unfold upd
  by_cases e : i = j
  · subst e
    rw [if_pos rfl, Array.getElem?_setIfInBounds_self_of_lt (by omega)]
  · rw [if_neg e, Array.getElem?_setIfInBounds_ne (by omega)]
    exact h3 i hi
theorem KF.set0 (h : KF w a f) (j : Nat) (p : Int) : KF (w.setCell ⟨a, j * 3, none⟩ (.int .i64 p)) a (upd f j (p, (f j).2)) := by
  obtain ⟨cur, h1, h2, h3⟩ := h
  refine ⟨_, cells_set h1 _, by simp [h2], fun i hi => ?_⟩
  rw [Array.set!_eq_setIfInBounds]
  obtain ⟨e0, e1, e2⟩ := h3 i hi
  unfold upd
  by_cases e : i = j
  · subst e
    rw [if_pos rfl, Array.getElem?_setIfInBounds_self_of_lt (by omega), Array.getElem?_setIfInBounds_ne (by omega), Array.getElem?_setIfInBounds_ne (by omega)]
    exact ⟨rfl, e1, e2⟩
  · rw [if_neg e, Array.getElem?_setIfInBounds_ne (by omega), Array.getElem?_setIfInBounds_ne (by omega), Array.getElem?_setIfInBounds_ne (by omega)]
    exact ⟨e0, e1, e2⟩
theorem KF.set1 (h : KF w a f) (j : Nat) (d : ByteArray) : KF (w.setCell ⟨a, j * 3 + 1, none⟩ (.string d)) a (upd f j ((f j).1, d, (f j).2.2)) := by
  obtain ⟨cur, h1, h2, h3⟩ := h
  refine ⟨_, cells_set h1 _, by simp [h2], fun i hi => ?_⟩
  rw [Array.set!_eq_setIfInBounds]
  obtain ⟨e0, e1, e2⟩ := h3 i hi
  unfold upd
  by_cases e : i = j
  · subst e
    rw [if_pos rfl, Array.getElem?_setIfInBounds_self_of_lt (by omega), Array.getElem?_setIfInBounds_ne (by omega), Array.getElem?_setIfInBounds_ne (by omega)]
    exact ⟨e0, rfl, e2⟩
  · rw [if_neg e, Array.getElem?_setIfInBounds_ne (by omega), Array.getElem?_setIfInBounds_ne (by omega), Array.getElem?_setIfInBounds_ne (by omega)]
    exact ⟨e0, e1, e2⟩
theorem KF.set2 (h : KF w a f) (j : Nat) (b : Bool) : KF (w.setCell ⟨a, j * 3 + 2, none⟩ (.bool b)) a (upd f j ((f j).1, (f j).2.1, b)) := by
  obtain ⟨cur, h1, h2, h3⟩ := h
  refine ⟨_, cells_set h1 _, by simp [h2], fun i hi => ?_⟩
  rw [Array.set!_eq_setIfInBounds]
  obtain ⟨e0, e1, e2⟩ := h3 i hi
  unfold upd
  by_cases e : i = j
  · subst e
    rw [if_pos rfl, Array.getElem?_setIfInBounds_self_of_lt (by omega), Array.getElem?_setIfInBounds_ne (by omega), Array.getElem?_setIfInBounds_ne (by omega)]
    exact ⟨e0, e1, rfl⟩
  · rw [if_neg e, Array.getElem?_setIfInBounds_ne (by omega), Array.getElem?_setIfInBounds_ne (by omega), Array.getElem?_setIfInBounds_ne (by omega)]
    exact ⟨e0, e1, e2⟩
theorem upd_upd {α : Type} (f : Nat → α) (j : Nat) (u v : α) : upd (upd f j u) j v = upd f j v := by
  funext i
  unfold upd
  by_cases e : i = j
  · rw [if_pos e, if_pos e]
  · rw [if_neg e, if_neg e, if_neg e]
theorem upd_at {α : Type} (f : Nat → α) (j : Nat) (v : α) : upd f j v j = v := by unfold upd; rw [if_pos rfl]
theorem KF.set (h : KF w a f) (j : Nat) (p : Int) (d : ByteArray) (b : Bool) : KF (((w.setCell ⟨a, j * 3, none⟩ (.int .i64 p)).setCell ⟨a, j * 3 + 1, none⟩ (.string d)).setCell ⟨a, j * 3 + 2, none⟩ (.bool b)) a (upd f j (p, d, b)) := by
  have := ((h.set0 j p).set1 j d).set2 j b
  simpa only [upd_upd, upd_at] using this
end
/-- what the law knows, and what is so -/
def fK (P : List Fm) (j : Nat) : Int × ByteArray × Bool :=
  match findP P j with
  | some f => (f.p, f.d, true)
  | none => (0, ⟨#[]⟩, false)
def yK (P : List Fm) (j : Nat) : Bool :=
  match findP P j with
  | some f => f.y
  | none => false
theorem find_mem {P : List Fm} {k : Int} {f : Fm} (h : findP P k = some f) : f ∈ P ∧ f.b = k := by
  unfold findP at h
  exact ⟨List.mem_of_find?_eq_some h, by simpa using List.find?_some h⟩
theorem find_new {P : List Fm} {f : Fm} (hno : findP P f.b = none) (j : Int) : findP (P ++ [f]) j = if j = f.b then some f else findP P j := by
  unfold findP at *
  rw [List.find?_append]
  by_cases e : j = f.b
  · subst e
    rw [if_pos rfl, hno]
    simp
  · rw [if_neg e]
    cases h : P.find? (fun x => x.b == j) with
    | some x => rfl
    | none => simp [Ne.symm e]
theorem find_drop (P : List Fm) (b j : Int) : findP (dropP P b) j = if j = b then none else findP P j := by
  unfold findP dropP
  by_cases e : j = b
  · subst e
    rw [if_pos rfl, List.find?_eq_none]
    intro x hx
    simpa using (List.mem_filter.1 hx).2
  · rw [if_neg e, List.find?_filter]
    congr 1
    funext x
    by_cases e2 : x.b = j
    · simp [e2, e]
    · simp [e2]
theorem find_redo (P : List Fm) {f : Fm} (j : Int) : findP (dropP P f.b ++ [f]) j = if j = f.b then some f else findP P j := by
  rw [find_new (by rw [find_drop, if_pos rfl]), find_drop]
  by_cases e : j = f.b
  · rw [if_pos e, if_pos e]
  · rw [if_neg e, if_neg e, if_neg e]
theorem find_set {f f0 : Fm} : ∀ {P : List Fm}, findP P f.b = some f0 → ∀ j : Int, findP (setP P f) j = if j = f.b then some f else findP P j
  | [], h, j => by cases h
  | x :: P, h, j => by
    unfold findP setP at *
    rw [List.map_cons, List.find?_cons, List.find?_cons]
    rw [List.find?_cons] at h
    by_cases e : x.b = f.b
    · have e1 : (x.b == f.b) = true := by simp [e]
      rw [if_pos e1]
      by_cases ej : j = f.b
      · subst ej
        rw [if_pos rfl]
        simp
      · rw [if_neg ej]
        have e2 : (f.b == j) = false := by simp [Ne.symm ej]
        have e3 : (x.b == j) = false := by rw [e]; exact e2
        rw [e2, e3]
        simp only
        -- what is behind: whatever has another block is as it was
        have key : ∀ Q : List Fm, (Q.map (fun x => if x.b == f.b then f else x)).find? (fun x => x.b == j) = Q.find? (fun x => x.b == j) := by
          intro Q
          induction Q with
          | nil => rfl
          | cons y Q ih =>
            rw [List.map_cons, List.find?_cons, List.find?_cons, ih]
            by_cases ey : y.b = f.b
            · rw [if_pos (by simp [ey]), e2]
              have : (y.b == j) = false := by rw [ey]; exact e2
              rw [this]
            · rw [if_neg (by simp [ey])]
        exact key P
    · have e1 : (x.b == f.b) = false := by simp [e]
      rw [e1] at h
      rw [if_neg (by simp [e])]
      have ih := find_set (f := f) (f0 := f0) (P := P) h j
      unfold findP setP at ih
      rw [ih]
      by_cases ej : j = f.b
      · subst ej
        rw [e1]
      · rw [if_neg ej, if_neg ej]
theorem find_clear (S : List Fm) : ∀ (P : List Fm) (j : Int), findP (clearP P S) j = (findP P j).map (fun x => if S.any (fun s => s.b == x.b) then { x with y := false } else x)
  | [], j => rfl
  | x :: P, j => by
    have ih := find_clear S P j
    unfold findP clearP at *
    rw [List.map_cons, List.find?_cons, List.find?_cons, ih]
    have hb : (if S.any (fun s => s.b == x.b) then { x with y := false } else x : Fm).b = x.b := by split <;> rfl
    rw [hb]
    cases x.b == j
    · rfl
    · rfl
end Go.Proofs.Ytfjoajcfpldniaa
