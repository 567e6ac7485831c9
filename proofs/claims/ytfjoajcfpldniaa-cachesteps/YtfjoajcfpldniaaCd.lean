import Derived.Test.YtfjoajcfpldniaaCc
import Derived.Test.YtfjoajcfpldniaaSo
namespace Go.Proofs.Ytfjoajcfpldniaa
open Go.RowKit Go.Maps Go.Sort Go.Shelf

/-- a frame: where it lies, its block, its pins, whether it is dirty, its last use, its content -/
structure Fr where
  a : Nat
  b : Int
  p : Int
  y : Bool
  u : Int
  d : ByteArray
instance : Inhabited Fr := ⟨⟨0, 0, 0, false, 0, ⟨#[]⟩⟩⟩
def FIs (w : World) (f : Fr) : Prop := w.heap[f.a]? = some (.cells #[.int .i64 f.p, .bool f.y, .int .i64 f.u, .int .i64 f.b, .string f.d] 73 (0, 0))
theorem FIs.cells {w : World} {f : Fr} (h : FIs w f) : w.cell? ⟨f.a, 0, none⟩ = some (.int .i64 f.p) ∧ w.cell? ⟨f.a, 1, none⟩ = some (.bool f.y) ∧ w.cell? ⟨f.a, 2, none⟩ = some (.int .i64 f.u) ∧ w.cell? ⟨f.a, 3, none⟩ = some (.int .i64 f.b) ∧ w.cell? ⟨f.a, 4, none⟩ = some (.string f.d) := by
  unfold FIs at h
  refine ⟨?_, ?_, ?_, ?_, ?_⟩ <;> simp [World.cell?, h]
theorem FIs.lt {w : World} {f : Fr} (h : FIs w f) : f.a < w.heap.size := lt_of_block h
theorem FIs.free {w : World} {f : Fr} (h : FIs w f) (i : Nat) : w.frozen? ⟨f.a, i, none⟩ = false := frees h i
theorem FIs.same {w w' : World} {f : Fr} (h : FIs w f) (k : w'.heap[f.a]? = w.heap[f.a]?) : FIs w' f := k.trans h
theorem isNaN_i (a : Int) (w : World) : Calls Try.prog 53 #[.int .i64 a] w fun e w' => e = .returned (.bool false) ∧ w' = w := by
  go_enter Try.func53, Try.ntmps53
  go_wp2
  go_ret
  exact ⟨by simp, rfl⟩
def cmpI (a b : Int) : Int := if a < b then -1 else if b < a then 1 else 0
theorem compare_i (a b : Int) (w : World) : Calls Try.prog 45 #[.int .i64 a, .int .i64 b] w fun e w' => e = .returned (.int .i64 (cmpI a b)) ∧ w' = w := by
  unfold cmpI
  by_cases h1 : a < b
  · rw [if_pos h1]
    go_enter Try.func45, Try.ntmps45
    go_wp2_with (first | (go_at_call 53; refine (isNaN_i _ _).mono ?_; rintro e w1 ⟨rfl, hw⟩; have hw := hw.symm; subst hw))
    go_ret
    exact ⟨rfl, rfl⟩
  · rw [if_neg h1]
    by_cases h2 : b < a
    · rw [if_pos h2]
      go_enter Try.func45, Try.ntmps45
      go_wp2_with (first | (go_at_call 53; refine (isNaN_i _ _).mono ?_; rintro e w1 ⟨rfl, hw⟩; have hw := hw.symm; subst hw))
      go_ret
      exact ⟨rfl, rfl⟩
    · rw [if_neg h2]
      go_enter Try.func45, Try.ntmps45
      go_wp2_with (first | (go_at_call 53; refine (isNaN_i _ _).mono ?_; rintro e w1 ⟨rfl, hw⟩; have hw := hw.symm; subst hw))
      go_ret
      exact ⟨rfl, rfl⟩
theorem byUse_any (x y : Fr) (w : World) (hx : FIs w x) (hy : FIs w y) : Calls Try.prog 32 #[ptr x.a, ptr y.a] w fun e w' => e = .returned (.int .i64 (cmpI x.u y.u)) ∧ ∃ q, w' = w.drewN q := by
  obtain ⟨_, _, x2, _, _⟩ := hx.cells
  obtain ⟨_, _, y2, _, _⟩ := hy.cells
  have lx := hx.lt
  have ly := hy.lt
  unfold ptr
  go_enter Try.func32, Try.ntmps32
  go_wp2
  go_quiet ((go_at_call 45; exact Calls.quiet_of_same (compare_i _ _ _)))
  go_wp2
  go_ret
  exact ⟨rfl, _, rfl⟩
theorem byBlock_any (x y : Fr) (w : World) (hx : FIs w x) (hy : FIs w y) : Calls Try.prog 47 #[ptr x.a, ptr y.a] w fun e w' => e = .returned (.int .i64 (cmpI x.b y.b)) ∧ ∃ q, w' = w.drewN q := by
  obtain ⟨_, _, _, x2, _⟩ := hx.cells
  obtain ⟨_, _, _, y2, _⟩ := hy.cells
  have lx := hx.lt
  have ly := hy.lt
  unfold ptr
  go_enter Try.func47, Try.ntmps47
  go_wp2
  go_quiet ((go_at_call 45; exact Calls.quiet_of_same (compare_i _ _ _)))
  go_wp2
  go_ret
  exact ⟨rfl, _, rfl⟩
theorem cmpI_neg (a b : Int) : cmpI a b < 0 ↔ a < b := by unfold cmpI; split <;> (try split) <;> omega
/-- a comparison of frames by a number of theirs -/
structure By (by_ : Nat) (key : Fr → Int) : Prop where
  enters : ∀ args w, (callFunc by_ args).run Try.prog w = .ok (.enter by_ args) w
  cmp : ∀ (x y : Fr) (w : World), FIs w x → FIs w y → Calls Try.prog by_ #[ptr x.a, ptr y.a] w fun e w' => e = .returned (.int .i64 (cmpI (key x) (key y))) ∧ ∃ q, w' = w.drewN q
theorem by_use : By 32 (·.u) := ⟨enters_of Try.func32 (by kernel_rfl) rfl, byUse_any⟩
theorem by_block : By 47 (·.b) := ⟨enters_of Try.func47 (by kernel_rfl) rfl, byBlock_any⟩
section
variable {L : List Fr} (key : Fr → Int)
abbrev El (L : List Fr) := { f : Fr // f ∈ L }
def encF (x : El L) : Value := ptr x.1.a
def cfF (x y : El L) : Int := cmpI (key x.1) (key y.1)
theorem lt_iff (x y : El L) : ltOf (cfF key) x y = true ↔ key x.1 < key y.1 := by
  unfold ltOf cfF
  rw [decide_eq_true_eq, cmpI_neg]
theorem lt_false {x y : El L} : ltOf (cfF key) x y = false ↔ ¬ key x.1 < key y.1 := by
  rw [← lt_iff]; simp
theorem swoF : SWO (ltOf (cfF (L := L) key)) where
  irrefl x := (lt_false key).2 (by omega)
  trans x y z h1 h2 := (lt_iff key _ _).2 (by have := (lt_iff key _ _).1 h1; have := (lt_iff key _ _).1 h2; omega)
  ntrans x y z h1 h2 := by
    rw [lt_false] at *
    omega
end
theorem heap_sorted_other {α : Type} [Inhabited α] (enc : α → Value) {w : World} {blk off m k : Nat} {dk : Array α} {os : Array Obj} (hk : k < w.heap.size) (hne : k ≠ blk) : (sortWorld enc w blk off m dk os).heap[k]? = w.heap[k]? := by
  unfold sortWorld
  rw [heap_grow_old _ _ (by simpa [putRow, mapBlock, Sort.ahead] using hk)]
  simp [putRow, mapBlock, Sort.ahead, Array.getElem?_modify, Ne.symm hne]
theorem grownBy_sorted {α : Type} [Inhabited α] (enc : α → Value) {w : World} {g n : Nat} {os : Array Obj} (d : Array α) : w.grownBy (sortWorld enc w g 0 n d os) (some g) := by
  refine ⟨rfl, rfl, rfl, ?_, fun k hk hne => heap_sorted_other enc hk (fun e => hne (by rw [e]))⟩
  simp [sortWorld, grow, putRow, mapBlock, Sort.ahead]
theorem heap_sorted {α : Type} [Inhabited α] (enc : α → Value) {w : World} {g n : Nat} {os : Array Obj} {cur : Array Value} {e : TypeId} (d : Array α) (hb : w.heap[g]? = some (.cells cur e (0, 0))) :
    (sortWorld enc w g 0 n d os).heap[g]? = some (.cells (putCells enc 0 d cur) e (0, 0)) := by
  have hg : g < w.heap.size := (Array.getElem?_eq_some_iff.1 hb).1
  unfold sortWorld
  rw [heap_grow_old _ _ (by simpa [putRow, mapBlock, Sort.ahead] using hg)]
  simp [putRow, mapBlock, Sort.ahead, Array.getElem?_modify, hb, onCells]
/-- frames' pointers, as cells -/
def pp (l : List Fr) : List Value := l.map (fun f => ptr f.a)
theorem pp_len (l : List Fr) : (pp l).length = l.length := by simp [pp]
def ent (f : Fr) : Ent := ⟨f.b, f.a⟩
theorem pp_ent (l : List Fr) : cc (l.map ent) = pp l := by simp [cc, pp, valE, ent]
theorem perm_lift {α β : Type} (f : α → β) {s t : List β} (h : s.Perm t) : ∀ L : List α, t = L.map f → ∃ K : List α, K.Perm L ∧ s = K.map f := by
  induction h with
  | nil => intro L e; exact ⟨[], by cases L <;> simp_all, rfl⟩
  | @cons x s t _ ih =>
    intro L e
    cases L with
    | nil => cases e
    | cons l L =>
      rw [List.map_cons] at e
      injection e with e1 e2
      obtain ⟨K, hK, rfl⟩ := ih L e2
      exact ⟨l :: K, hK.cons l, by rw [List.map_cons, e1]⟩
  | swap x y t =>
    intro L e
    match L, e with
    | l1 :: l2 :: L, e =>
      rw [List.map_cons, List.map_cons] at e
      injection e with e1 e2
      injection e2 with e2 e3
      exact ⟨l2 :: l1 :: L, List.Perm.swap _ _ _, by rw [List.map_cons, List.map_cons, e1, e2, e3]⟩
  | trans _ _ ih1 ih2 =>
    intro L e
    obtain ⟨K, hK, e2⟩ := ih2 L e
    obtain ⟨K', hK', e3⟩ := ih1 K e2
    exact ⟨K', hK'.trans hK, e3⟩
theorem sorted_one {key : Fr → Int} {T K : List Fr} (hp : T.Perm K) (hT : T.Pairwise (fun x y => key x ≤ key y)) (hK : K.Pairwise (fun x y => key x < key y)) : T = K := by
  have inj : ∀ {K : List Fr}, K.Pairwise (fun x y => key x < key y) → ∀ a b, a ∈ K → b ∈ K → key a = key b → a = b := by
    intro K hK
    induction K with
    | nil => intro a b ha; cases ha
    | cons z K ih =>
      rw [List.pairwise_cons] at hK
      intro a b ha hb e
      rcases List.mem_cons.1 ha with e1 | ha1
      · rcases List.mem_cons.1 hb with e2 | hb1
        · rw [e1, e2]
        · have := hK.1 b hb1; rw [e1] at e; omega
      · rcases List.mem_cons.1 hb with e2 | hb1
        · have := hK.1 a ha1; rw [e2] at e; omega
        · exact ih hK.2 a b ha1 hb1 e
  refine List.Perm.eq_of_pairwise (le := fun x y => key x ≤ key y) (fun a b ha hb h1 h2 => inj hK a b (hp.mem_iff.1 ha) hb (by omega)) hT (hK.imp (by intro a b h; omega)) hp
theorem perm_of_in {α : Type} [Inhabited α] {d d' : Array α} (h : PermIn 0 d.size d d') : d'.toList.Perm d.toList := by
  obtain ⟨h1, _, h3⟩ := h
  rw [← h1] at h3
  simp only [Array.extract_size] at h3
  rw [h1] at h3
  simpa using h3
end Go.Proofs.Ytfjoajcfpldniaa
