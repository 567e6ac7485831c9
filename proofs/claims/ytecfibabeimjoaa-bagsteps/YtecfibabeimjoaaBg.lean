import Derived.Test.YtecfibabeimjoaaBm
namespace Go.Proofs.Ytecfibabeimjoaa
open Go.RowKit Go.Maps

/-- nothing but the blocks of fp has changed -/
structure Only (fp : List Nat) (w w' : World) : Prop where
  os : w'.os = w.os
  tape : w'.tape = w.tape
  output : w'.output = w.output
  size : w.heap.size ≤ w'.heap.size
  block : ∀ k, k < w.heap.size → k ∉ fp → w'.heap[k]? = w.heap[k]?
theorem Only.refl (fp : List Nat) (w : World) : Only fp w w := ⟨rfl, rfl, rfl, Nat.le_refl _, fun _ _ _ => rfl⟩
theorem Only.of_below {fp : List Nat} {w w' : World} (h : Below w.heap.size w w') : Only fp w w' := ⟨h.os, h.tape, h.output, h.size, fun k hk _ => h.block k hk⟩
theorem Only.of_grown {fp : List Nat} {w w' : World} {b : Nat} (h : w.grownBy w' (some b)) (hb : b ∈ fp) : Only fp w w' := ⟨h.os, h.tape, h.output, h.size, fun k hk hn => h.block k hk (fun e => hn (by have := Option.some.inj e; subst this; exact hb))⟩
theorem Only.trans {fp : List Nat} {w w1 w2 : World} (h : Only fp w w1) (k : Only fp w1 w2) : Only fp w w2 :=
  ⟨k.os.trans h.os, k.tape.trans h.tape, k.output.trans h.output, Nat.le_trans h.size k.size, fun i hi hn => (k.block i (Nat.lt_of_lt_of_le hi h.size) hn).trans (h.block i hi hn)⟩
theorem Only.below {fp : List Nat} {w w' : World} {B : Nat} (h : Only fp w w') (hB : B ≤ w.heap.size) (hf : ∀ x ∈ fp, B ≤ x) : Below B w w' :=
  ⟨h.os, h.tape, h.output, h.size, fun k hk => h.block k (by omega) (fun hm => by have := hf k hm; omega)⟩
theorem Only.setCell {fp : List Nat} {w : World} {a : Addr} (v : Value) (ha : a.block ∈ fp) : Only fp w (w.setCell a v) :=
  ⟨rfl, rfl, rfl, by simp [World.setCell], fun k _ hn => Below.heap_setCell _ _ _ _ (fun e => hn (by rw [e]; exact ha))⟩
theorem Only.drew {fp : List Nat} {w w' : World} (h : Only fp w w') : Only fp w w'.drew := ⟨h.os, h.tape, h.output, h.size, h.block⟩
theorem Only.drewN {fp : List Nat} {w w' : World} (h : Only fp w w') (n : Nat) : Only fp w (w'.drewN n) := ⟨h.os, h.tape, h.output, h.size, h.block⟩
theorem below_alloc (w : World) (o : Obj) : Below w.heap.size w (w.alloc o) := (Below.refl _ _).alloc (Nat.le_refl _) o
theorem three_cells {w : World} {g : Nat} {a b c : Value} {t : TypeId} (hh : w.heap[g]? = some (.cells #[a, b, c] t (0, 0))) : w.cell? ⟨g, 0, none⟩ = some a ∧ w.cell? ⟨g, 1, none⟩ = some b ∧ w.cell? ⟨g, 2, none⟩ = some c := by
  refine ⟨?_, ?_, ?_⟩ <;> simp [World.cell?, hh]
theorem frees {w : World} {g : Nat} {cs : Array Value} {t : TypeId} (hh : w.heap[g]? = some (.cells cs t (0, 0))) (i : Nat) : w.frozen? ⟨g, i, none⟩ = false := by simp [World.frozen?, hh]
/-- a bag, behind the pointer to block g; its map in block b: how many nodes, how often each message is there, how many there are -/
structure BIs (base g b : Nat) (w : World) (N : Nat) (n : Int) (f : Msg → Option Int) (tot : Int) : Prop where
  cell : w.heap[g]? = some (.cells #[.int .i64 n, .map (some b), .int .i64 tot] 61 (0, 0))
  map : MIs b w N f
  ne : g ≠ b
  lo : base ≤ g ∧ base ≤ b
theorem BIs.other {base g b N : Nat} {w w' : World} {n tot : Int} {f : Msg → Option Int} {fp : List Nat} (h : BIs base g b w N n f tot) (k : Only fp w w') (h1 : g ∉ fp) (h2 : b ∉ fp) : BIs base g b w' N n f tot :=
  ⟨(k.block g (lt_of_block h.cell) h1).trans h.cell, h.map.same (k.block b h.map.lt h2), h.ne, h.lo⟩
theorem BIs.below {base g b N : Nat} {w w' : World} {n tot : Int} {f : Msg → Option Int} (h : BIs base g b w N n f tot) (k : Below w.heap.size w w') : BIs base g b w' N n f tot :=
  h.other (fp := []) (Only.of_below k) (by simp) (by simp)
theorem new_bad (n : Int) (h : ¬ (1 ≤ n ∧ n ≤ 7)) (w : World) : Calls Try.prog 8 #[.int .i64 n] w fun e w' => e = .returned (.tuple #[.pointer none, .int .i64 1]) ∧ w' = w := by
  by_cases h1 : n < 1
  · go_enter Try.func8, Try.ntmps8
    go_wp2
    go_ret2
    exact ⟨rfl, rfl⟩
  · have h2 : 7 < n := by omega
    go_enter Try.func8, Try.ntmps8
    go_wp2
    go_ret2
    exact ⟨rfl, rfl⟩
theorem new_any (n : Int) (h1 : 1 ≤ n) (h2 : n ≤ 7) (base : Nat) (w : World) (hb : base ≤ w.heap.size) : Calls Try.prog 8 #[.int .i64 n] w fun e w' => e = .returned (.tuple #[.pointer (some ⟨w.heap.size + 1, 0, none⟩), .int .i64 0]) ∧ BIs base (w.heap.size + 1) w.heap.size w' 0 n (fun _ => none) 0 ∧ Below w.heap.size w w' := by
  have hmm := fun w => run_makeMap (P := Try.prog) 59 w
  go_enter Try.func8, Try.ntmps8
  go_wp2
  go_ret2
  refine ⟨rfl, ⟨?_, ?_, by omega, by omega, hb⟩, ((Below.refl _ _).alloc (Nat.le_refl _) _).alloc (by simp) _⟩
  · show ((w.heap.push _).push _)[w.heap.size + 1]? = _
    rw [Array.getElem?_push, if_pos (by simp)]
  · exact (MIs.made w).same (Below.heap_alloc _ _ _ (by simp))
theorem len_any {base g b N : Nat} {n tot : Int} {f : Msg → Option Int} (w : World) (h : BIs base g b w N n f tot) : Calls Try.prog 24 #[.pointer (some ⟨g, 0, none⟩)] w fun e w' => e = .returned (.int .i64 tot) ∧ w' = w := by
  obtain ⟨q0, q1, q2⟩ := three_cells h.cell
  go_enter Try.func24, Try.ntmps24
  go_wp2
  go_ret
  exact ⟨rfl, rfl⟩
theorem len_nil (w : World) : Calls Try.prog 24 #[.pointer none] w fun e w' => e = .returned (.int .i64 0) ∧ w' = w := by
  go_enter Try.func24, Try.ntmps24
  go_wp2
  go_ret
  exact ⟨rfl, rfl⟩
/-- is a node one of so many? -/
def isN (n a : Int) : Bool := decide (0 ≤ a) && decide (a < n)
theorem has_any {base g b N : Nat} {n tot : Int} {f : Msg → Option Int} (a : Int) (w : World) (h : BIs base g b w N n f tot) : Calls Try.prog 29 #[.pointer (some ⟨g, 0, none⟩), .int .i64 a] w fun e w' => e = .returned (.bool (isN n a)) ∧ w' = w := by
  obtain ⟨q0, q1, q2⟩ := three_cells h.cell
  unfold isN
  by_cases h1 : 0 ≤ a
  · by_cases h2 : a < n
    · go_enter Try.func29, Try.ntmps29
      go_wp2
      go_ret
      exact ⟨by simp [h1, h2], rfl⟩
    · go_enter Try.func29, Try.ntmps29
      go_wp2
      go_ret
      exact ⟨by simp; omega, rfl⟩
  · go_enter Try.func29, Try.ntmps29
    go_wp2
    go_ret
    exact ⟨by simp; omega, rfl⟩
theorem has_nil (a : Int) (w : World) : Calls Try.prog 29 #[.pointer none, .int .i64 a] w fun e w' => e = .returned (.bool false) ∧ w' = w := by
  go_enter Try.func29, Try.ntmps29
  go_wp2
  go_ret
  exact ⟨rfl, rfl⟩
theorem count_nil (m : Msg) (w : World) : Calls Try.prog 22 #[.pointer none, valM m] w fun e w' => e = .returned (.int .i64 0) ∧ Below w.heap.size w w' := by
  unfold valM
  go_enter Try.func22, Try.ntmps22
  go_wp2
  go_ret
  exact ⟨rfl, below_alloc _ _⟩
theorem count_any {base g b N : Nat} {n tot : Int} {f : Msg → Option Int} (m : Msg) (hm : okM m) (w : World) (h : BIs base g b w N n f tot) : Calls Try.prog 22 #[.pointer (some ⟨g, 0, none⟩), valM m] w fun e w' => e = .returned (.int .i64 ((f m).getD 0)) ∧ Below w.heap.size w w' := by
  have h' := h.below (below_alloc w (.cells #[.int .i64 m.f, .int .i64 m.t, .string m.s] 32))
  obtain ⟨q0, q1, q2⟩ := three_cells h.cell
  have hlt := lt_of_block h.cell
  have hlk := h'.map.look m hm
  have hlk2 : (Instr.lookup 59 (.map (some b)) (valM m) false).run Try.prog (w.alloc (.cells #[.int .i64 m.f, .int .i64 m.t, .string m.s] 32)).drew = .ok (.int .i64 ((f m).getD 0)) (w.alloc (.cells #[.int .i64 m.f, .int .i64 m.t, .string m.s] 32)).drew := (h'.map.same (w' := (w.alloc (.cells #[.int .i64 m.f, .int .i64 m.t, .string m.s] 32)).drew) rfl).look m hm
  unfold valM at hlk hlk2 ⊢
  obtain ⟨c, hc⟩ : ∃ c, c = (f m).getD 0 := ⟨_, rfl⟩
  rw [← hc] at hlk hlk2 ⊢
  clear hc h h'
  go_enter Try.func22, Try.ntmps22
  go_wp2
  go_region
  all_goals
    go_wp2
    go_ret
    exact ⟨rfl, by first | exact (below_alloc _ _).drew | exact below_alloc _ _⟩
end Go.Proofs.Ytecfibabeimjoaa
