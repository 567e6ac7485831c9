import Derived.Laws.CopyRow
import Derived.Laws.Tables
import Derived.Test.YtabkfmmbjjchdaaTa
namespace Go.Proofs.Ytabkfmmbjjchdaa
open Go.RowKit Go.Maps

theorem below_alloc (w : World) (o : Obj) : Below w.heap.size w (w.alloc o) := (Below.refl _ _).alloc (Nat.le_refl _) o
theorem box_at (w : World) (o : Obj) : (w.alloc o).heap[w.heap.size]? = some o := by show (w.heap.push o)[w.heap.size]? = _; simp
theorem _root_.Go.RowKit.Below.next {a b c : World} (h : Below a.heap.size a b) (k : Below b.heap.size b c) : Below a.heap.size a c := h.trans (k.mono h.size)
theorem _root_.Go.RowKit.Below.dN {B : Nat} {w w' : World} (h : Below B w w') (n : Nat) : Below B w (w'.drewN n) := ⟨h.os, h.tape, h.output, h.size, h.block⟩
/-- nothing but one block has changed -/
structure KP (g : Nat) (w w' : World) : Prop where
  os : w'.os = w.os
  tape : w'.tape = w.tape
  output : w'.output = w.output
  size : w.heap.size ≤ w'.heap.size
  block : ∀ j, j < w.heap.size → j ≠ g → w'.heap[j]? = w.heap[j]?
theorem KP.new {w a b : World} {q : Nat} (h : Below w.heap.size w a) (k : KP q a b) (hq : w.heap.size ≤ q) : Below w.heap.size w b := h.trans ⟨k.os, k.tape, k.output, k.size, fun j hj => k.block j (Nat.lt_of_lt_of_le hj h.size) (by omega)⟩
/-- a result; nv: the names as they lie, ns: as they read -/
structure Rs where
  e : Int
  t : ByteArray
  a : Int
  b : Int
  c : Int
  nv : Value
  ns : List ByteArray
def Rs.v (x : Rs) : Value := .agg #[.int .i64 x.e, .string x.t, .int .i64 x.a, .int .i64 x.b, .int .i64 x.c, x.nv]
def rz : Rs := ⟨0, ⟨#[]⟩, 0, 0, 0, .slice none 0 0, []⟩
def Kx.r (x : Kx) : Rs := ⟨x.e, x.t, x.a, x.b, x.c, x.nv, x.ns⟩
def mkK (k n : Int) (d : Bool) (r : Rs) : Kx := ⟨k, n, d, r.e, r.t, r.a, r.b, r.c, r.nv, r.ns⟩
/-- a value of type 62 in memory -/
def B62 (q : Nat) (w : World) (x : Kx) : Prop := w.heap[q]? = some (.cells #[.int .i64 x.n, .bool x.d, .int .i64 x.e, .string x.t, .int .i64 x.a, .int .i64 x.b, .int .i64 x.c, x.nv] 62 (0, 0))
theorem B62.lt {q : Nat} {w : World} {n : Kx} (h : B62 q w n) : q < w.heap.size := lt_of_block h
theorem B62.below {q B : Nat} {w w' : World} {n : Kx} (h : B62 q w n) (k : Below B w w') (hb : q < B) : B62 q w' n := (k.block q hb).trans h
theorem B62.cells {q : Nat} {w : World} {x : Kx} (h : B62 q w x) : w.cell? ⟨q, 0, none⟩ = some (.int .i64 x.n) ∧ w.cell? ⟨q, 1, none⟩ = some (.bool x.d) ∧ w.cell? ⟨q, 2, none⟩ = some (.int .i64 x.e) ∧ w.cell? ⟨q, 3, none⟩ = some (.string x.t) ∧ w.cell? ⟨q, 4, none⟩ = some (.int .i64 x.a) ∧ w.cell? ⟨q, 5, none⟩ = some (.int .i64 x.b) ∧ w.cell? ⟨q, 6, none⟩ = some (.int .i64 x.c) ∧ w.cell? ⟨q, 7, none⟩ = some (x.nv) := by
  unfold B62 at h
  simp [World.cell?, h]
theorem load62 {q : Nat} {w : World} {n : Kx} (h : B62 q w n) : (loadVar 62 ⟨q, 0, none⟩).run Try.prog w = .ok n.v w := by
  obtain ⟨c0, c1, c2, c3, c4, c5, c6, c7⟩ := h.cells
  have a24 := Try.isAgg62
  have z24 := Try.sizeOf62
  simp only [Kx.v]
  go_simp
def Kx.cs (x : Kx) : List Value := [.int .i64 x.n, .bool x.d, .int .i64 x.e, .string x.t, .int .i64 x.a, .int .i64 x.b, .int .i64 x.c, x.nv]
theorem store62 {q : Nat} {w : World} {n m : Kx} (h : B62 q w n) (hm : m.nv.oneCell' = true) : ∃ w', (Instr.storeAt 62 (.pointer (some ⟨q, 0, none⟩)) m.v).run Try.prog w = .ok () w' ∧ B62 q w' m ∧ KP q w w' := by
  have hs := run_storeCells_at Try.prog q 0 62 m.cs 0 _ w h (by simp [Kx.cs]) (by intro v hv; simp [Kx.cs] at hv; rcases hv with rfl | rfl | rfl | rfl | rfl | rfl | rfl | rfl <;> first | rfl | exact hm)
  simp only [Kx.cs, List.take_zero, List.nil_append, Nat.zero_add, List.length_cons, List.length_nil] at hs
  rw [List.drop_of_length_le (by simp), List.append_nil] at hs
  refine ⟨w.setRow q m.cs.toArray, ?_, ?_, ?_⟩
  rotate_left
  · exact setRow_heap w q _ m.cs.toArray 62 (0, 0) h
  · refine ⟨rfl, rfl, rfl, ?_, fun j _ hj => ?_⟩
    · show w.heap.size ≤ (w.heap.modify q _).size
      rw [Array.size_modify]
      exact Nat.le_refl _
    · show (w.heap.modify q _)[j]? = _
      rw [Array.getElem?_modify, if_neg (fun e => hj e.symm)]
  · have z24 := Try.sizeOf62
    have h2 : (Instr.sureAddr (.pointer (some ⟨q, 0, none⟩))).run Try.prog w = .ok ⟨q, 0, none⟩ w := by simp [Instr.sureAddr]
    simp only [Instr.storeAt, Kx.v, Sem.run_bind, h2, Result.andThen_ok, storeVar, z24, Value.cells]
    simp only [List.size_toArray, List.length_cons, List.length_nil, ne_eq, not_true_eq_false, if_false]
    exact hs
theorem at_store62 {ops : Array Oper} {rest : List Oper} {p x : Operand} {ty : TypeId} {pos : String} {aft : Array Edge} {a : Act} {Q : Exit → Act → World → Prop} {w : World} (q : Nat) (n m : Kx) (hp : a.eval p = .pointer (some ⟨q, 0, none⟩)) (hx : a.eval x = m.v) (hb : B62 q w n) (hm : m.nv.oneCell' = true)
    (hK : ∀ w', B62 q w' m → KP q w w' → wpList Try.prog ops Q rest a w') :
    wpList Try.prog ops Q ({ dst := none, op := Op.store 62 p x, type := ty, pos := pos, after := aft, guard := none } :: rest) a w := by
  refine wpList_plain rfl fun K' hK' => ?_
  obtain ⟨w', hrun, r1, r2⟩ := store62 (m := m) hb hm
  unfold Oper.wp
  simp [execOp, hp, hx, hrun, Result.andThen]
  exact hK' _ _ (hK w' r1 r2)
/-- a value of type 32 in memory -/
def B32 (q : Nat) (w : World) (x : Rs) : Prop := w.heap[q]? = some (.cells #[.int .i64 x.e, .string x.t, .int .i64 x.a, .int .i64 x.b, .int .i64 x.c, x.nv] 32 (0, 0))
theorem B32.lt {q : Nat} {w : World} {n : Rs} (h : B32 q w n) : q < w.heap.size := lt_of_block h
theorem B32.below {q B : Nat} {w w' : World} {n : Rs} (h : B32 q w n) (k : Below B w w') (hb : q < B) : B32 q w' n := (k.block q hb).trans h
theorem B32.cells {q : Nat} {w : World} {x : Rs} (h : B32 q w x) : w.cell? ⟨q, 0, none⟩ = some (.int .i64 x.e) ∧ w.cell? ⟨q, 1, none⟩ = some (.string x.t) ∧ w.cell? ⟨q, 2, none⟩ = some (.int .i64 x.a) ∧ w.cell? ⟨q, 3, none⟩ = some (.int .i64 x.b) ∧ w.cell? ⟨q, 4, none⟩ = some (.int .i64 x.c) ∧ w.cell? ⟨q, 5, none⟩ = some (x.nv) := by
  unfold B32 at h
  simp [World.cell?, h]
theorem load32 {q : Nat} {w : World} {n : Rs} (h : B32 q w n) : (loadVar 32 ⟨q, 0, none⟩).run Try.prog w = .ok n.v w := by
  obtain ⟨c0, c1, c2, c3, c4, c5⟩ := h.cells
  have a24 := Try.isAgg32
  have z24 := Try.sizeOf32
  simp only [Rs.v]
  go_simp
def Rs.cs (x : Rs) : List Value := [.int .i64 x.e, .string x.t, .int .i64 x.a, .int .i64 x.b, .int .i64 x.c, x.nv]
theorem store32 {q : Nat} {w : World} {n m : Rs} (h : B32 q w n) (hm : m.nv.oneCell' = true) : ∃ w', (Instr.storeAt 32 (.pointer (some ⟨q, 0, none⟩)) m.v).run Try.prog w = .ok () w' ∧ B32 q w' m ∧ KP q w w' := by
  have hs := run_storeCells_at Try.prog q 0 32 m.cs 0 _ w h (by simp [Rs.cs]) (by intro v hv; simp [Rs.cs] at hv; rcases hv with rfl | rfl | rfl | rfl | rfl | rfl <;> first | rfl | exact hm)
  simp only [Rs.cs, List.take_zero, List.nil_append, Nat.zero_add, List.length_cons, List.length_nil] at hs
  rw [List.drop_of_length_le (by simp), List.append_nil] at hs
  refine ⟨w.setRow q m.cs.toArray, ?_, ?_, ?_⟩
  rotate_left
  · exact setRow_heap w q _ m.cs.toArray 32 (0, 0) h
  · refine ⟨rfl, rfl, rfl, ?_, fun j _ hj => ?_⟩
    · show w.heap.size ≤ (w.heap.modify q _).size
      rw [Array.size_modify]
      exact Nat.le_refl _
    · show (w.heap.modify q _)[j]? = _
      rw [Array.getElem?_modify, if_neg (fun e => hj e.symm)]
  · have z24 := Try.sizeOf32
    have h2 : (Instr.sureAddr (.pointer (some ⟨q, 0, none⟩))).run Try.prog w = .ok ⟨q, 0, none⟩ w := by simp [Instr.sureAddr]
    simp only [Instr.storeAt, Rs.v, Sem.run_bind, h2, Result.andThen_ok, storeVar, z24, Value.cells]
    simp only [List.size_toArray, List.length_cons, List.length_nil, ne_eq, not_true_eq_false, if_false]
    exact hs
theorem at_store32 {ops : Array Oper} {rest : List Oper} {p x : Operand} {ty : TypeId} {pos : String} {aft : Array Edge} {a : Act} {Q : Exit → Act → World → Prop} {w : World} (q : Nat) (n m : Rs) (hp : a.eval p = .pointer (some ⟨q, 0, none⟩)) (hx : a.eval x = m.v) (hb : B32 q w n) (hm : m.nv.oneCell' = true)
    (hK : ∀ w', B32 q w' m → KP q w w' → wpList Try.prog ops Q rest a w') :
    wpList Try.prog ops Q ({ dst := none, op := Op.store 32 p x, type := ty, pos := pos, after := aft, guard := none } :: rest) a w := by
  refine wpList_plain rfl fun K' hK' => ?_
  obtain ⟨w', hrun, r1, r2⟩ := store32 (m := m) hb hm
  unfold Oper.wp
  simp [execOp, hp, hx, hrun, Result.andThen]
  exact hK' _ _ (hK w' r1 r2)
theorem z62 (w : World) : B62 w.heap.size (w.alloc (.cells #[.int .i64 0, .bool false, .int .i64 0, .string ⟨#[]⟩, .int .i64 0, .int .i64 0, .int .i64 0, .slice none 0 0] 62)) kz := box_at _ _
theorem z32 (w : World) : B32 w.heap.size (w.alloc (.cells #[.int .i64 0, .string ⟨#[]⟩, .int .i64 0, .int .i64 0, .int .i64 0, .slice none 0 0] 32)) rz := box_at _ _
theorem ret21 {a : Act} {w : World} {R : Nat} {m : Kx} {post : Ending → World → Prop} (hb : B62 R w m) (h2 : a.tmps.getD 4 undef = .pointer (some ⟨R, 0, none⟩)) (hd : a.defers = []) (hp : post (.returned m.v) w) : bodyPost Try.prog Try.f21 post .ret a w := by
  refine bodyPost_ret (v := m.v) ?_ hd hp
  simp only [results, show Try.f21.results = #[.cell 4 62] from rfl]
  rw [Array.getD_eq_getD_getElem?] at h2
  simp [h2, asAddr, load62 hb]
theorem ret25 {a : Act} {w : World} {R : Nat} {m : Rs} {post : Ending → World → Prop} (hb : B32 R w m) (h2 : a.tmps.getD 2 undef = .pointer (some ⟨R, 0, none⟩)) (hd : a.defers = []) (hp : post (.returned m.v) w) : bodyPost Try.prog Try.f25 post .ret a w := by
  refine bodyPost_ret (v := m.v) ?_ hd hp
  simp only [results, show Try.f25.results = #[.cell 2 32] from rfl]
  rw [Array.getD_eq_getD_getElem?] at h2
  simp [h2, asAddr, load32 hb]
theorem ret12 {a : Act} {w : World} {R : Nat} {m : Rs} {x e : Int} {post : Ending → World → Prop} (hb : B32 R w m) (h2 : a.tmps.getD 7 undef = .pointer (some ⟨R, 0, none⟩)) (h3 : a.tmps.getD 6 undef = .int .i64 x) (h4 : a.tmps.getD 8 undef = .int .i64 e) (hd : a.defers = []) (hp : post (.returned (.tuple #[.int .i64 x, m.v, .int .i64 e])) w) : bodyPost Try.prog Try.f12 post .ret a w := by
  refine bodyPost_ret (v := .tuple #[.int .i64 x, m.v, .int .i64 e]) ?_ hd hp
  simp only [results, show Try.f12.results = #[.tmp 6, .cell 7 32, .tmp 8] from rfl]
  rw [Array.getD_eq_getD_getElem?] at h2 h3 h4
  simp [h2, h3, h4, asAddr, load32 hb]
def okc (c r : Int) : Bool := decide (0 ≤ c ∧ c ≤ 1099511627776) && decide (1 ≤ r ∧ r ≤ 1099511627776)
theorem okc_iff (c r : Int) : okc c r = true ↔ (0 ≤ c ∧ c ≤ 1099511627776) ∧ (1 ≤ r ∧ r ≤ 1099511627776) := by unfold okc; rw [Bool.and_eq_true, decide_eq_true_iff, decide_eq_true_iff]
set_option maxRecDepth 100000 in
theorem isNumber_any (n m : Int) (w : World) : Calls Try.prog 29 #[.int .i64 n, .int .i64 m] w fun e w' => e = .returned (.bool (decide (m ≤ n ∧ n ≤ 1099511627776))) ∧ w' = w := by
  by_cases h : m ≤ n
  · by_cases h1 : n ≤ 1099511627776
    · rw [decide_eq_true (show m ≤ n ∧ n ≤ 1099511627776 by omega)]
      go_enter Try.func29, Try.ntmps29
      go_wp2
      go_ret
      exact ⟨rfl, rfl⟩
    · rw [decide_eq_false (show ¬ (m ≤ n ∧ n ≤ 1099511627776) by omega)]
      go_enter Try.func29, Try.ntmps29
      go_wp2
      go_ret
      exact ⟨rfl, rfl⟩
  · rw [decide_eq_false (show ¬ (m ≤ n ∧ n ≤ 1099511627776) by omega)]
    go_enter Try.func29, Try.ntmps29
    go_wp2
    go_ret
    exact ⟨rfl, rfl⟩
set_option maxRecDepth 100000 in
theorem isRight_any (c r : Int) (w : World) : Calls Try.prog 20 #[.int .i64 c, .int .i64 r] w fun e w' => e = .returned (.bool (okc c r)) ∧ w' = w := by
  unfold okc
  have H1 := hid (fun W => isNumber_any c 0 W)
  have H2 := hid (fun W => isNumber_any r 1 W)
  obtain ⟨x, hx⟩ : ∃ x, x = decide (0 ≤ c ∧ c ≤ 1099511627776) := ⟨_, rfl⟩
  obtain ⟨y, hy⟩ : ∃ y, y = decide (1 ≤ r ∧ r ≤ 1099511627776) := ⟨_, rfl⟩
  rw [← hx] at H1 ⊢
  rw [← hy] at H2 ⊢
  clear hx hy
  rcases x with _ | _
  · rw [Bool.false_and]
    go_enter Try.func20, Try.ntmps20
    go_wp2_with (first | (go_at_call 29; refine (H1.out _).mono ?_; rintro e w' ⟨rfl, rfl⟩))
    go_ret
    exact ⟨rfl, rfl⟩
  · rw [Bool.true_and]
    go_enter Try.func20, Try.ntmps20
    go_wp2_with (go_at_call 29; fail)
    refine (H1.out _).mono ?_
    rintro e w' ⟨rfl, rfl⟩
    clear H1
    go_wp2_with (first | (go_at_call 29; refine (H2.out _).mono ?_; rintro e w' ⟨rfl, rfl⟩))
    go_ret
    exact ⟨rfl, rfl⟩
set_option maxRecDepth 100000 in
theorem wrong_any (c r : Int) (w : World) : Calls Try.prog 19 #[.int .i64 c, .int .i64 r] w fun e w' => e = .returned (.bool (!okc c r)) ∧ w' = w := by
  have hc : (c < 0 ∧ okc c r = false) ∨ (¬ c < 0 ∧ 1099511627776 < c ∧ okc c r = false) ∨ (¬ c < 0 ∧ ¬ 1099511627776 < c ∧ r < 1 ∧ okc c r = false) ∨ (¬ c < 0 ∧ ¬ 1099511627776 < c ∧ ¬ r < 1 ∧ 1099511627776 < r ∧ okc c r = false) ∨ (¬ c < 0 ∧ ¬ 1099511627776 < c ∧ ¬ r < 1 ∧ ¬ 1099511627776 < r ∧ okc c r = true) := by
    have h := okc_iff c r
    cases hk : okc c r with
    | true => have := h.1 hk; simp; omega
    | false =>
      have : ¬ ((0 ≤ c ∧ c ≤ 1099511627776) ∧ 1 ≤ r ∧ r ≤ 1099511627776) := fun hh => by rw [h.2 hh] at hk; cases hk
      simp; omega
  rcases hc with ⟨h1, h5⟩ | ⟨h1, h2, h5⟩ | ⟨h1, h2, h3, h5⟩ | ⟨h1, h2, h3, h4, h5⟩ | ⟨h1, h2, h3, h4, h5⟩
  all_goals
    rw [h5]
    clear h5
    go_enter Try.func19, Try.ntmps19
    go_wp2
    go_ret
    exact ⟨rfl, rfl⟩
def stt (n : Int) (d : Bool) (r : Int) : Int := if n < r then 1 else if r < n then 4 else if d then 3 else 2
set_option maxRecDepth 100000 in
theorem state_any (x : Kx) (r : Int) (w : World) : Calls Try.prog 22 #[x.v, .int .i64 r] w fun e w' => e = .returned (.int .i64 (stt x.n x.d r)) ∧ Below w.heap.size w w' := by
  obtain ⟨k, n, d, ee, t, a, b, c, nv, ns⟩ := x
  simp only [Kx.v]
  unfold stt
  by_cases h1 : n < r
  · rw [if_pos h1]
    go_enter Try.func22, Try.ntmps22
    go_wp2
    go_ret
    exact ⟨rfl, below_alloc _ _⟩
  · rw [if_neg h1]
    by_cases h2 : r < n
    · rw [if_pos h2]
      go_enter Try.func22, Try.ntmps22
      go_wp2
      go_ret
      exact ⟨rfl, below_alloc _ _⟩
    · rw [if_neg h2]
      rcases d with _ | _
      all_goals
        simp only [Bool.false_eq_true, if_false, if_true]
        go_enter Try.func22, Try.ntmps22
        go_wp2
        go_ret
        exact ⟨rfl, below_alloc _ _⟩
end Go.Proofs.Ytabkfmmbjjchdaa
