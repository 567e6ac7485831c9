import Derived.Test.YtfjoajcfpldniaaRows
import Derived.Maps.Own
import Derived.Maps.OwnOps
import Derived.Maps.OwnSet
import Derived.Maps.Views
import Derived.Maps.Ext
import Derived.Maps.RangeWalk
import Derived.Lib.SlMapMerge
import Derived.DeepKeys4
import Derived.WalkKit
import Derived.ProofKit
import Derived.WalkSpells
import Derived.WalkSmall
import Derived.OneCell
import Derived.Below
import Derived.Deep.Draws
import Derived.Deep.RegionHeld3
import Derived.Deep.QuietTactic
import Derived.BigQuiet
import Derived.Lib.Strings
namespace Go.Proofs.Ytfjoajcfpldniaa
open Go.RowKit Go.Maps

theorem hid {p : Prop} (h : p) : Hid p := h
theorem _root_.Go.RowKit.Below.next {w w1 w2 : World} (a : Below w.heap.size w w1) (b : Below w1.heap.size w1 w2) : Below w.heap.size w w2 := a.trans (b.mono a.size)
theorem lt_of_block {w : World} {g : Nat} {o : Obj} (h : w.heap[g]? = some o) : g < w.heap.size := (Array.getElem?_eq_some_iff.1 h).1
theorem below_alloc (w : World) (o : Obj) : Below w.heap.size w (w.alloc o) := (Below.refl _ _).alloc (Nat.le_refl _) o
theorem box_at (w : World) (o : Obj) : (w.alloc o).heap[w.heap.size]? = some o := by show (w.heap.push o)[w.heap.size]? = _; simp
theorem cell_of {w : World} {g : Nat} {cs : Array Value} {t : TypeId} (hh : w.heap[g]? = some (.cells cs t (0, 0))) (i : Nat) : w.cell? ⟨g, i, none⟩ = cs[i]? := by simp [World.cell?, hh]
theorem frees {w : World} {g : Nat} {cs : Array Value} {t : TypeId} (hh : w.heap[g]? = some (.cells cs t (0, 0))) (i : Nat) : w.frozen? ⟨g, i, none⟩ = false := by simp [World.frozen?, hh]
theorem cells_set {w : World} {g j : Nat} {cur : Array Value} {t : TypeId} (h : w.heap[g]? = some (.cells cur t (0, 0))) (v : Value) : (w.setCell ⟨g, j, none⟩ v).heap[g]? = some (.cells (cur.set! j v) t (0, 0)) := by
  simp [World.setCell, Array.getElem?_modify, h]
/-- nothing but the blocks of fp has changed -/
structure Only (fp : List Nat) (w w' : World) : Prop where
  os : w'.os = w.os
  tape : w'.tape = w.tape
  output : w'.output = w.output
  size : w.heap.size ≤ w'.heap.size
  block : ∀ k, k < w.heap.size → k ∉ fp → w'.heap[k]? = w.heap[k]?
theorem Only.refl (fp : List Nat) (w : World) : Only fp w w := ⟨rfl, rfl, rfl, Nat.le_refl _, fun _ _ _ => rfl⟩
theorem Only.of_below {fp : List Nat} {w w' : World} (h : Below w.heap.size w w') : Only fp w w' := ⟨h.os, h.tape, h.output, h.size, fun k hk _ => h.block k hk⟩
theorem Only.of_grown {fp : List Nat} {w w' : World} {b : Nat} (h : w.grownBy w' (some b)) (hb : b ∈ fp) : Only fp w w' := ⟨h.os, h.tape, h.output, h.size, fun k hk hn => h.block k hk (fun e => hn (by have := Option.some.inj e; subst this; exact hb))⟩
theorem Only.trans {fp : List Nat} {w w1 w2 : World} (h : Only fp w w1) (k : Only fp w1 w2) : Only fp w w2 :=
  ⟨k.os.trans h.os, k.tape.trans h.tape, k.output.trans h.output, Nat.le_trans h.size k.size, fun i hi hn => (k.block i (Nat.lt_of_lt_of_le hi h.size) hn).trans (h.block i hi hn)⟩
theorem Only.mono {fp fp' : List Nat} {w w' : World} (h : Only fp w w') (k : ∀ x ∈ fp, x ∈ fp') : Only fp' w w' := ⟨h.os, h.tape, h.output, h.size, fun i hi hn => h.block i hi (fun hm => hn (k i hm))⟩
theorem Only.below {fp : List Nat} {w w' : World} {B : Nat} (h : Only fp w w') (hB : B ≤ w.heap.size) (hf : ∀ x ∈ fp, B ≤ x) : Below B w w' :=
  ⟨h.os, h.tape, h.output, h.size, fun k hk => h.block k (by omega) (fun hm => by have := hf k hm; omega)⟩
theorem Only.setCell {fp : List Nat} {w : World} {a : Addr} (v : Value) (ha : a.block ∈ fp) : Only fp w (w.setCell a v) :=
  ⟨rfl, rfl, rfl, by simp [World.setCell], fun k _ hn => Below.heap_setCell _ _ _ _ (fun e => hn (by rw [e]; exact ha))⟩
theorem Only.drewN {fp : List Nat} {w w' : World} (h : Only fp w w') (n : Nat) : Only fp w (w'.drewN n) := ⟨h.os, h.tape, h.output, h.size, h.block⟩
def inI (n : Int) : Prop := -9223372036854775808 ≤ n ∧ n ≤ 9223372036854775807
theorem law : Keyed Try.prog 3 := int_keyed Try.underlying3
theorem wf_i {n : Int} (h : inI n) : (Lit.int .i64 n).wf = true := by
  have e1 : IntKind.i64.min = -9223372036854775808 := by decide
  have e2 : IntKind.i64.max = 9223372036854775807 := by decide
  unfold inI at h
  simp only [Lit.wf, e1, e2, Bool.and_eq_true, decide_eq_true_eq]
  omega
theorem bounds_i {n : Int} (h : (Lit.int .i64 n).wf = true) : inI n := by
  have e1 : IntKind.i64.min = -9223372036854775808 := by decide
  have e2 : IntKind.i64.max = 9223372036854775807 := by decide
  simp only [Lit.wf, e1, e2, Bool.and_eq_true, decide_eq_true_eq] at h
  exact h
def kl (n : Int) : Lit := .int .i64 n
theorem hkey (n : Int) (hn : inI n) : keyOf Try.prog 3 (.int .i64 n) = some (kl n) := keyOf_int_mk Try.underlying3 (wf_i hn)
theorem kl_inj {a b : Int} (h : kl a = kl b) : a = b := by unfold kl at h; cases h; rfl
/-- an entry: a block's number, and where its frame lies -/
structure Ent where
  b : Int
  a : Nat
def ptr (a : Nat) : Value := .pointer (some ⟨a, 0, none⟩)
/-- how a frame's pointer in a map reads -/
def RP (v : Value) : Option (DataW Unit × List MemPlace) :=
  match v with
  | .pointer none => some (.lit (.int .i64 (-1)), [])
  | .pointer (some ⟨a, 0, none⟩) => some (.lit (.int .i64 a), [])
  | _ => none
def datP (a : Nat) : DataW Unit := .lit (.int .i64 a)
theorem RP_mk (a : Nat) : RP (ptr a) = some (datP a, []) := rfl
theorem RP_nil : RP (.pointer none) = some (.lit (.int .i64 (-1)), []) := rfl
theorem RP_inv {v : Value} {y : DataW Unit × List MemPlace} (h : RP v = some y) : (v = .pointer none ∧ y = (.lit (.int .i64 (-1)), [])) ∨ ∃ a, v = ptr a ∧ y = (datP a, []) := by
  unfold RP at h
  split at h
  · cases h; exact .inl ⟨rfl, rfl⟩
  · cases h; exact .inr ⟨_, rfl, rfl⟩
  · cases h
theorem datP_inj {a b : Nat} (h : datP a = datP b) : a = b := by
  simp only [datP, DataW.lit.injEq, Lit.int.injEq, true_and] at h
  omega
theorem datP_ne {a : Nat} : datP a ≠ .lit (.int .i64 (-1)) := by
  intro h
  simp only [datP, DataW.lit.injEq, Lit.int.injEq, true_and] at h
  omega
/-- a map in block b of the memory: just the entries of M -/
structure MOk (D : DataW Unit) (M : List Ent) : Prop where
  sz : Maps.size D = M.length
  has : ∀ k, Maps.has D (kl k) = M.any (fun x => x.b == k)
  at' : ∀ c ∈ M, inI c.b ∧ ∀ z, D.atKey (kl c.b) z = datP c.a
  key : ∀ l, Maps.has D l = true → ∃ k, l = kl k
  nd : (M.map (·.b)).Nodup
def MIs (b : Nat) (w : World) (N : Nat) (M : List Ent) : Prop := ∃ n D, w.ownsMap Try.prog 3 RP b n D ∧ n ≤ N ∧ MOk D M
theorem MIs.mono {b N N' : Nat} {w : World} {M : List Ent} (h : MIs b w N M) (hn : N ≤ N') : MIs b w N' M := by
  obtain ⟨n, D, h1, h2, h3⟩ := h
  exact ⟨n, D, h1, by omega, h3⟩
theorem MIs.lt {b N : Nat} {w : World} {M : List Ent} (h : MIs b w N M) : b < w.heap.size := by
  obtain ⟨n, D, h1, _⟩ := h
  exact h1.lt
theorem MIs.same {b N : Nat} {w w' : World} {M : List Ent} (h : MIs b w N M) (hb : w'.heap[b]? = w.heap[b]?) : MIs b w' N M := by
  obtain ⟨n, D, ⟨es, clock, h1, h4⟩, h2, h3⟩ := h
  exact ⟨n, D, ⟨es, clock, hb.trans h1, h4⟩, h2, h3⟩
theorem MIs.isMap {b N : Nat} {w : World} {M : List Ent} (h : MIs b w N M) : ∃ es clock, w.heap[b]? = some (.map es clock) := by
  obtain ⟨n, D, ⟨es, clock, h1, h4⟩, h2, h3⟩ := h
  exact ⟨es, clock, h1⟩
theorem MIs.nd {b N : Nat} {w : World} {M : List Ent} (h : MIs b w N M) : (M.map (·.b)).Nodup := by
  obtain ⟨n, D, h1, h2, h3⟩ := h
  exact h3.nd
theorem any_perm {M M' : List Ent} (p : M'.Perm M) (k : Int) : M'.any (fun x => x.b == k) = M.any (fun x => x.b == k) := by
  rw [Bool.eq_iff_iff, List.any_eq_true, List.any_eq_true]
  exact ⟨fun ⟨x, hx, h⟩ => ⟨x, p.mem_iff.1 hx, h⟩, fun ⟨x, hx, h⟩ => ⟨x, p.mem_iff.2 hx, h⟩⟩
theorem MIs.perm {b N : Nat} {w : World} {M M' : List Ent} (h : MIs b w N M) (p : M'.Perm M) : MIs b w N M' := by
  obtain ⟨n, D, h1, h2, h3⟩ := h
  exact ⟨n, D, h1, h2, by rw [h3.sz, p.length_eq], fun k => by rw [h3.has, any_perm p], fun c hc => h3.at' c (p.mem_iff.1 hc), h3.key, (p.map _).nodup_iff.2 h3.nd⟩
theorem MIs.made (w : World) : MIs w.heap.size (w.alloc (.map #[] 0)) 0 [] :=
  ⟨0, _, World.ownsMap_made w _ _ _, Nat.le_refl _, rfl, fun _ => rfl, (fun _ h => by cases h), (fun l h => by cases h), List.nodup_nil⟩
theorem zero69 (w : World) : (zeroValue 69).run Try.prog w = .ok (.pointer none) w := by kernel_rfl
/-- where a block's frame lies -/
def findE (M : List Ent) (k : Int) : Option Nat := (M.find? (fun x => x.b == k)).map (·.a)
def ptrO : Option Nat → Value
  | none => .pointer none
  | some a => ptr a
theorem findE_none {M : List Ent} {k : Int} (h : findE M k = none) : M.any (fun x => x.b == k) = false := by
  unfold findE at h
  rw [Option.map_eq_none_iff, List.find?_eq_none] at h
  rw [List.any_eq_false]
  exact h
theorem findE_some {M : List Ent} {k : Int} {a : Nat} (h : findE M k = some a) : ⟨k, a⟩ ∈ M := by
  unfold findE at h
  rw [Option.map_eq_some_iff] at h
  obtain ⟨⟨b, a'⟩, hx, rfl⟩ := h
  have h1 := List.find?_some hx
  have h2 := List.mem_of_find?_eq_some hx
  simp at h1
  subst h1
  exact h2
/-- a look -/
theorem MIs.look {b N : Nat} {w : World} {M : List Ent} (h : MIs b w N M) (k : Int) (hk : inI k) :
    (Instr.lookup 55 (.map (some b)) (.int .i64 k) false).run Try.prog w = .ok (ptrO (findE M k)) w := by
  obtain ⟨n, D, h1, h2, h3⟩ := h
  obtain ⟨v, ps, hrun, hv⟩ := h1.lookup law Try.underlying55 (zero69 w) RP_nil (hkey k hk)
  rw [hrun]
  cases hf : findE M k with
  | none =>
    have hn := h3.has k
    rw [findE_none hf] at hn
    rcases RP_inv hv with ⟨rfl, hy⟩ | ⟨a, rfl, hy⟩
    · rfl
    · have hat := congrArg Prod.fst hy
      simp only at hat
      rw [Maps.atKey_of_not_has hn] at hat
      exact absurd hat.symm datP_ne
  | some a =>
    have hm := findE_some hf
    have h4 := (h3.at' _ hm).2
    rcases RP_inv hv with ⟨rfl, hy⟩ | ⟨a', rfl, hy⟩
    · have hat := congrArg Prod.fst hy
      simp only at hat h4
      rw [h4] at hat
      exact absurd hat datP_ne
    · have hat := congrArg Prod.fst hy
      simp only at hat h4
      rw [h4] at hat
      rw [datP_inj hat]
      rfl
/-- a store of a new one -/
theorem MIs.store {b N : Nat} {w : World} {M : List Ent} (h : MIs b w N M) (hN : N < 100000) (c : Ent) (hc : inI c.b) (hnew : M.any (fun x => x.b == c.b) = false) :
    ∃ w', (Instr.mapUpdate 55 (.map (some b)) (.int .i64 c.b) (ptr c.a)).run Try.prog w = .ok () w' ∧ MIs b w' (N + 1) (M ++ [c]) ∧ w.grownBy w' (some b) ∧ w'.heap.size = w.heap.size := by
  obtain ⟨n, D, h1, h2, hs, h3, h4, h5, hr⟩ := h
  obtain ⟨w', hrun, k1, k2⟩ := h1.store law Try.underlying55 (by unfold maxLen; omega) (hkey c.b hc) (RP_mk c.a)
  have hkey' := law.key (hkey c.b hc)
  have hne : ∀ x ∈ M, x.b ≠ c.b := by
    intro x hx e
    rw [List.any_eq_false] at hnew
    exact hnew x hx (by simp [e])
  refine ⟨w', hrun, ⟨n + 1, _, k1, by omega, ?_, fun k => ?_, fun x hx => ?_, fun l hl => ?_, ?_⟩, k2.grown, ?_⟩
  · rw [Maps.size_put (h1.tidy law), hs, h3, hnew]; simp
  · rw [List.any_append]
    by_cases e : k = c.b
    · subst e
      rw [Maps.has_put_same h1.isMap hkey']
      simp
    · rw [Maps.has_put_other (fun e' => e (kl_inj e')), h3]
      simp [Ne.symm e]
  · rcases List.mem_append.1 hx with hx | hx
    · refine ⟨(h4 x hx).1, fun z => ?_⟩
      rw [Maps.atKey_put_other (fun e' => hne x hx (kl_inj e'))]
      exact (h4 x hx).2 z
    · simp at hx
      subst hx
      exact ⟨hc, fun z => Maps.atKey_put_same h1.isMap hkey' _ _⟩
  · by_cases e : l = kl c.b
    · exact ⟨c.b, e⟩
    · rw [Maps.has_put_other e] at hl
      exact h5 l hl
  · rw [List.map_append]
    refine List.nodup_append.2 ⟨hr, by simp, fun a ha b hb => ?_⟩
    simp at hb
    subst hb
    obtain ⟨y, hy, rfl⟩ := List.mem_map.1 ha
    exact hne y hy
  · obtain ⟨es, c', es', c'', e1, rfl⟩ := k2
    simp [ChangeMaps.setBlock]
theorem MIs.len {b N : Nat} {w : World} {M : List Ent} (h : MIs b w N M) (ty : TypeId) : (Builtin.len_ #[55] ty #[.map (some b)]).run Try.prog w = .ok (.int .i64 (M.length : Nat)) w := by
  obtain ⟨n, D, h1, h2, hs, _⟩ := h
  rw [h1.len Try.underlying55 ty, hs]
end Go.Proofs.Ytfjoajcfpldniaa
