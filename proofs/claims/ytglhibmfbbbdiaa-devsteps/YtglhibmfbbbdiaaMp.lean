import Derived.Test.YtglhibmfbbbdiaaBs
import Derived.Maps.Own
import Derived.Maps.OwnOps
import Derived.Maps.OwnSet
import Derived.Maps.Views
import Derived.Maps.Ext
import Derived.Maps.RangeWalk
import Derived.Lib.SlMapMerge
import Derived.DeepKeys4
namespace Go.Proofs.Ytglhibmfbbbdiaa
open Go.RowKit Go.Maps

theorem laidOut : laidOutB Try.prog = true := by kernel_rfl
theorem row65 : (65 : TypeId) < Try.prog.types.size := of_decide_eq_true (by kernel_rfl)
theorem wide65 : (match Try.prog.underlying 65 with | some (.array _ _) | some (.struct _) => true | _ => false) = true := by rw [Try.underlying65]
theorem law : Keyed Try.prog 65 := Keyed.of_law (deep_law_laid laidOut (m := 2) (by omega) row65 (by kernel_rfl) wide65)
theorem types_n : Try.prog.types.size = 87 + 1 := by kernel_rfl
theorem key65 : Try.prog.keyType 65 = true := by kernel_rfl
theorem cells65 : Try.prog.cellsOf 65 = 1 := by kernel_rfl
theorem cells3 : Try.prog.cellsOf 3 = 1 := by kernel_rfl
theorem lits_gen {P : Program} {k : TypeId} {f0 : Field} (hk : P.underlying k = some (.struct #[f0])) (hname : (f0.name != "_") = true) (hoff : f0.offset = 0) (ht : P.underlying f0.type = some (.int .i64)) (hc : P.cellsOf k = 1) (hc0 : P.cellsOf f0.type = 1)
    {n : Int} (hwf : (Lit.int .i64 n).wf = true) (d : Nat) : P.keyLits (d + 1 + 1) k [.int .i64 n] = some [.int .i64 n] := by
  simp [Program.keyLits, hk, hc, hname, hoff, hc0, ht, hwf]
theorem key_gen {P : Program} {k : TypeId} {f0 : Field} (hk : P.underlying k = some (.struct #[f0])) (hname : (f0.name != "_") = true) (hoff : f0.offset = 0) (ht : P.underlying f0.type = some (.int .i64)) (hc : P.cellsOf k = 1) (hc0 : P.cellsOf f0.type = 1)
    {n : Int} (hwf : (Lit.int .i64 n).wf = true) (d : Nat) (hd : P.types.size = d + 1) (hkt : P.keyType k = true) : keyOf P k (.agg #[.int .i64 n]) = some (.string (keyBytes [.int .i64 n])) := by
  have hf : (Value.agg #[.int .i64 n]).formed P k = true := by simp [Value.formed, hk, hc]
  unfold keyOf
  rw [hk, hd]
  simp [hkt, hf, Value.cells, lits_gen hk hname hoff ht hc hc0 hwf d]
theorem wf_nat (n : Nat) (hn : n < 1048576) : (Lit.int .i64 (n : Int)).wf = true := by
  have e1 : IntKind.i64.min = -9223372036854775808 := by decide
  have e2 : IntKind.i64.max = 9223372036854775807 := by decide
  simp only [Lit.wf, e1, e2, Bool.and_eq_true, decide_eq_true_eq]
  omega

/-- the place of block n, as a key -/
def keyV (n : Nat) : Value := .agg #[.int .i64 (n : Int)]
def kl (n : Nat) : Lit := .string (keyBytes [.int .i64 (n : Int)])
theorem hkey (n : Nat) (hn : n < 1048576) : keyOf Try.prog 65 (keyV n) = some (kl n) :=
  key_gen Try.underlying65 (by decide) rfl Try.underlying3 cells65 cells3 (wf_nat n hn) 87 types_n key65
theorem kl_inj {a b : Nat} (ha : a < 1048576) (hb : b < 1048576) (h : kl a = kl b) : a = b := by
  have h1 := hkey a ha
  rw [h] at h1
  have := law.inj h1 (hkey b hb)
  unfold keyV at this
  simp at this
  omega

/-- how a block in a map reads -/
def RB (v : Value) : Option (DataW Unit × List MemPlace) :=
  match v with
  | .agg a => match a.toList with
    | [.string s] => some (.lit (.string s.data.toList), [])
    | _ => none
  | _ => none
def blk (s : ByteArray) : Value := .agg #[.string s]
theorem RB_mk (s : ByteArray) : RB (blk s) = some (.lit (.string s.data.toList), []) := rfl
theorem RB_inv {v : Value} {y : DataW Unit × List MemPlace} (h : RB v = some y) : ∃ s, v = blk s ∧ y = (.lit (.string s.data.toList), []) := by
  unfold RB at h
  split at h
  · rename_i a
    split at h
    · rename_i s hs
      cases h
      refine ⟨s, ?_, rfl⟩
      unfold blk
      congr 1
      apply Array.toList_inj.1
      rw [hs]
    · cases h
  · cases h
theorem zero67 (w : World) : (zeroValue 67).run Try.prog w = .ok (blk ByteArray.empty) w := by kernel_rfl

/-- a map of blocks, in block b of the memory: what it has at each place; at most N entries -/
def MIs (b : Nat) (w : World) (N : Nat) (f : Nat → Option ByteArray) : Prop :=
  ∃ n D, w.ownsMap Try.prog 65 RB b n D ∧ n ≤ N ∧ (∀ k, k < 1048576 → Maps.has D (kl k) = (f k).isSome ∧ ∀ s, f k = some s → ∀ z, D.atKey (kl k) z = .lit (.string s.data.toList)) ∧ ∀ l, Maps.has D l = true → ∃ k, k < 1048576 ∧ l = kl k
theorem MIs.mono {b N N' : Nat} {w : World} {f : Nat → Option ByteArray} (h : MIs b w N f) (hn : N ≤ N') : MIs b w N' f := by
  obtain ⟨n, D, h1, h2, h3⟩ := h
  exact ⟨n, D, h1, by omega, h3⟩
theorem MIs.lt {b N : Nat} {w : World} {f : Nat → Option ByteArray} (h : MIs b w N f) : b < w.heap.size := by
  obtain ⟨n, D, h1, _⟩ := h
  exact h1.lt
theorem MIs.same {b N : Nat} {w w' : World} {f : Nat → Option ByteArray} (h : MIs b w N f) (hb : w'.heap[b]? = w.heap[b]?) : MIs b w' N f := by
  obtain ⟨n, D, ⟨es, clock, h1, h4⟩, h2, h3⟩ := h
  exact ⟨n, D, ⟨es, clock, hb.trans h1, h4⟩, h2, h3⟩
theorem MIs.isMap {b N : Nat} {w : World} {f : Nat → Option ByteArray} (h : MIs b w N f) : ∃ es clock, w.heap[b]? = some (.map es clock) := by
  obtain ⟨n, D, ⟨es, clock, h1, h4⟩, h2, h3⟩ := h
  exact ⟨es, clock, h1⟩
theorem MIs.made (w : World) : MIs w.heap.size (w.alloc (.map #[] 0)) 0 fun _ => none :=
  ⟨0, _, World.ownsMap_made w _ _ _, Nat.le_refl _, fun k _ => ⟨rfl, fun s h => by cases h⟩, fun l h => by cases h⟩
theorem data_eq {a b : ByteArray} (h : a.data.toList = b.data.toList) : a = b := by rw [← st_toList a, ← st_toList b, h]
/-- a look -/
theorem MIs.look {b N : Nat} {w : World} {f : Nat → Option ByteArray} (h : MIs b w N f) (k : Nat) (hk : k < 1048576) :
    (Instr.lookup 53 (.map (some b)) (keyV k) true).run Try.prog w = .ok (.tuple #[blk ((f k).getD ByteArray.empty), .bool (f k).isSome]) w := by
  obtain ⟨n, D, h1, h2, h3⟩ := h
  obtain ⟨v, ps, hrun, hv⟩ := h1.look_ok law Try.underlying53 (zero67 w) (RB_mk _) (hkey k hk)
  obtain ⟨s, rfl, e⟩ := RB_inv hv
  rw [hrun, (h3.1 k hk).1]
  have e1 : s = (f k).getD ByteArray.empty := by
    cases hf : f k with
    | none =>
      have hn := (h3.1 k hk).1
      rw [hf] at hn
      rw [Maps.atKey_of_not_has hn] at e
      simp only [Prod.mk.injEq, DataW.lit.injEq, Lit.string.injEq] at e
      exact data_eq e.1.symm
    | some x =>
      rw [(h3.1 k hk).2 x hf] at e
      simp only [Prod.mk.injEq, DataW.lit.injEq, Lit.string.injEq] at e
      exact data_eq e.1.symm
  rw [e1]
def upd (f : Nat → Option ByteArray) (k : Nat) (s : ByteArray) : Nat → Option ByteArray := fun j => if j = k then some s else f j
/-- a store -/
theorem MIs.store {b N : Nat} {w : World} {f : Nat → Option ByteArray} (h : MIs b w N f) (hN : N < maxLen) (k : Nat) (hk : k < 1048576) (s : ByteArray) :
    ∃ w', (Instr.mapUpdate 53 (.map (some b)) (keyV k) (blk s)).run Try.prog w = .ok () w' ∧ MIs b w' (N + 1) (upd f k s) ∧ w.grownBy w' (some b) ∧ w'.heap.size = w.heap.size := by
  obtain ⟨n, D, h1, h2, h3⟩ := h
  obtain ⟨w', hrun, h4, h5⟩ := h1.store law Try.underlying53 (by omega) (hkey k hk) (RB_mk s)
  refine ⟨w', hrun, ⟨n + 1, _, h4, by omega, fun j hj => ?_, fun l hl => ?_⟩, h5.grown, ?_⟩
  · by_cases hjk : j = k
    · subst hjk
      refine ⟨?_, fun x hx z => ?_⟩
      · rw [Maps.has_put_same h1.isMap (law.key (hkey j hj))]; simp [upd]
      · rw [Maps.atKey_put_same h1.isMap (law.key (hkey j hj))]
        simp [upd] at hx
        rw [hx]
    · have hne : kl j ≠ kl k := fun e => hjk (kl_inj hj hk e)
      refine ⟨?_, fun x hx z => ?_⟩
      · rw [Maps.has_put_other hne, (h3.1 j hj).1]; simp [upd, hjk]
      · rw [Maps.atKey_put_other hne]
        simp [upd, hjk] at hx
        exact (h3.1 j hj).2 x hx z
  · by_cases e : l = kl k
    · exact ⟨k, hk, e⟩
    · rw [Maps.has_put_other e] at hl
      exact h3.2 l hl
  · obtain ⟨es, c, es', c', e1, rfl⟩ := h5
    simp [ChangeMaps.setBlock]
/-- all struck -/
theorem MIs.clear {b N : Nat} {w : World} {f : Nat → Option ByteArray} (h : MIs b w N f) (ty : TypeId) :
    ∃ w', (Builtin.clear_ #[53] ty #[.map (some b)]).run Try.prog w = .ok (.tuple #[]) w' ∧ MIs b w' 0 (fun _ => none) ∧ w.grownBy w' (some b) ∧ w'.heap.size = w.heap.size := by
  obtain ⟨n, D, ⟨es, clock, h1, F, h4⟩, h2, h3⟩ := h
  refine ⟨_, by simp [Builtin.clear_, run_underlying Try.underlying53, MapKept.run_getObj_map h1, MapKept.run_setObj_map _ h1, Result.andThen]; rfl, ?_, ?_, ?_⟩
  · exact ⟨0, .map [], ⟨#[], clock, (MapKept.heap_set h1).1, ⟨by simp, MapKept.stamped_empty clock, by simp⟩, Nat.le_refl _, rfl⟩, Nat.le_refl _, fun k _ => ⟨rfl, fun s h => by cases h⟩, fun l h => by cases h⟩
  · exact ⟨rfl, rfl, rfl, by simp, fun i _ hi => (MapKept.heap_set h1).2 i (fun e => hi (by rw [e]))⟩
  · simp

theorem nodup_len : ∀ (m : Nat) (l : List Nat), l.Pairwise (· ≠ ·) → (∀ x ∈ l, x < m) → l.length ≤ m
  | 0, l, _, h => by
    cases l with
    | nil => exact Nat.le_refl _
    | cons a l => exact absurd (h a (by simp)) (by omega)
  | m + 1, l, hp, h => by
    have h1 := nodup_len m (l.filter (· != m)) (hp.filter _) (fun x hx => by
      have h2 := List.mem_filter.1 hx
      have h3 := h x h2.1
      have h4 : x ≠ m := by simpa using h2.2
      omega)
    have h2 : l.length ≤ (l.filter (· != m)).length + 1 := by
      clear h1 h
      induction l with
      | nil => simp
      | cons a l ih =>
        obtain ⟨ha, hl⟩ := List.pairwise_cons.1 hp
        by_cases e : a = m
        · subst e
          have : l.filter (· != a) = l := List.filter_eq_self.2 (fun x hx => by simpa using (ha x hx).symm)
          simp [this]
        · have := ih hl
          simp [e]
          omega
    omega
/-- there are no more entries than places -/
theorem MIs.shrink {b N : Nat} {w : World} {f : Nat → Option ByteArray} (h : MIs b w N f) : MIs b w 1048576 f := by
  obtain ⟨n, D, h1, h2, h3⟩ := h
  refine ⟨1048576, D, ?_, Nat.le_refl _, h3⟩
  obtain ⟨es', e1, hap, hkl0⟩ := h1.entries law
  have hkeys : ∀ p ∈ es', ∃ k, k < 1048576 ∧ p.1 = kl k := fun p hp => by
    apply h3.2
    rw [e1, Maps.has_eq]
    exact List.any_eq_true.2 ⟨p, hp, WideAt.sameKey_self (hkl0 p hp)⟩
  obtain ⟨es, clock, hb, F, hs, hD⟩ := h1
  refine ⟨es, clock, hb, F, ?_, hD⟩
  have hlen : es.size = es'.length := by
    have : (DataW.map es' : DataW Unit) = .map ((es.toList.map (WideElems.rg Try.prog 65 RB)).foldr DataW.insert []) := by rw [← e1, hD]
    cases this
    rw [length_sorted]; simp
  rw [hlen]
  have hch : ∃ ks : List Nat, ks.length = es'.length ∧ ks.Pairwise (· ≠ ·) ∧ (∀ x ∈ ks, x < 1048576) ∧ ∀ x ∈ ks, ∃ p ∈ es', p.1 = kl x := by
    clear hlen hD e1 hkl0
    induction es' with
    | nil => exact ⟨[], rfl, List.Pairwise.nil, (fun x hx => by cases hx), fun x hx => by cases hx⟩
    | cons p es' ih =>
      obtain ⟨hp1, hp2⟩ := List.pairwise_cons.1 hap
      obtain ⟨ks, k1, k2, k3, k4⟩ := ih hp2 (fun q hq => hkeys q (by simp [hq]))
      obtain ⟨k, hk, hkl⟩ := hkeys p (by simp)
      refine ⟨k :: ks, by simp [k1], List.pairwise_cons.2 ⟨fun x hx e => ?_, k2⟩, fun x hx => ?_, fun x hx => ?_⟩
      · obtain ⟨q, hq, hqx⟩ := k4 x hx
        exact hp1 q hq (by rw [hkl, hqx, e])
      · rcases List.mem_cons.1 hx with rfl | hx
        · exact hk
        · exact k3 x hx
      · rcases List.mem_cons.1 hx with rfl | hx
        · exact ⟨p, by simp, hkl⟩
        · obtain ⟨q, hq, hqx⟩ := k4 x hx
          exact ⟨q, by simp [hq], hqx⟩
  obtain ⟨ks, k1, k2, k3, _⟩ := hch
  rw [← k1]
  exact nodup_len 1048576 ks k2 k3
end Go.Proofs.Ytglhibmfbbbdiaa
