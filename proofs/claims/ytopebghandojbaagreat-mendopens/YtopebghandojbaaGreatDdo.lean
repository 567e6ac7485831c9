import Derived.Test.YtopebghandojbaaGreatTk
import Derived.RowKit
import Derived.OpenShut
import Derived.Lib.AppendStr
import Derived.Lib.Strings
import Derived.OneCell
import Derived.Below
import Derived.Deep.Draws
import Derived.WalkKit
import Derived.ProofKit
import Derived.WalkSpells
import Derived.WalkSmall
import Derived.Deep.QuietTactic
import Derived.BigQuiet
import Derived.Laws.BytesArg
import Derived.Deep.RegionWith
import Derived.Deep.RegionLaw
import Derived.Deep.DeepCutAuto
import Derived.Deep.DeepFit
import Derived.Deep.CutBlock
import Derived.Laws.Bits64
import Derived.Maps.Own
import Derived.Maps.OwnOps
import Derived.Maps.OwnSet
import Derived.Maps.Views
import Derived.Maps.Ext
import Derived.Maps.RangeWalk
import Derived.Lib.SlMapMerge
import Derived.DeepKeys4
import Derived.Laws.IdiomRangeMap
import Derived.Deep.LoopGhost
import Derived.Laws.MakeOwn
namespace Go.Proofs.YtopebghandojbaaGreat.Dv
open Go.RowKit

/-- bytes as cells, as a string -/
def bc (bs : List UInt8) : List Value := bs.map fun b => Value.int .u8 (b.toNat : Int)
def st (bs : List UInt8) : ByteArray := ⟨bs.toArray⟩
theorem bc_append (a b : List UInt8) : bc (a ++ b) = bc a ++ bc b := by simp [bc]
theorem st_toList (s : ByteArray) : st s.data.toList = s := by simp [st]
theorem st_list (bs : List UInt8) : (st bs).data.toList = bs := by simp [st]
theorem st_size (bs : List UInt8) : (st bs).size = bs.length := by simp [st, ByteArray.size]
theorem ret_int {k : IntKind} {a b : Int} (h : a = b) : Ending.returned (.int k a) = .returned (.int k b) := by rw [h]
theorem strOf_bytes (bs : List UInt8) : strOfNums (bs.map fun b => (b.toNat : Int)) = st bs := by
  unfold strOfNums st; congr 1; simp [Function.comp_def]
theorem conv_own {base : Nat} {v : Value} {bs : List UInt8} {w : World} (h : w.ownsRow base 5 1 v bs.length (bc bs)) : (convert 164 9 v).run Tryz.prog w = .ok (.string (st bs)) w := by
  have hh := h
  obtain ⟨e1, ⟨rfl, e2⟩ | ⟨b, cap, cur, rfl, e3, e4, e5⟩⟩ := h
  · rw [run_convert_bytes_nil w 164 5 Tryz.underlying164 Tryz.underlying5 0 0 9 Tryz.underlying9]
    have : bs = [] := List.eq_nil_of_length_eq_zero e2
    subst this; rfl
  · rw [← strOf_bytes]
    refine run_convert_bytes_arg w 164 5 Tryz.underlying164 Tryz.underlying5 b 0 bs.length cap _ (by simp) (fun i hi => ?_) 9 Tryz.underlying9
    rw [Nat.zero_add, hh.cellAt i (by omega)]
    simp [bc, hi]
theorem take_snoc (s : ByteArray) (k : Nat) (h : k < s.size) : s.data.toList.take (k + 1) = s.data.toList.take k ++ [s[k]] := by
  rw [List.take_succ_eq_append_getElem (by simpa using h)]; rfl
theorem below_alloc (w : World) (o : Obj) : Below w.heap.size w (w.alloc o) := (Below.refl _ _).alloc (Nat.le_refl _) o
theorem len_list (s : ByteArray) : s.data.toList.length = s.size := by rw [Array.length_toList]; rfl
theorem hid {p : Prop} (h : p) : Hid p := h
theorem ext_list (s : ByteArray) (a b : Nat) : (s.extract a b).data.toList = (s.data.toList.take b).drop a := by
  simp [ByteArray.data_extract, List.drop_take]
theorem ext_head (s : ByteArray) (n : Nat) : (s.extract 0 n).data.toList = s.data.toList.take n := by rw [ext_list]; rfl
theorem ext_szh (s : ByteArray) (n : Nat) (h : n ≤ s.size) : (s.extract 0 n).size = n := by
  rw [← len_list, ext_head, List.length_take, len_list]; omega
theorem str_ne {a b : ByteArray} (h : ¬ a = b) : (a.toList == b.toList) = false := by
  rw [Lib.toList_data, Lib.toList_data]
  simp only [beq_eq_false_iff_ne, ne_eq]
  intro hh
  exact h (by rw [← st_toList a, ← st_toList b, hh])
theorem below_drewN {B : Nat} {w w' : World} (h : Below B w w') (n : Nat) : Below B w (w'.drewN n) := ⟨h.os, h.tape, h.output, h.size, h.block⟩
end Go.Proofs.YtopebghandojbaaGreat.Dv
namespace Go.Proofs.YtopebghandojbaaGreat.Dv
open Go.RowKit Go.Maps

theorem laidOut : laidOutB Tryz.prog = true := by kernel_rfl
theorem row65 : (145 : TypeId) < Tryz.prog.types.size := of_decide_eq_true (by kernel_rfl)
theorem wide65 : (match Tryz.prog.underlying 145 with | some (.array _ _) | some (.struct _) => true | _ => false) = true := by rw [Tryz.underlying145]
set_option maxRecDepth 100000 in
theorem law : Keyed Tryz.prog 145 := Keyed.of_law (deep_law_laid laidOut (m := 2) (by omega) row65 (by kernel_rfl) wide65)
theorem types_n : Tryz.prog.types.size = 271 + 1 := by kernel_rfl
theorem key65 : Tryz.prog.keyType 145 = true := by kernel_rfl
theorem cells65 : Tryz.prog.cellsOf 145 = 1 := by kernel_rfl
theorem cells3 : Tryz.prog.cellsOf 3 = 1 := by kernel_rfl
theorem lits_gen {P : Program} {k : TypeId} {f0 : Field} (hk : P.underlying k = some (.struct #[f0])) (hname : (f0.name != "_") = true) (hoff : f0.offset = 0) (ht : P.underlying f0.type = some (.int .i64)) (hc : P.cellsOf k = 1) (hc0 : P.cellsOf f0.type = 1)
    {n : Int} (hwf : (Lit.int .i64 n).wf = true) (d : Nat) : P.keyLits (d + 1 + 1) k [.int .i64 n] = some [.int .i64 n] := by
  simp [Program.keyLits, hk, hc, hname, hoff, hc0, ht, hwf]
theorem key_gen {P : Program} {k : TypeId} {f0 : Field} (hk : P.underlying k = some (.struct #[f0])) (hname : (f0.name != "_") = true) (hoff : f0.offset = 0) (ht : P.underlying f0.type = some (.int .i64)) (hc : P.cellsOf k = 1) (hc0 : P.cellsOf f0.type = 1)
    {n : Int} (hwf : (Lit.int .i64 n).wf = true) (d : Nat) (hd : P.types.size = d + 1) (hkt : P.keyType k = true) : keyOf P k (.agg #[.int .i64 n]) = some (.string (keyBytes [.int .i64 n])) := by
  have hf : (Value.agg #[.int .i64 n]).formed P k = true := by simp [Value.formed, hk, hc]
  unfold keyOf
  rw [hk, hd]
  simp [hkt, hf, Value.cells, lits_gen hk hname hoff ht hc hc0 hwf d]
theorem wf_nat (n : Nat) (hn : n < 1048576) : (Lit.int .i64 (n : Int)).wf = true := by
  have e1 : IntKind.i64.min = -9223372036854775808 := by decide
  have e2 : IntKind.i64.max = 9223372036854775807 := by decide
  simp only [Lit.wf, e1, e2, Bool.and_eq_true, decide_eq_true_eq]
  omega

/-- the place of block n, as a key -/
def keyV (n : Nat) : Value := .agg #[.int .i64 (n : Int)]
def kl (n : Nat) : Lit := .string (keyBytes [.int .i64 (n : Int)])
theorem hkey (n : Nat) (hn : n < 1048576) : keyOf Tryz.prog 145 (keyV n) = some (kl n) :=
  key_gen Tryz.underlying145 (by decide) rfl Tryz.underlying3 cells65 cells3 (wf_nat n hn) 271 types_n key65
theorem kl_inj {a b : Nat} (ha : a < 1048576) (hb : b < 1048576) (h : kl a = kl b) : a = b := by
  have h1 := hkey a ha
  rw [h] at h1
  have := law.inj h1 (hkey b hb)
  unfold keyV at this
  simp at this
  omega

/-- how a block in a map reads -/
def RB (v : Value) : Option (DataW Unit × List MemPlace) :=
  match v with
  | .agg a => match a.toList with
    | [.string s] => some (.lit (.string s.data.toList), [])
    | _ => none
  | _ => none
def blk (s : ByteArray) : Value := .agg #[.string s]
theorem RB_mk (s : ByteArray) : RB (blk s) = some (.lit (.string s.data.toList), []) := rfl
theorem RB_inv {v : Value} {y : DataW Unit × List MemPlace} (h : RB v = some y) : ∃ s, v = blk s ∧ y = (.lit (.string s.data.toList), []) := by
  unfold RB at h
  split at h
  · rename_i a
    split at h
    · rename_i s hs
      cases h
      refine ⟨s, ?_, rfl⟩
      unfold blk
      congr 1
      apply Array.toList_inj.1
      rw [hs]
    · cases h
  · cases h
theorem zero67 (w : World) : (zeroValue 142).run Tryz.prog w = .ok (blk ByteArray.empty) w := by kernel_rfl

/-- a map of blocks, in block b of the memory: what it has at each place; at most N entries -/
def MIs (b : Nat) (w : World) (N : Nat) (f : Nat → Option ByteArray) : Prop :=
  ∃ n D, w.ownsMap Tryz.prog 145 RB b n D ∧ n ≤ N ∧ (∀ k, k < 1048576 → Maps.has D (kl k) = (f k).isSome ∧ ∀ s, f k = some s → ∀ z, D.atKey (kl k) z = .lit (.string s.data.toList)) ∧ ∀ l, Maps.has D l = true → ∃ k, k < 1048576 ∧ l = kl k
theorem MIs.mono {b N N' : Nat} {w : World} {f : Nat → Option ByteArray} (h : MIs b w N f) (hn : N ≤ N') : MIs b w N' f := by
  obtain ⟨n, D, h1, h2, h3⟩ := h
  exact ⟨n, D, h1, by omega, h3⟩
theorem MIs.lt {b N : Nat} {w : World} {f : Nat → Option ByteArray} (h : MIs b w N f) : b < w.heap.size := by
  obtain ⟨n, D, h1, _⟩ := h
  exact h1.lt
theorem MIs.same {b N : Nat} {w w' : World} {f : Nat → Option ByteArray} (h : MIs b w N f) (hb : w'.heap[b]? = w.heap[b]?) : MIs b w' N f := by
  obtain ⟨n, D, ⟨es, clock, h1, h4⟩, h2, h3⟩ := h
  exact ⟨n, D, ⟨es, clock, hb.trans h1, h4⟩, h2, h3⟩
theorem MIs.isMap {b N : Nat} {w : World} {f : Nat → Option ByteArray} (h : MIs b w N f) : ∃ es clock, w.heap[b]? = some (.map es clock) := by
  obtain ⟨n, D, ⟨es, clock, h1, h4⟩, h2, h3⟩ := h
  exact ⟨es, clock, h1⟩
theorem MIs.made (w : World) : MIs w.heap.size (w.alloc (.map #[] 0)) 0 fun _ => none :=
  ⟨0, _, World.ownsMap_made w _ _ _, Nat.le_refl _, fun k _ => ⟨rfl, fun s h => by cases h⟩, fun l h => by cases h⟩
theorem data_eq {a b : ByteArray} (h : a.data.toList = b.data.toList) : a = b := by rw [← st_toList a, ← st_toList b, h]
/-- a look -/
theorem MIs.look {b N : Nat} {w : World} {f : Nat → Option ByteArray} (h : MIs b w N f) (k : Nat) (hk : k < 1048576) :
    (Instr.lookup 135 (.map (some b)) (keyV k) true).run Tryz.prog w = .ok (.tuple #[blk ((f k).getD ByteArray.empty), .bool (f k).isSome]) w := by
  obtain ⟨n, D, h1, h2, h3⟩ := h
  obtain ⟨v, ps, hrun, hv⟩ := h1.look_ok law Tryz.underlying135 (zero67 w) (RB_mk _) (hkey k hk)
  obtain ⟨s, rfl, e⟩ := RB_inv hv
  rw [hrun, (h3.1 k hk).1]
  have e1 : s = (f k).getD ByteArray.empty := by
    cases hf : f k with
    | none =>
      have hn := (h3.1 k hk).1
      rw [hf] at hn
      rw [Maps.atKey_of_not_has hn] at e
      simp only [Prod.mk.injEq, DataW.lit.injEq, Lit.string.injEq] at e
      exact data_eq e.1.symm
    | some x =>
      rw [(h3.1 k hk).2 x hf] at e
      simp only [Prod.mk.injEq, DataW.lit.injEq, Lit.string.injEq] at e
      exact data_eq e.1.symm
  rw [e1]
def upd (f : Nat → Option ByteArray) (k : Nat) (s : ByteArray) : Nat → Option ByteArray := fun j => if j = k then some s else f j
/-- a store -/
theorem MIs.store {b N : Nat} {w : World} {f : Nat → Option ByteArray} (h : MIs b w N f) (hN : N < maxLen) (k : Nat) (hk : k < 1048576) (s : ByteArray) :
    ∃ w', (Instr.mapUpdate 135 (.map (some b)) (keyV k) (blk s)).run Tryz.prog w = .ok () w' ∧ MIs b w' (N + 1) (upd f k s) ∧ w.grownBy w' (some b) ∧ w'.heap.size = w.heap.size := by
  obtain ⟨n, D, h1, h2, h3⟩ := h
  obtain ⟨w', hrun, h4, h5⟩ := h1.store law Tryz.underlying135 (by omega) (hkey k hk) (RB_mk s)
  refine ⟨w', hrun, ⟨n + 1, _, h4, by omega, fun j hj => ?_, fun l hl => ?_⟩, h5.grown, ?_⟩
  · by_cases hjk : j = k
    · subst hjk
      refine ⟨?_, fun x hx z => ?_⟩
      · rw [Maps.has_put_same h1.isMap (law.key (hkey j hj))]; simp [upd]
      · rw [Maps.atKey_put_same h1.isMap (law.key (hkey j hj))]
        simp [upd] at hx
        rw [hx]
    · have hne : kl j ≠ kl k := fun e => hjk (kl_inj hj hk e)
      refine ⟨?_, fun x hx z => ?_⟩
      · rw [Maps.has_put_other hne, (h3.1 j hj).1]; simp [upd, hjk]
      · rw [Maps.atKey_put_other hne]
        simp [upd, hjk] at hx
        exact (h3.1 j hj).2 x hx z
  · by_cases e : l = kl k
    · exact ⟨k, hk, e⟩
    · rw [Maps.has_put_other e] at hl
      exact h3.2 l hl
  · obtain ⟨es, c, es', c', e1, rfl⟩ := h5
    simp [ChangeMaps.setBlock]
/-- all struck -/
theorem MIs.clear {b N : Nat} {w : World} {f : Nat → Option ByteArray} (h : MIs b w N f) (ty : TypeId) :
    ∃ w', (Builtin.clear_ #[135] ty #[.map (some b)]).run Tryz.prog w = .ok (.tuple #[]) w' ∧ MIs b w' 0 (fun _ => none) ∧ w.grownBy w' (some b) ∧ w'.heap.size = w.heap.size := by
  obtain ⟨n, D, ⟨es, clock, h1, F, h4⟩, h2, h3⟩ := h
  refine ⟨_, by simp [Builtin.clear_, run_underlying Tryz.underlying135, MapKept.run_getObj_map h1, MapKept.run_setObj_map _ h1, Result.andThen]; rfl, ?_, ?_, ?_⟩
  · exact ⟨0, .map [], ⟨#[], clock, (MapKept.heap_set h1).1, ⟨by simp, MapKept.stamped_empty clock, by simp⟩, Nat.le_refl _, rfl⟩, Nat.le_refl _, fun k _ => ⟨rfl, fun s h => by cases h⟩, fun l h => by cases h⟩
  · exact ⟨rfl, rfl, rfl, by simp, fun i _ hi => (MapKept.heap_set h1).2 i (fun e => hi (by rw [e]))⟩
  · simp

theorem nodup_len : ∀ (m : Nat) (l : List Nat), l.Pairwise (· ≠ ·) → (∀ x ∈ l, x < m) → l.length ≤ m
  | 0, l, _, h => by
    cases l with
    | nil => exact Nat.le_refl _
    | cons a l => exact absurd (h a (by simp)) (by omega)
  | m + 1, l, hp, h => by
    have h1 := nodup_len m (l.filter (· != m)) (hp.filter _) (fun x hx => by
      have h2 := List.mem_filter.1 hx
      have h3 := h x h2.1
      have h4 : x ≠ m := by simpa using h2.2
      omega)
    have h2 : l.length ≤ (l.filter (· != m)).length + 1 := by
      clear h1 h
      induction l with
      | nil => simp
      | cons a l ih =>
        obtain ⟨ha, hl⟩ := List.pairwise_cons.1 hp
        by_cases e : a = m
        · subst e
          have : l.filter (· != a) = l := List.filter_eq_self.2 (fun x hx => by simpa using (ha x hx).symm)
          simp [this]
        · have := ih hl
          simp [e]
          omega
    omega
/-- there are no more entries than places -/
theorem MIs.shrink {b N : Nat} {w : World} {f : Nat → Option ByteArray} (h : MIs b w N f) : MIs b w 1048576 f := by
  obtain ⟨n, D, h1, h2, h3⟩ := h
  refine ⟨1048576, D, ?_, Nat.le_refl _, h3⟩
  obtain ⟨es', e1, hap, hkl0⟩ := h1.entries law
  have hkeys : ∀ p ∈ es', ∃ k, k < 1048576 ∧ p.1 = kl k := fun p hp => by
    apply h3.2
    rw [e1, Maps.has_eq]
    exact List.any_eq_true.2 ⟨p, hp, WideAt.sameKey_self (hkl0 p hp)⟩
  obtain ⟨es, clock, hb, F, hs, hD⟩ := h1
  refine ⟨es, clock, hb, F, ?_, hD⟩
  have hlen : es.size = es'.length := by
    have : (DataW.map es' : DataW Unit) = .map ((es.toList.map (WideElems.rg Tryz.prog 145 RB)).foldr DataW.insert []) := by rw [← e1, hD]
    cases this
    rw [length_sorted]; simp
  rw [hlen]
  have hch : ∃ ks : List Nat, ks.length = es'.length ∧ ks.Pairwise (· ≠ ·) ∧ (∀ x ∈ ks, x < 1048576) ∧ ∀ x ∈ ks, ∃ p ∈ es', p.1 = kl x := by
    clear hlen hD e1 hkl0
    induction es' with
    | nil => exact ⟨[], rfl, List.Pairwise.nil, (fun x hx => by cases hx), fun x hx => by cases hx⟩
    | cons p es' ih =>
      obtain ⟨hp1, hp2⟩ := List.pairwise_cons.1 hap
      obtain ⟨ks, k1, k2, k3, k4⟩ := ih hp2 (fun q hq => hkeys q (by simp [hq]))
      obtain ⟨k, hk, hkl⟩ := hkeys p (by simp)
      refine ⟨k :: ks, by simp [k1], List.pairwise_cons.2 ⟨fun x hx e => ?_, k2⟩, fun x hx => ?_, fun x hx => ?_⟩
      · obtain ⟨q, hq, hqx⟩ := k4 x hx
        exact hp1 q hq (by rw [hkl, hqx, e])
      · rcases List.mem_cons.1 hx with rfl | hx
        · exact hk
        · exact k3 x hx
      · rcases List.mem_cons.1 hx with rfl | hx
        · exact ⟨p, by simp, hkl⟩
        · obtain ⟨q, hq, hqx⟩ := k4 x hx
          exact ⟨q, by simp [hq], hqx⟩
  obtain ⟨ks, k1, k2, k3, _⟩ := hch
  rw [← k1]
  exact nodup_len 1048576 ks k2 k3
end Go.Proofs.YtopebghandojbaaGreat.Dv
namespace Go.Proofs.YtopebghandojbaaGreat.Dv
open Go.RowKit Go.Maps

theorem inv_gen {P : Program} {k : TypeId} {f0 : Field} (hk : P.underlying k = some (.struct #[f0])) (hoff : f0.offset = 0) (ht : P.underlying f0.type = some (.int .i64)) (hc : P.cellsOf k = 1) (hc0 : P.cellsOf f0.type = 1)
    (d : Nat) (hd : P.types.size = d + 1) {v : Value} {l : Lit} (h : keyOf P k v = some l) : ∃ n : Int, v = .agg #[.int .i64 n] := by
  unfold keyOf at h
  rw [hk, hd] at h
  simp only at h
  split at h
  · rename_i hh
    simp only [Bool.and_eq_true] at hh
    have hf := hh.2
    unfold Value.formed at hf
    rw [hk] at hf
    cases v <;> simp at hf
    rename_i a
    rw [hc] at hf
    obtain ⟨al⟩ := a
    match al, hf with
    | [x], _ =>
      cases x <;> simp [Program.keyLits, hk, hc, hoff, hc0, ht, Value.cells] at h
      rename_i q n _
      by_cases hq : q = .i64
      · subst hq; exact ⟨n, rfl⟩
      · obtain ⟨_, ⟨_, hh2⟩, _⟩ := h
        simp [hq] at hh2
  · cases h
theorem inv65 {v : Value} {l : Lit} (h : keyOf Tryz.prog 145 v = some l) : ∃ n : Int, v = .agg #[.int .i64 n] :=
  inv_gen Tryz.underlying145 rfl Tryz.underlying3 cells65 cells3 271 types_n h

/-- what a map has behind another one's entries were laid in -/
def over2 (fd fs : Nat → Option ByteArray) : Nat → Option ByteArray := fun k => match fs k with | some s => some s | none => fd k
set_option maxHeartbeats 4000000 in
set_option maxRecDepth 100000 in
theorem copy_any (bd bs Nd Ns : Nat) (fd fs : Nat → Option ByteArray) (w : World) (hd : MIs bd w Nd fd) (hs : MIs bs w Ns fs) (hne : bd ≠ bs) (hroom : Nd + Ns ≤ 1000000000) :
    Calls Tryz.prog 80 #[.map (some bd), .map (some bs)] w fun e w' => e = .returned (.tuple #[]) ∧ MIs bd w' (Nd + Ns) (over2 fd fs) ∧ MIs bs w' Ns fs ∧ w.grownBy w' (some bd) := by
  obtain ⟨nd, Dd, hod, hnd, hfd⟩ := hd
  obtain ⟨ns, Ds, hos, hns, hfs⟩ := hs
  have hbd := hod.lt
  have hbs := hos.lt
  have hsz := hos.size_le
  have HFD := hid hfd
  have HFS := hid hfs
  clear hfd hfs
  go_enter Tryz.func80, Tryz.ntmps80
  go_wp2_with (first
    | (at_range; refine wpList_range_own _ rfl _ 135 rfl 145 142 law Tryz.underlying135 RB bs ns _ rfl hos ?_; intro w0 hrg0 hg0 hs0)
    | go_in)
  go_frame
  go_loopw [8] (fun _ wr => ∃ (left : Lit → Bool) (cnt : Nat) (Dout : DataW Unit), wr.ranges Tryz.prog 145 RB bs w.heap.size ns Ds left cnt ∧ cnt ≤ Maps.size Ds ∧
      wr.ownsMap Tryz.prog 145 RB bd (nd + (Maps.size Ds - cnt)) Dout ∧ Merged Dout Dd Ds left ∧ w.grownBy wr (some bd))
    (fun _ wr => wr.rangeLeft bs w.heap.size)
  case atStart =>
    exact ⟨_, _, Dd, hrg0, Nat.le_refl _, (hod.kept hg0 (by simp)).mono (by omega), merged_start Dd Ds, hg0.but _⟩
  case round =>
    obtain ⟨left, cnt, Dout, hrg, hcs, hout, hM, hgw⟩ := hrel
    go_wp2_with (first
      | (at_next; refine wpList_next_ranges _ rfl _ rfl 145 law RB (fun n : Int => .agg #[.int .i64 n]) (fun s : ByteArray => .agg #[.string s]) (fun key _ h => inv65 h) (fun v _ h => by obtain ⟨s, e, _⟩ := RB_inv h; exact ⟨s, e⟩) bs w.heap.size ns _ _ _ rfl hrg ?_ ?_)
      | go_in)
    · intro hc0 hl0
      go_wp2
      go_end0
      subst hc0
      have HA := HFD.out
      have HB := HFS.out
      refine ⟨rfl, ⟨_, _, hout, by omega, fun k hk => ?_, fun l hl => ?_⟩, ⟨ns, Ds, hrg.owns, hns, HB⟩, hgw⟩
      rotate_left
      · rw [hM.1 l, hl0 l] at hl
        simp only [Bool.not_false, Bool.and_true, Bool.or_eq_true] at hl
        rcases hl with hl | hl
        · exact HA.2 l hl
        · exact HB.2 l hl
      have h1 := hM.1 (kl k)
      have h2 := hM.2 (kl k)
      rw [hl0 (kl k)] at h1 h2
      simp only [Bool.not_false, Bool.and_true] at h1 h2
      obtain ⟨a1, a2⟩ := HA.1 k hk
      obtain ⟨b1, b2⟩ := HB.1 k hk
      refine ⟨?_, fun s hss z => ?_⟩
      · rw [h1, a1, b1]
        unfold over2
        cases fs k <;> simp
      · rw [h2, b1]
        unfold over2 at hss
        cases hk2 : fs k with
        | none => rw [hk2] at hss; simp; exact a2 s hss z
        | some x => rw [hk2] at hss; simp; exact b2 s (by rw [hk2]; exact hss) z
    · intro x c kl yd yp w1 cnt1 hkey hlx hv hat hrg1 hlt hg1 hs1 hen
      have hout1 := hout.kept hg1 (fun e => by have := Option.some.inj e; omega)
      have hout2 := (hout1.alloc (Obj.cells #[Value.int IntKind.i64 x] 145)).alloc (Obj.cells #[Value.string c] 142)
      have hrg2 := (hrg1.kept (World.grownBy_alloc w1 (Obj.cells #[Value.int IntKind.i64 x] 145) none) (by simp) (by simp)).kept (World.grownBy_alloc _ (Obj.cells #[Value.string c] 142) none) (by simp) (by simp)
      go_wp2_with (first
        | (at_mapUpdate; refine wpList_mapUpdate_own _ rfl _ _ _ 135 rfl 145 142 law Tryz.underlying135 RB bd _ _ rfl hout2 (by unfold maxLen; omega) _ _ _ rfl rfl hkey yd yp hv ?_; intro w2 hout3 hg2; go_frame)
        | go_in)
      have hrg3 := hrg2.kept hg2 (fun e => hne (Option.some.inj e).symm) (fun e => by have := Option.some.inj e; omega)
      go_roundw
      case rel =>
        refine ⟨_, cnt1, _, hrg3, by omega, hout3.mono (by omega), merged_step hM hout.isMap (law.key hkey) hat, ?_⟩
        refine (((hgw.andThen hg1 (fun j hj => .inl (by cases hj; exact Nat.le_refl _))).andThen (World.grownBy_alloc w1 (Obj.cells #[Value.int IntKind.i64 x] 145) none) (fun j hj => by cases hj)).andThen (World.grownBy_alloc _ (Obj.cells #[Value.string c] 142) none) (fun j hj => by cases hj)).andThen hg2 (fun j hj => .inr hj)
      case measure => rw [hrg3.left_eq, hrg.left_eq]; exact hlt
end Go.Proofs.YtopebghandojbaaGreat.Dv
namespace Go.Proofs.YtopebghandojbaaGreat.Dv
open Go.RowKit Go.Maps

/-- how many blocks a text is, and each -/
def cnt (d : ByteArray) : Nat := d.size / 128
def piece (d : ByteArray) (i : Nat) : ByteArray := d.extract (i * 128) ((i + 1) * 128)
/-- blocks, and a write's first m ones over them -/
def over (f : Nat → Option ByteArray) (a : Nat) (d : ByteArray) (m : Nat) : Nat → Option ByteArray := fun k => if a ≤ k ∧ k < a + m then some (piece d (k - a)) else f k
theorem over_zero (f : Nat → Option ByteArray) (a : Nat) (d : ByteArray) : over f a d 0 = f := by
  funext k; unfold over; rw [if_neg (by omega)]
theorem over_succ (f : Nat → Option ByteArray) (a : Nat) (d : ByteArray) (m : Nat) : upd (over f a d m) (a + m) (piece d m) = over f a d (m + 1) := by
  funext k
  unfold upd over
  by_cases h : k = a + m
  · rw [if_pos h, if_pos (by omega), h, Nat.add_sub_cancel_left]
  · rw [if_neg h]
    by_cases h2 : a ≤ k ∧ k < a + m
    · rw [if_pos h2, if_pos (by omega)]
    · rw [if_neg h2, if_neg (by omega)]
theorem two_cells {w : World} {g : Nat} {u v : Value} {t : TypeId} (h : w.heap[g]? = some (.cells #[u, v] t (0, 0))) : w.cell? ⟨g, 0, none⟩ = some u ∧ w.cell? ⟨g, 1, none⟩ = some v := by
  simp [World.cell?, h]
theorem size_any (a : Int) (d : ByteArray) (_hd : d.size ≤ 1000000000) (w : World) : Calls Tryz.prog 78 #[.agg #[.int .i64 a, .string d]] w fun e w' => e = .returned (.int .i64 (cnt d : Nat)) ∧ Below w.heap.size w w' := by
  unfold cnt
  go_enter Tryz.func78, Tryz.ntmps78
  go_wp2
  go_ret
  exact ⟨ret_int (by omega), below_alloc w _⟩

set_option maxHeartbeats 4000000 in
set_option maxRecDepth 100000 in
theorem do_any (a : Nat) (d : ByteArray) (m b N : Nat) (f : Nat → Option ByteArray) (hm : m ≤ cnt d) (ha : a + m ≤ 1024) (_hd : d.size ≤ 1000000000) (hN : N ≤ 1000000000) (w : World) (h : MIs b w N f) :
    Calls Tryz.prog 79 #[.agg #[.int .i64 a, .string d], .int .i64 m, .map (some b)] w fun e w' => e = .returned (.tuple #[]) ∧ MIs b w' (N + m) (over f a d m) ∧ w.grownBy w' (some b) := by
  have hb := h.lt
  go_enter Tryz.func79, Tryz.ntmps79
  go_wp2
  go_loopw [8] (fun i wr => ∃ j : Nat, i = .int .i64 j ∧ j ≤ m ∧ MIs b wr (N + j) (over f a d j) ∧ wr.heap[w.heap.size]? = some (.cells #[.int .i64 a, .string d] 148 (0, 0)) ∧ w.grownBy wr (some b)) (fun i _ => m - (intOf i).toNat)
  case atStart =>
    refine ⟨0, rfl, Nat.zero_le _, ?_, ?_, World.grownBy_alloc w _ _⟩
    · rw [over_zero]; exact h.same (Below.heap_alloc _ _ _ hb)
    · show (w.heap.push _)[w.heap.size]? = _; simp
  case round =>
    obtain ⟨j, rfl, hj, hM, hc, hg⟩ := hrel
    by_cases hlt : j < m
    · have hlen : (j + 1) * 128 ≤ d.size := by unfold cnt at hm; omega
      obtain ⟨hc0, hc1⟩ := two_cells hc
      obtain ⟨w1, hrun, hM1, hg1, hs1⟩ := MIs.store (w := wr.drew) (hM.same rfl) (by unfold maxLen; omega) (a + j) (by omega) (piece d j)
      have hrun' : (Instr.mapUpdate 135 (.map (some b)) (.agg #[.int .i64 ((a : Int) + (j : Int))]) (.agg #[.string (d.extract (j * 128) ((j + 1) * 128))])).run Tryz.prog wr.drew = .ok () w1 := by
        rw [show ((a : Int) + (j : Int)) = ((a + j : Nat) : Int) by omega]
        exact hrun
      clear hrun
      rw [over_succ] at hM1
      go_wp2
      go_region
      have hcl := lt_of_block hc
      have hg2 : wr.grownBy w1 (some b) := ⟨hg1.os, hg1.tape, hg1.output, hg1.size, hg1.block⟩
      have hc2 := (hg2.block w.heap.size hcl (fun e => by have := Option.some.inj e; omega)).trans hc
      have hg3 := hg.andThen hg2 (fun j hj => .inr hj)
      clear hc hg hg1 hg2 hM hrun' hc0 hc1
      go_wp2
      go_roundw
      case rel => exact ⟨j + 1, by go_num, by omega, hM1, hc2, hg3⟩
      case measure => simp [intOf]; omega
    · have hjm : j = m := by omega
      subst hjm
      go_wp2
      go_end0
      exact ⟨rfl, hM, hg⟩

/-- what a device is: how many blocks, what lasts, what waits -/
structure DS where
  n : Nat
  L : Nat → Option ByteArray
  Q : List (Nat × ByteArray)
/-- what is seen of the writes that wait -/
def seen (f : Nat → Option ByteArray) (Q : List (Nat × ByteArray)) : Nat → Option ByteArray := Q.foldl (fun f q => over f q.1 q.2 (cnt q.2)) f
/-- a write, in the row of the ones that wait -/
def wc (Q : List (Nat × ByteArray)) : List Value := Q.flatMap fun q => [.int .i64 (q.1 : Int), .string q.2]
theorem wc_append (A B : List (Nat × ByteArray)) : wc (A ++ B) = wc A ++ wc B := by simp [wc]
/-- outside some blocks the world is as it was -/
structure Only (fp : List Nat) (w w' : World) : Prop where
  os : w'.os = w.os
  tape : w'.tape = w.tape
  output : w'.output = w.output
  size : w.heap.size ≤ w'.heap.size
  block : ∀ k, k < w.heap.size → k ∉ fp → w'.heap[k]? = w.heap[k]?
theorem Only.refl (fp : List Nat) (w : World) : Only fp w w := ⟨rfl, rfl, rfl, Nat.le_refl _, fun _ _ _ => rfl⟩
theorem Only.of_below {fp : List Nat} {w w' : World} (h : Below w.heap.size w w') : Only fp w w' := ⟨h.os, h.tape, h.output, h.size, fun k hk _ => h.block k hk⟩
theorem Only.of_grown {fp : List Nat} {w w' : World} {b : Nat} (h : w.grownBy w' (some b)) (hb : b ∈ fp) : Only fp w w' := ⟨h.os, h.tape, h.output, h.size, fun k hk hn => h.block k hk (fun e => hn (by have := Option.some.inj e; subst this; exact hb))⟩
theorem Only.trans {fp fp' : List Nat} {w w1 w2 : World} (h : Only fp w w1) (k : Only fp' w1 w2) (hf : ∀ x ∈ fp', x ∈ fp ∨ w.heap.size ≤ x) : Only fp w w2 :=
  ⟨k.os.trans h.os, k.tape.trans h.tape, k.output.trans h.output, Nat.le_trans h.size k.size, fun i hi hn => (k.block i (Nat.lt_of_lt_of_le hi h.size) (fun hm => by rcases hf i hm with h1 | h1; exact hn h1; omega)).trans (h.block i hi hn)⟩
theorem Only.below {fp : List Nat} {w w' : World} {B : Nat} (h : Only fp w w') (hB : B ≤ w.heap.size) (hf : ∀ x ∈ fp, B ≤ x) : Below B w w' :=
  ⟨h.os, h.tape, h.output, h.size, fun k hk => h.block k (by omega) (fun hm => by have := hf k hm; omega)⟩
theorem Only.setCell {fp : List Nat} {w : World} {a : Addr} (v : Value) (ha : a.block ∈ fp) : Only fp w (w.setCell a v) :=
  ⟨rfl, rfl, rfl, by simp [World.setCell], fun k _ hn => Below.heap_setCell _ _ _ _ (fun e => hn (by rw [e]; exact ha))⟩
theorem Only.drew {fp : List Nat} {w w' : World} (h : Only fp w w') : Only fp w w'.drew := ⟨h.os, h.tape, h.output, h.size, h.block⟩

/-- a device, behind the pointer to block g; the blocks of memory that are its; at most N entries in each map -/
structure DIs (base g : Nat) (w : World) (N : Nat) (S : DS) (fp : List Nat) : Prop where
  ex : ∃ bl bf wv, w.heap[g]? = some (.cells #[.int .i64 (S.n : Int), .map (some bl), .map (some bf), wv] 138 (0, 0)) ∧ bl ≠ bf ∧
    MIs bl w N S.L ∧ MIs bf w N (seen (fun _ => none) S.Q) ∧ w.ownsRow base 148 2 wv S.Q.length (wc S.Q) ∧ g ∈ fp ∧ bl ∈ fp ∧ bf ∈ fp ∧ (∀ b, wv.ownBlock = some b → b ∈ fp)
  n1 : 1 ≤ S.n
  n2 : S.n ≤ 1024
  ok : ∀ q ∈ S.Q, q.1 + cnt q.2 ≤ S.n ∧ q.2.size ≤ 1000000
  lo : ∀ k ∈ fp, base ≤ k ∧ k < w.heap.size
theorem DIs.other {base g N : Nat} {w w' : World} {S : DS} {fp fp' : List Nat} (h : DIs base g w N S fp) (k : Only fp' w w') (hd : ∀ x ∈ fp, x ∉ fp') : DIs base g w' N S fp := by
  obtain ⟨⟨bl, bf, wv, h1, h2, h3, h4, h5, m1, m2, m3, m4⟩, h6, h7, h8, h9⟩ := h
  have hb : ∀ x ∈ fp, w'.heap[x]? = w.heap[x]? := fun x hx => k.block x (h9 x hx).2 (hd x hx)
  refine ⟨⟨bl, bf, wv, (hb g m1).trans h1, h2, h3.same (hb bl m2), h4.same (hb bf m3), ?_, m1, m2, m3, m4⟩, h6, h7, h8, fun x hx => ⟨(h9 x hx).1, Nat.lt_of_lt_of_le (h9 x hx).2 k.size⟩⟩
  obtain ⟨e1, e2 | ⟨b, cap, cur, rfl, e3, e4, e5⟩⟩ := h5
  · exact ⟨e1, .inl e2⟩
  · exact ⟨e1, .inr ⟨b, cap, cur, rfl, e3, (hb b (m4 b rfl)).trans e4, e5⟩⟩
theorem DIs.below {base g N : Nat} {w w' : World} {S : DS} {fp : List Nat} (h : DIs base g w N S fp) (k : Below w.heap.size w w') : DIs base g w' N S fp :=
  h.other (fp' := []) (Only.of_below k) (fun _ _ => by simp)
theorem DIs.mono {base g N N' : Nat} {w : World} {S : DS} {fp : List Nat} (h : DIs base g w N S fp) (hn : N ≤ N') : DIs base g w N' S fp := by
  obtain ⟨⟨bl, bf, wv, h1, h2, h3, h4, h5⟩, h6, h7, h8, h9⟩ := h
  exact ⟨⟨bl, bf, wv, h1, h2, h3.mono hn, h4.mono hn, h5⟩, h6, h7, h8, h9⟩
theorem DIs.lt {base g N : Nat} {w : World} {S : DS} {fp : List Nat} (h : DIs base g w N S fp) : g < w.heap.size := by
  obtain ⟨⟨bl, bf, wv, h1, _⟩, _⟩ := h
  exact lt_of_block h1
theorem four_cells {w : World} {g : Nat} {a b c d : Value} {t : TypeId} (h : w.heap[g]? = some (.cells #[a, b, c, d] t (0, 0))) :
    w.cell? ⟨g, 0, none⟩ = some a ∧ w.cell? ⟨g, 1, none⟩ = some b ∧ w.cell? ⟨g, 2, none⟩ = some c ∧ w.cell? ⟨g, 3, none⟩ = some d := by
  simp [World.cell?, h]
theorem four_free {w : World} {g : Nat} {a b c d : Value} {t : TypeId} (h : w.heap[g]? = some (.cells #[a, b, c, d] t (0, 0))) (i : Nat) : w.frozen? ⟨g, i, none⟩ = false := by
  simp [World.frozen?, h]
theorem four_set3 {w : World} {g : Nat} {a b c d u : Value} {t : TypeId} (h : w.heap[g]? = some (.cells #[a, b, c, d] t (0, 0))) : (w.setCell ⟨g, 3, none⟩ u).heap[g]? = some (.cells #[a, b, c, u] t (0, 0)) := by
  have hlt := lt_of_block h
  have h' : w.heap[g] = .cells #[a, b, c, d] t (0, 0) := by simpa [Array.getElem?_eq_getElem hlt] using h
  show (w.heap.modify g _)[g]? = _
  rw [Array.getElem?_eq_getElem (by simpa using hlt), Array.getElem_modify_self, h']
  rfl

theorem blocks_any {base g N : Nat} {S : DS} {fp : List Nat} (w : World) (h : DIs base g w N S fp) : Calls Tryz.prog 50 #[.pointer (some ⟨g, 0, none⟩)] w fun e w' => e = .returned (.int .i64 S.n) ∧ w' = w := by
  obtain ⟨⟨bl, bf, wv, h1, _⟩, _⟩ := h
  obtain ⟨c0, c1, c2, c3⟩ := four_cells h1
  clear h1 c1 c2 c3
  go_enter Tryz.func50, Tryz.ntmps50
  go_wp2
  go_ret
  exact ⟨rfl, rfl⟩
theorem waits_any {base g N : Nat} {S : DS} {fp : List Nat} (w : World) (h : DIs base g w N S fp) : Calls Tryz.prog 22 #[.pointer (some ⟨g, 0, none⟩)] w fun e w' => e = .returned (.int .i64 S.Q.length) ∧ w' = w := by
  obtain ⟨⟨bl, bf, wv, h1, _, _, _, h5, _⟩, _⟩ := h
  obtain ⟨c0, c1, c2, c3⟩ := four_cells h1
  clear h1 c1 c2 c0
  obtain ⟨e1, ⟨rfl, e2⟩ | ⟨b, cap, cur, rfl, e3, e4, e5⟩⟩ := h5
  · rw [e2]
    clear e1 e2
    go_enter Tryz.func22, Tryz.ntmps22
    go_wp2
    go_ret
    exact ⟨rfl, rfl⟩
  · clear e1 e3 e4 e5
    go_enter Tryz.func22, Tryz.ntmps22
    go_wp2
    go_ret
    exact ⟨rfl, rfl⟩
theorem new_any (n : Nat) (h1 : 1 ≤ n) (h2 : n ≤ 1024) (base : Nat) (w : World) (hb : base ≤ w.heap.size) :
    Calls Tryz.prog 27 #[.int .i64 n] w fun e w' => e = .returned (.tuple #[.pointer (some ⟨w.heap.size + 2, 0, none⟩), .int .i64 0]) ∧ DIs base (w.heap.size + 2) w' 0 ⟨n, fun _ => none, []⟩ [w.heap.size, w.heap.size + 1, w.heap.size + 2] ∧ Below w.heap.size w w' := by
  have hmm := @run_makeMap Tryz.prog
  go_enter Tryz.func27, Tryz.ntmps27
  go_wp2
  go_ret2
  have e1 : (w.alloc (.map #[] 0)).heap.size = w.heap.size + 1 := by simp
  have e2 : ((w.alloc (.map #[] 0)).alloc (.map #[] 0)).heap.size = w.heap.size + 2 := by simp
  refine ⟨rfl, ⟨⟨w.heap.size, w.heap.size + 1, .slice none 0 0, ?_, by omega, ?_, ?_, World.ownsRow_nil _ _ _ _, by simp, by simp, by simp, (fun b h => by cases h)⟩, h1, h2, (fun q hq => by cases hq), fun k hk => ?_⟩, ?_⟩
  · have hp : ((w.heap.push (Obj.map #[] 0)).push (Obj.map #[] 0)).size = w.heap.size + 2 := by simp
    show (((w.heap.push (Obj.map #[] 0)).push (Obj.map #[] 0)).push _)[w.heap.size + 2]? = _
    rw [← hp]
    exact Array.getElem?_push_size
  · refine (MIs.made w).same ((Below.heap_alloc _ _ _ (by rw [e2]; omega)).trans (Below.heap_alloc _ _ _ (by rw [e1]; omega)))
  · have := MIs.made (w.alloc (.map #[] 0))
    rw [e1] at this
    exact this.same (Below.heap_alloc _ _ _ (by rw [e2]; omega))
  · have e3 : ∀ o, (((w.alloc (.map #[] 0)).alloc (.map #[] 0)).alloc o).heap.size = w.heap.size + 3 := fun o => by simp
    simp at hk
    rw [e3]
    rcases hk with rfl | rfl | rfl <;> omega
  · exact (((Below.refl w.heap.size w).alloc (Nat.le_refl _) _).alloc (by rw [e1]; omega) _).alloc (by rw [e2]; omega) _
end Go.Proofs.YtopebghandojbaaGreat.Dv
namespace Go.Proofs.YtopebghandojbaaGreat.Dv
open Go.RowKit Go.Maps

theorem has_any {base g N : Nat} {S : DS} {fp : List Nat} (a : Int) (w : World) (h : DIs base g w N S fp) : Calls Tryz.prog 75 #[.pointer (some ⟨g, 0, none⟩), .int .i64 a] w fun e w' => e = .returned (.bool (decide (0 ≤ a ∧ a < S.n))) ∧ w' = w := by
  have HB := hid (blocks_any w h)
  clear h
  by_cases h1 : 0 ≤ a
  · by_cases h2 : a < S.n
    · rw [decide_eq_true ⟨h1, h2⟩]
      go_enter Tryz.func75, Tryz.ntmps75
      go_wp2_with (first | (go_at_call 50; refine HB.out.mono ?_; rintro e w1 ⟨rfl, rfl⟩))
      go_ret
      exact ⟨rfl, rfl⟩
    · rw [decide_eq_false (fun h => h2 h.2)]
      have h3 : decide (a < (S.n : Int)) = false := decide_eq_false h2
      go_enter Tryz.func75, Tryz.ntmps75
      go_wp2_with (first | (go_at_call 50; refine HB.out.mono ?_; rintro e w1 ⟨rfl, rfl⟩))
      go_ret
      exact ⟨rfl, rfl⟩
  · rw [decide_eq_false (fun h => h1 h.1)]
    go_enter Tryz.func75, Tryz.ntmps75
    go_wp2
    go_ret
    exact ⟨rfl, rfl⟩
theorem read_none {base g N : Nat} {S : DS} {fp : List Nat} (a : Int) (ha : ¬ (0 ≤ a ∧ a < S.n)) (w : World) (h : DIs base g w N S fp) : Calls Tryz.prog 25 #[.pointer (some ⟨g, 0, none⟩), .int .i64 a] w fun e w' => e = .returned (.tuple #[.string ByteArray.empty, .int .i64 6]) ∧ w' = w := by
  have HB := hid (has_any a w h)
  rw [decide_eq_false ha] at HB
  clear h
  go_enter Tryz.func25, Tryz.ntmps25
  go_wp2_with (first | (go_at_call 75; refine HB.out.mono ?_; rintro e w1 ⟨rfl, rfl⟩))
  go_ret2
  exact ⟨rfl, rfl⟩
/-- bytes in a row of their own -/
def CIs (g : Nat) (w : World) (l : List UInt8) : Prop := w.heap[g]? = some (.cells (bc l).toArray 5 (0, 0))
theorem CIs.get {g : Nat} {w : World} {l : List UInt8} (h : CIs g w l) (j : Nat) (hj : j < l.length) : w.cell? ⟨g, j, none⟩ = some (.int .u8 ((l[j]).toNat : Int)) := by
  unfold CIs at h
  simp [World.cell?, h, bc, hj]
theorem CIs.free {g : Nat} {w : World} {l : List UInt8} (h : CIs g w l) (j : Nat) : w.frozen? ⟨g, j, none⟩ = false := by
  unfold CIs at h
  simp [World.frozen?, h]
theorem CIs.set {g : Nat} {w : World} {l : List UInt8} (h : CIs g w l) (j : Nat) (b : UInt8) (x : Int) (hx : x = (b.toNat : Int)) : CIs g (w.setCell ⟨g, j, none⟩ (.int .u8 x)) (l.set j b) := by
  unfold CIs at *
  have hlt := lt_of_block h
  have h' : w.heap[g] = .cells (bc l).toArray 5 (0, 0) := by simpa [Array.getElem?_eq_getElem hlt] using h
  subst hx
  show (w.heap.modify g _)[g]? = _
  rw [Array.getElem?_eq_getElem (by simpa using hlt), Array.getElem_modify_self, h']
  simp [bc, List.map_set]
theorem CIs.conv {g : Nat} {w : World} {l : List UInt8} (h : CIs g w l) (cap : Nat) : (convert 164 9 (.slice (some ⟨g, 0, none⟩) l.length cap)).run Tryz.prog w = .ok (.string (st l)) w := by
  rw [← strOf_bytes]
  refine run_convert_bytes_arg w 164 5 Tryz.underlying164 Tryz.underlying5 g 0 l.length cap _ (by simp) (fun i hi => ?_) 9 Tryz.underlying9
  have hi' : i < l.length := by simpa using hi
  rw [Nat.zero_add, h.get i hi']
  simp [List.getElem?_eq_getElem hi']
theorem Tryz.info5 : (Tryz.prog.info? 5).map (fun i => (i.zero, i.size, i.bytes)) = some (some (.int .u8 0), 1, 1) := by kernel_rfl
theorem made128 : madeCells (Value.int .u8 0).cells 128 = (bc (List.replicate 128 0)).toArray := by kernel_rfl
theorem mk128 (w : World) : (Instr.makeSlice 164 (.int .i64 128) (.int .i64 128)).run Tryz.prog w = .ok (.slice (some ⟨w.heap.size, 0, none⟩) 128 128) (w.alloc (.cells (bc (List.replicate 128 0)).toArray 5)) := by
  obtain ⟨i0, hi, hz0, hz1, hz2⟩ := info_parts Tryz.info5
  have := run_makeSlice (P := Tryz.prog) w 164 5 i0 (.int .u8 0) Tryz.underlying164 hi hz0 .i64 .i64 128 128 (by decide) (by decide) (by rw [hz1]; decide) (by rw [hz2]; decide) (by decide)
  rw [hz1] at this
  have e : (128 : Int).toNat * 1 = 128 := rfl
  rw [e, made128] at this
  exact this
theorem CIs.made (w : World) (l : List UInt8) : CIs w.heap.size (w.alloc (.cells (bc l).toArray 5)) l := by
  show (w.heap.push _)[w.heap.size]? = _
  simp
/-- a block of bytes 0 -/
def Z : ByteArray := st (List.replicate 128 0)
set_option maxRecDepth 100000 in
theorem lasts_any {base g N : Nat} {S : DS} {fp : List Nat} (k : Nat) (hk : k < S.n) (w : World) (h : DIs base g w N S fp) : Calls Tryz.prog 76 #[.pointer (some ⟨g, 0, none⟩), .int .i64 k] w fun e w' => e = .returned (.tuple #[.string ((S.L k).getD Z), .int .i64 0]) ∧ Below w.heap.size w w' := by
  have HB := hid (has_any k w h)
  rw [decide_eq_true (show (0 : Int) ≤ k ∧ (k : Int) < S.n by omega)] at HB
  have hn := h.n2
  obtain ⟨⟨bl, bf, wv, h1, _, h3, _⟩, _⟩ := h
  obtain ⟨c0, c1, c2, c3⟩ := four_cells h1
  have hl := h3.look k (by omega)
  unfold keyV blk at hl
  clear h1 h3 c0 c2 c3
  cases hL : S.L k with
  | some s =>
    rw [hL] at hl
    simp only [Option.getD_some, Option.isSome_some] at hl ⊢
    go_enter Tryz.func76, Tryz.ntmps76
    go_wp2_with (first | (go_at_call 75; refine HB.out.mono ?_; rintro e w1 ⟨rfl, rfl⟩))
    go_ret2
    exact ⟨rfl, below_alloc _ _⟩
  | none =>
    rw [hL] at hl
    simp only [Option.getD_none, Option.isSome_none] at hl ⊢
    have hmk := mk128
    have hcv : ∀ w : World, (convert 164 9 (.slice (some ⟨w.heap.size, 0, none⟩) 128 128)).run Tryz.prog (w.alloc (.cells (bc (List.replicate 128 0)).toArray 5)) = .ok (.string Z) (w.alloc (.cells (bc (List.replicate 128 0)).toArray 5)) := fun w => (CIs.made w (List.replicate 128 0)).conv 128
    obtain ⟨Z0, hZ0⟩ : ∃ z, z = Z := ⟨_, rfl⟩
    rw [← hZ0] at hcv ⊢
    obtain ⟨cs, hcs⟩ : ∃ cs, cs = (bc (List.replicate 128 0)).toArray := ⟨_, rfl⟩
    rw [← hcs] at hmk hcv
    clear hcs hZ0
    have hcv1 := hcv (w.alloc (.cells #[.string ByteArray.empty] 142))
    rw [show (w.alloc (.cells #[.string ByteArray.empty] 142)).heap.size = w.heap.size + 1 by simp] at hcv1
    clear hcv
    go_enter Tryz.func76, Tryz.ntmps76
    go_wp2_with (first | (go_at_call 75; refine HB.out.mono ?_; rintro e w1 ⟨rfl, rfl⟩))
    go_ret2
    exact ⟨rfl, (below_alloc _ _).next (below_alloc _ _)⟩

theorem seen_eq (Q : List (Nat × ByteArray)) : ∀ (f : Nat → Option ByteArray), seen f Q = over2 f (seen (fun _ => none) Q) := by
  have key : ∀ (Q : List (Nat × ByteArray)) (f g : Nat → Option ByteArray), seen (over2 f g) Q = over2 f (seen g Q) := by
    intro Q
    induction Q with
    | nil => intro f g; rfl
    | cons q Q ih =>
      intro f g
      show seen (over (over2 f g) q.1 q.2 (cnt q.2)) Q = over2 f (seen (over g q.1 q.2 (cnt q.2)) Q)
      rw [← ih]
      congr 1
      funext k
      unfold over over2
      by_cases h : q.1 ≤ k ∧ k < q.1 + cnt q.2
      · simp [h]
      · simp [h]
  intro f
  rw [← key]
  congr 1
set_option maxRecDepth 100000 in
theorem read_any {base g N : Nat} {S : DS} {fp : List Nat} (k : Nat) (hk : k < S.n) (w : World) (h : DIs base g w N S fp) : Calls Tryz.prog 25 #[.pointer (some ⟨g, 0, none⟩), .int .i64 k] w fun e w' => e = .returned (.tuple #[.string ((seen S.L S.Q k).getD Z), .int .i64 0]) ∧ Below w.heap.size w w' := by
  have HB := hid (has_any k w h)
  rw [decide_eq_true (show (0 : Int) ≤ k ∧ (k : Int) < S.n by omega)] at HB
  have HL := hid (fun w' (hb : Below w.heap.size w w') => lasts_any k hk w' (h.below hb))
  have hn := h.n2
  rw [seen_eq]
  obtain ⟨⟨bl, bf, wv, h1, _, _, h3, _⟩, _⟩ := h
  obtain ⟨c0, c1, c2, c3⟩ := four_cells h1
  have hl := h3.look k (by omega)
  unfold keyV blk at hl
  unfold over2
  clear h1 h3 c0 c1 c3
  cases hL : seen (fun _ => none) S.Q k with
  | some s =>
    rw [hL] at hl
    simp only [Option.getD_some, Option.isSome_some] at hl ⊢
    go_enter Tryz.func25, Tryz.ntmps25
    go_wp2_with (first | (go_at_call 75; refine HB.out.mono ?_; rintro e w1 ⟨rfl, rfl⟩))
    go_ret2
    exact ⟨rfl, below_alloc _ _⟩
  | none =>
    rw [hL] at hl
    simp only [Option.getD_none, Option.isSome_none] at hl ⊢
    go_enter Tryz.func25, Tryz.ntmps25
    go_wp2_with (first
      | (go_at_call 75; refine HB.out.mono ?_; rintro e w1 ⟨rfl, hw1⟩; subst hw1)
      | (go_at_call 76; refine (HL.out _ (below_alloc _ _)).mono ?_; rintro e w2 ⟨rfl, hb2⟩))
    go_ret2
    exact ⟨rfl, (below_alloc _ _).next hb2⟩

/-- a block of one byte -/
def B (c : UInt8) : ByteArray := st (List.replicate 128 c)
theorem rep_set (c : UInt8) (j : Nat) (h : j < 128) : (List.replicate j c ++ List.replicate (128 - j) 0).set j c = List.replicate (j + 1) c ++ List.replicate (128 - (j + 1)) 0 := by
  rw [List.set_append_right _ _ (by simp)]
  simp only [List.length_replicate, Nat.sub_self]
  rw [show 128 - j = (128 - (j + 1)) + 1 by omega, List.replicate_succ, List.set_cons_zero, List.replicate_succ', List.append_assoc]
  rfl
set_option maxRecDepth 100000 in
set_option maxHeartbeats 1000000 in
theorem block_any (c : UInt8) (w : World) : Calls Tryz.prog 49 #[.int .u8 (c.toNat : Int)] w fun e w' => e = .returned (.string (B c)) ∧ Below w.heap.size w w' := by
  have hmk := mk128 w
  obtain ⟨wm, hwm⟩ : ∃ wm, wm = w.alloc (.cells (bc (List.replicate 128 0)).toArray 5) := ⟨_, rfl⟩
  have hC : CIs w.heap.size wm (List.replicate 128 0) := by rw [hwm]; exact CIs.made w _
  have hB : Below w.heap.size w wm := by rw [hwm]; exact below_alloc w _
  rw [← hwm] at hmk
  clear hwm
  go_enter Tryz.func49, Tryz.ntmps49
  go_wp2
  go_loopw [8] (fun i wr => ∃ j : Nat, i = .int .i64 j ∧ j ≤ 128 ∧ CIs w.heap.size wr (List.replicate j c ++ List.replicate (128 - j) 0) ∧ Below w.heap.size w wr) (fun i _ => 128 - (intOf i).toNat)
  case atStart => exact ⟨0, rfl, by decide, hC, hB⟩
  case round =>
    obtain ⟨j, rfl, hj, hC2, hB2⟩ := hrel
    have HC := hid hC2
    have HB := hid hB2
    clear hC2 hB2 hC hB hmk
    by_cases hlt : j < 128
    · have hlen : (List.replicate j c ++ List.replicate (128 - j) 0).length = 128 := by simp; omega
      have hcell := HC.out.get j (by rw [hlen]; exact hlt)
      have hfree := HC.out.free j
      have HC2 := hid (HC.out.set j c _ rfl)
      rw [rep_set c j hlt] at HC2
      obtain ⟨x, hx⟩ : ∃ x, x = ((List.replicate j c ++ List.replicate (128 - j) 0)[j]'(by rw [hlen]; exact hlt)) := ⟨_, rfl⟩
      rw [← hx] at hcell
      clear hx hlen
      go_wp2
      go_roundw
      case rel => exact ⟨j + 1, by go_num, by omega, HC2.out, HB.out.setCell (Nat.le_refl _) _⟩
      case measure => simp [intOf]; omega
    · have hj2 : j = 128 := by omega
      subst hj2
      have hcv := HC.out.conv 128
      have hl2 : (List.replicate 128 c ++ List.replicate (128 - 128) (0 : UInt8)).length = 128 := by simp
      rw [hl2] at hcv
      clear hl2
      have e : st (List.replicate 128 c ++ List.replicate (128 - 128) 0) = B c := by unfold B; simp
      rw [e] at hcv
      obtain ⟨Bc, hBc⟩ : ∃ b, b = B c := ⟨_, rfl⟩
      rw [← hBc] at hcv
      have HBc := hid hBc
      clear hBc e
      go_wp2
      go_ret
      exact ⟨by rw [← HBc.out]; rfl, HB.out⟩

theorem Only.of_set3 {fp : List Nat} {w w1 : World} {g : Nat} (v : Value) (h : Only fp w w1) (hg : g ∈ fp) : Only fp w (w1.setCell ⟨g, 3, none⟩ v) :=
  h.trans (Only.setCell v hg) (fun _ hx => .inl hx)
/-- nothing waits any more -/
theorem forget_any {base g N : Nat} {S : DS} {fp : List Nat} (w : World) (h : DIs base g w N S fp) : Calls Tryz.prog 81 #[.pointer (some ⟨g, 0, none⟩)] w fun e w' => e = .returned (.tuple #[]) ∧ DIs base g w' N ⟨S.n, S.L, []⟩ fp ∧ Only fp w w' := by
  have HH := hid h
  obtain ⟨⟨bl, bf, wv, h1, h2, h3, h4, h5, m1, m2, m3, m4⟩, n1, n2, hok, hlo⟩ := h
  obtain ⟨c0, c1, c2, c3⟩ := four_cells h1
  obtain ⟨esf, kf1, hmf⟩ := h4.isMap
  obtain ⟨esl, kl1, hml⟩ := h3.isMap
  have hgb : g ≠ bf := fun e => by rw [e, hmf] at h1; cases h1
  have hgl : g ≠ bl := fun e => by rw [e, hml] at h1; cases h1
  obtain ⟨w1, hrun, hM1, hg1, hs1⟩ := h4.clear 0
  have hrun' : ∀ ty, (Builtin.clear_ #[135] ty #[.map (some bf)]).run Tryz.prog w = .ok (.tuple #[]) w1 := fun ty => by
    rw [← hrun]; rfl
  clear hrun
  have hk1 := (hg1.block g (lt_of_block h1) (fun e => hgb (Option.some.inj e))).trans h1
  obtain ⟨k0, k1, k2, k3⟩ := four_cells hk1
  have hf := four_free hk1 3
  have hfin : DIs base g (w1.setCell ⟨g, 3, none⟩ (.slice none 0 0)) N ⟨S.n, S.L, []⟩ fp := by
    refine ⟨⟨bl, bf, .slice none 0 0, four_set3 hk1, h2, h3.same ((Below.heap_setCell _ _ _ _ (fun e => hgl e.symm)).trans (hg1.block bl h3.lt (fun e => h2 (Option.some.inj e)))), (hM1.same (Below.heap_setCell _ _ _ _ (fun e => hgb e.symm))).mono (Nat.zero_le _), World.ownsRow_nil _ _ _ _, m1, m2, m3, (fun b hb => by cases hb)⟩, n1, n2, (fun q hq => by cases hq), fun k hk => ?_⟩
    have := hlo k hk
    have e9 : (w1.setCell ⟨g, 3, none⟩ (.slice none 0 0)).heap.size = w1.heap.size := by simp [World.setCell]
    rw [e9, hs1]; exact this
  have hO : Only fp w (w1.setCell ⟨g, 3, none⟩ (.slice none 0 0)) := (Only.of_grown hg1 m3).of_set3 _ m1
  have HF := hid (And.intro hfin hO)
  clear hfin hO h1 h3 h4 h5 hM1 hg1 hk1 hmf hml hlo hok m1 m2 m3 m4
  go_enter Tryz.func81, Tryz.ntmps81
  go_wp2
  go_end0
  exact ⟨rfl, HF.out.1, HF.out.2⟩
end Go.Proofs.YtopebghandojbaaGreat.Dv
