import Derived.Test.YtabkfmmbjjchdaaRows
import Derived.RowKit
import Derived.OpenShut
import Derived.OneCell
import Derived.Below
import Derived.Deep.Draws
import Derived.WalkKit
import Derived.ProofKit
import Derived.WalkSpells
import Derived.WalkSmall
import Derived.Handy
import Derived.Deep.QuietTactic
import Derived.BigQuiet
import Derived.BigRegion
import Derived.Deep.RegionWith
import Derived.Deep.RegionHeld3
import Derived.Deep.DeepCutAuto
import Derived.Deep.DeepFit
import Derived.Deep.CutBlock
import Derived.Laws.ResultCell
import Derived.Maps.Ext
import Derived.WideKeyEntry
import Derived.Shelf.SlIterI.Nil
import Derived.Shelf.SlIterI.Sorted
import Derived.Shelf.SortM.Plain
import Derived.Shelf.SortM.SortNone
namespace Go.Proofs.Ytabkfmmbjjchdaa
open Go.RowKit Go.Maps

theorem hid {p : Prop} (h : p) : Hid p := h
def inI (n : Int) : Prop := -9223372036854775808 ≤ n ∧ n ≤ 9223372036854775807
/-- what is known of a client: its last request, whether it is done, the result; nv: the names as they lie, ns: as they read -/
structure Kx where
  k : Int
  n : Int
  d : Bool
  e : Int
  t : ByteArray
  a : Int
  b : Int
  c : Int
  nv : Value
  ns : List ByteArray
/-- a request as a value -/
def Kx.v (x : Kx) : Value := .agg #[.int .i64 x.n, .bool x.d, .int .i64 x.e, .string x.t, .int .i64 x.a, .int .i64 x.b, .int .i64 x.c, x.nv]
def Rise (l : List Kx) : Prop := l.Pairwise fun a b => a.k < b.k
/-- what is known with one more; of its client the new one -/
def withL : List Kx → Kx → List Kx
  | [], c => [c]
  | x :: l, c => if x.k < c.k then x :: withL l c else if x.k = c.k then c :: l else c :: x :: l
theorem withL_mem : ∀ {l : List Kx} (_ : Rise l) (c x : Kx), x ∈ withL l c ↔ x = c ∨ (x ∈ l ∧ x.k ≠ c.k)
  | [], _, c, x => by simp [withL]
  | y :: l, h, c, x => by
    unfold Rise at h
    rw [List.pairwise_cons] at h
    have ih := withL_mem (l := l) h.2 c x
    unfold withL
    by_cases h1 : y.k < c.k
    · rw [if_pos h1, List.mem_cons, ih, List.mem_cons]
      constructor
      · rintro (rfl | rfl | h3)
        · exact .inr ⟨.inl rfl, by omega⟩
        · exact .inl rfl
        · exact .inr ⟨.inr h3.1, h3.2⟩
      · rintro (rfl | ⟨rfl | h3, h4⟩)
        · exact .inr (.inl rfl)
        · exact .inl rfl
        · exact .inr (.inr ⟨h3, h4⟩)
    · rw [if_neg h1]
      by_cases h2 : y.k = c.k
      · rw [if_pos h2, List.mem_cons, List.mem_cons]
        constructor
        · rintro (rfl | h3)
          · exact .inl rfl
          · exact .inr ⟨.inr h3, by have := h.1 x h3; omega⟩
        · rintro (rfl | ⟨rfl | h3, h4⟩)
          · exact .inl rfl
          · exact absurd h2 h4
          · exact .inr h3
      · rw [if_neg h2, List.mem_cons, List.mem_cons]
        constructor
        · rintro (rfl | rfl | h3)
          · exact .inl rfl
          · exact .inr ⟨.inl rfl, h2⟩
          · exact .inr ⟨.inr h3, by have := h.1 x h3; omega⟩
        · rintro (rfl | ⟨rfl | h3, h4⟩)
          · exact .inl rfl
          · exact .inr (.inl rfl)
          · exact .inr (.inr h3)
theorem withL_rise : ∀ {l : List Kx} (_ : Rise l) (c : Kx), Rise (withL l c)
  | [], _, c => by simp [withL, Rise]
  | y :: l, h, c => by
    have h0 := h
    unfold Rise at h
    rw [List.pairwise_cons] at h
    have ih := withL_rise (l := l) h.2 c
    unfold withL
    by_cases h1 : y.k < c.k
    · rw [if_pos h1]
      unfold Rise
      rw [List.pairwise_cons]
      refine ⟨fun x hx => ?_, ih⟩
      rcases (withL_mem h.2 c x).1 hx with rfl | ⟨hx, _⟩
      · exact h1
      · exact h.1 x hx
    · rw [if_neg h1]
      by_cases h2 : y.k = c.k
      · rw [if_pos h2]
        unfold Rise
        rw [List.pairwise_cons]
        exact ⟨fun x hx => by have := h.1 x hx; omega, h.2⟩
      · rw [if_neg h2]
        unfold Rise
        rw [List.pairwise_cons]
        refine ⟨fun x hx => ?_, h0⟩
        rcases List.mem_cons.1 hx with rfl | hx
        · omega
        · have := h.1 x hx; omega
theorem withL_len : ∀ {l : List Kx} (_ : Rise l) (c : Kx), (withL l c).length = if l.any (fun x => x.k == c.k) then l.length else l.length + 1
  | [], _, c => by simp [withL]
  | y :: l, h, c => by
    unfold Rise at h
    rw [List.pairwise_cons] at h
    have ih := withL_len (l := l) h.2 c
    unfold withL
    by_cases h1 : y.k < c.k
    · have e : (y.k == c.k) = false := by simp; omega
      rw [if_pos h1, List.length_cons, ih, List.any_cons, e, Bool.false_or]
      split <;> simp
    · rw [if_neg h1]
      by_cases h2 : y.k = c.k
      · rw [if_pos h2]
        have e : (y.k == c.k) = true := by simp [h2]
        rw [List.any_cons, e]; simp
      · rw [if_neg h2]
        have e : (y.k == c.k) = false := by simp [h2]
        have e2 : l.any (fun x => x.k == c.k) = false := by
          rw [List.any_eq_false]
          intro x hx
          have := h.1 x hx
          simp; omega
        rw [List.any_cons, e, e2]; simp
/-- two rising lists of the same changes are one -/
theorem rise_unique : ∀ {a b : List Kx}, Rise a → Rise b → (∀ x, x ∈ a ↔ x ∈ b) → a = b
  | [], [], _, _, _ => rfl
  | [], y :: b, _, _, h => by have := (h y).2 (by simp); cases this
  | x :: a, [], _, _, h => by have := (h x).1 (by simp); cases this
  | x :: a, y :: b, ha, hb, h => by
    unfold Rise at ha hb
    rw [List.pairwise_cons] at ha hb
    have e : x = y := by
      have h1 := (h x).1 (by simp)
      have h2 := (h y).2 (by simp)
      rcases List.mem_cons.1 h1 with e | h1
      · exact e
      · rcases List.mem_cons.1 h2 with e | h2
        · exact e.symm
        · have := ha.1 y h2; have := hb.1 x h1; omega
    subst e
    congr 1
    refine rise_unique ha.2 hb.2 (fun z => ?_)
    have := h z
    rw [List.mem_cons, List.mem_cons] at this
    constructor
    · intro hz
      rcases this.1 (.inr hz) with rfl | hz'
      · have := ha.1 z hz; omega
      · exact hz'
    · intro hz
      rcases this.2 (.inr hz) with rfl | hz'
      · have := hb.1 z hz; omega
      · exact hz'
set_option maxRecDepth 100000 in
theorem law : Keyed Try.prog 3 := int_keyed Try.underlying3
theorem wf_i {n : Int} (h : inI n) : (Lit.int .i64 n).wf = true := by
  have e1 : IntKind.i64.min = -9223372036854775808 := by decide
  have e2 : IntKind.i64.max = 9223372036854775807 := by decide
  unfold inI at h
  simp only [Lit.wf, e1, e2, Bool.and_eq_true, decide_eq_true_eq]
  omega
def kl (n : Int) : Lit := .int .i64 n
theorem hkey (n : Int) (hn : inI n) : keyOf Try.prog 3 (.int .i64 n) = some (kl n) := keyOf_int_mk Try.underlying3 (wf_i hn)
theorem kl_inj {a b : Int} (h : kl a = kl b) : a = b := by unfold kl at h; cases h; rfl
/-- how a request in a map reads: as it lies -/
def RV (v : Value) : Option (DataW Value × List MemPlace) := some (.held v, [])
/-- a map of requests, in block b of the memory: those of M, each at its client -/
def MIs (b : Nat) (w : World) (N : Nat) (M : List Kx) : Prop :=
  ∃ n D, w.ownsMap Try.prog 3 RV b n D ∧ n ≤ N ∧ Maps.size D = M.length ∧ (∀ k, Maps.has D (kl k) = M.any (fun x => x.k == k)) ∧ (∀ c ∈ M, inI c.k ∧ ∀ z, D.atKey (kl c.k) z = .held c.v) ∧ (∀ l, Maps.has D l = true → ∃ k, l = kl k) ∧ Rise M
theorem MIs.lt {b N : Nat} {w : World} {M : List Kx} (h : MIs b w N M) : b < w.heap.size := by
  obtain ⟨n, D, h1, _⟩ := h
  exact h1.lt
theorem MIs.same {b N : Nat} {w w' : World} {M : List Kx} (h : MIs b w N M) (hb : w'.heap[b]? = w.heap[b]?) : MIs b w' N M := by
  obtain ⟨n, D, ⟨es, clock, h1, h4⟩, h2⟩ := h
  exact ⟨n, D, ⟨es, clock, hb.trans h1, h4⟩, h2⟩
theorem MIs.rise {b N : Nat} {w : World} {M : List Kx} (h : MIs b w N M) : Rise M := by
  obtain ⟨n, D, h1, h2, hs, h3, h4, h5, hr⟩ := h
  exact hr
theorem MIs.made (w : World) : MIs w.heap.size (w.alloc (.map #[] 0)) 0 [] :=
  ⟨0, _, World.ownsMap_made w _ _ _, Nat.le_refl _, rfl, fun _ => rfl, (fun _ h => by cases h), (fun l h => by cases h), List.Pairwise.nil⟩
set_option maxRecDepth 100000 in
/-- a store -/
theorem MIs.store {b N : Nat} {w : World} {M : List Kx} (h : MIs b w N M) (hN : N < 1000000000000000) (c : Kx) (hc : inI c.k) :
    ∃ w', (Instr.mapUpdate 58 (.map (some b)) (.int .i64 c.k) c.v).run Try.prog w = .ok () w' ∧ MIs b w' (N + 1) (withL M c) ∧ w.grownBy w' (some b) ∧ w'.heap.size = w.heap.size := by
  obtain ⟨n, D, h1, h2, hs, h3, h4, h5, hr⟩ := h
  obtain ⟨w', hrun, k1, k2⟩ := h1.store law Try.underlying58 (by unfold maxLen; omega) (hkey c.k hc) (show RV c.v = some (.held c.v, []) from rfl)
  have hkey' := law.key (hkey c.k hc)
  refine ⟨w', hrun, ⟨n + 1, _, k1, by omega, ?_, fun k => ?_, fun x hx => ?_, fun l hl => ?_, withL_rise hr c⟩, k2.grown, ?_⟩
  · rw [Maps.size_put (h1.tidy law), hs, withL_len hr, h3]
  · by_cases e : k = c.k
    · subst e
      rw [Maps.has_put_same h1.isMap hkey']
      symm
      rw [List.any_eq_true]
      exact ⟨c, (withL_mem hr c c).2 (.inl rfl), by simp⟩
    · rw [Maps.has_put_other (fun e' => e (kl_inj e')), h3]
      rw [Bool.eq_iff_iff, List.any_eq_true, List.any_eq_true]
      constructor
      · rintro ⟨x, hx, hk⟩
        refine ⟨x, (withL_mem hr c x).2 (.inr ⟨hx, ?_⟩), hk⟩
        have : x.k = k := by simpa using hk
        omega
      · rintro ⟨x, hx, hk⟩
        have hxk : x.k = k := by simpa using hk
        rcases (withL_mem hr c x).1 hx with rfl | ⟨hx, _⟩
        · exact absurd hxk.symm e
        · exact ⟨x, hx, hk⟩
  · rcases (withL_mem hr c x).1 hx with rfl | ⟨hx, hne⟩
    · exact ⟨hc, fun z => Maps.atKey_put_same h1.isMap hkey' _ _⟩
    · refine ⟨(h4 x hx).1, fun z => ?_⟩
      rw [Maps.atKey_put_other (fun e' => hne (kl_inj e'))]
      exact (h4 x hx).2 z
  · by_cases e : l = kl c.k
    · exact ⟨c.k, e⟩
    · rw [Maps.has_put_other e] at hl
      exact h5 l hl
  · obtain ⟨es, c', es', c'', e1, rfl⟩ := k2
    simp [ChangeMaps.setBlock]
theorem MIs.len {b N : Nat} {w : World} {M : List Kx} (h : MIs b w N M) (ty : TypeId) : (Builtin.len_ #[58] ty #[.map (some b)]).run Try.prog w = .ok (.int .i64 (M.length : Nat)) w := by
  obtain ⟨n, D, h1, h2, hs, _⟩ := h
  rw [h1.len Try.underlying58 ty, hs]
/-- what is known of a client -/
def lookL (M : List Kx) (k : Int) : Option Kx := M.find? fun x => x.k == k
def kz : Kx := ⟨0, 0, false, 0, ⟨#[]⟩, 0, 0, 0, .slice none 0 0, []⟩
def at_ (M : List Kx) (k : Int) : Kx := (lookL M k).getD kz
theorem zero62 (w : World) : (zeroValue 62).run Try.prog w = .ok kz.v w := by kernel_rfl
theorem at_some {M : List Kx} {k : Int} {y : Kx} (h : lookL M k = some y) : y ∈ M ∧ y.k = k := by
  unfold lookL at h
  exact ⟨List.mem_of_find?_eq_some h, by have := List.find?_some h; simpa using this⟩
theorem at_any (M : List Kx) (k : Int) : M.any (fun x => x.k == k) = (lookL M k).isSome := by
  unfold lookL
  rw [Bool.eq_iff_iff, List.find?_isSome, List.any_eq_true]
theorem at_eq {M : List Kx} {k : Int} {v : Value} {D : DataW Value} (h3 : Maps.has D (kl k) = M.any (fun x => x.k == k)) (h4 : ∀ c ∈ M, inI c.k ∧ ∀ z, D.atKey (kl c.k) z = .held c.v) (e : D.atKey (kl k) (.held kz.v) = .held v) : v = (at_ M k).v := by
  unfold at_
  rw [at_any] at h3
  cases hf : lookL M k with
  | none =>
    rw [hf] at h3
    rw [Maps.atKey_of_not_has h3] at e
    cases e
    rfl
  | some y =>
    obtain ⟨hy, hk⟩ := at_some hf
    have := (h4 y hy).2 (.held kz.v)
    rw [hk, e] at this
    cases this
    rfl
theorem MIs.look {b N : Nat} {w : World} {M : List Kx} (h : MIs b w N M) (k : Int) (hk : inI k) :
    (Instr.lookup 58 (.map (some b)) (.int .i64 k) false).run Try.prog w = .ok (at_ M k).v w := by
  obtain ⟨n, D, h1, h2, hs, h3, h4, h5, hr⟩ := h
  obtain ⟨v, ps, hrun, hv⟩ := h1.lookup law Try.underlying58 (zero62 w) (show RV kz.v = some (.held kz.v, []) from rfl) (hkey k hk)
  have e : D.atKey (kl k) (.held kz.v) = .held v := by unfold RV at hv; exact ((Prod.mk.inj (Option.some.inj hv)).1).symm
  rw [hrun, at_eq (h3 k) h4 e]
theorem MIs.lookOk {b N : Nat} {w : World} {M : List Kx} (h : MIs b w N M) (k : Int) (hk : inI k) :
    (Instr.lookup 58 (.map (some b)) (.int .i64 k) true).run Try.prog w = .ok (.tuple #[(at_ M k).v, .bool (lookL M k).isSome]) w := by
  obtain ⟨n, D, h1, h2, hs, h3, h4, h5, hr⟩ := h
  obtain ⟨v, ps, hrun, hv⟩ := h1.look_ok law Try.underlying58 (zero62 w) (show RV kz.v = some (.held kz.v, []) from rfl) (hkey k hk)
  have e : D.atKey (kl k) (.held kz.v) = .held v := by unfold RV at hv; exact ((Prod.mk.inj (Option.some.inj hv)).1).symm
  rw [hrun, at_eq (h3 k) h4 e, h3 k, at_any]
theorem nil_look (w : World) (k : Int) (hk : inI k) : (Instr.lookup 58 (.map none) (.int .i64 k) false).run Try.prog w = .ok kz.v w := Maps.look_nil false law Try.underlying58 (zero62 w) (hkey k hk)
theorem nil_lookOk (w : World) (k : Int) (hk : inI k) : (Instr.lookup 58 (.map none) (.int .i64 k) true).run Try.prog w = .ok (.tuple #[kz.v, .bool false]) w := Maps.look_nil true law Try.underlying58 (zero62 w) (hkey k hk)
end Go.Proofs.Ytabkfmmbjjchdaa
