import Derived.Test.YtecfibabeimjoaaRows
import Derived.Maps.Own
import Derived.Maps.OwnOps
import Derived.Maps.OwnSet
import Derived.Maps.Views
import Derived.Maps.Ext
import Derived.Maps.RangeWalk
import Derived.Lib.SlMapMerge
import Derived.DeepKeys4
import Derived.WideKeyEntry
import Derived.WalkKit
import Derived.ProofKit
import Derived.WalkSpells
import Derived.WalkSmall
import Derived.OneCell
import Derived.Below
import Derived.Deep.Draws
import Derived.Deep.RegionHeld3
import Derived.Deep.QuietTactic
import Derived.BigQuiet
import Derived.Lib.Strings
namespace Go.Proofs.Ytecfibabeimjoaa
open Go.RowKit Go.Maps

theorem hid {p : Prop} (h : p) : Hid p := h
theorem _root_.Go.RowKit.Below.next {w w1 w2 : World} (a : Below w.heap.size w w1) (b : Below w1.heap.size w1 w2) : Below w.heap.size w w2 := a.trans (b.mono a.size)
/-- a message: From, To, Text -/
structure Msg where
  f : Int
  t : Int
  s : ByteArray
instance : Inhabited Msg := ⟨⟨0, 0, ByteArray.empty⟩⟩
def encM (m : Msg) : List Value := [.int .i64 m.f, .int .i64 m.t, .string m.s]
def valM (m : Msg) : Value := .agg #[.int .i64 m.f, .int .i64 m.t, .string m.s]
def inI (n : Int) : Prop := -9223372036854775808 ≤ n ∧ n ≤ 9223372036854775807
/-- a message that can be read -/
def okM (m : Msg) : Prop := inI m.f ∧ inI m.t ∧ m.s.size ≤ maxLen

theorem laidOut : laidOutB Try.prog = true := by kernel_rfl
theorem row32 : (32 : TypeId) < Try.prog.types.size := of_decide_eq_true (by kernel_rfl)
theorem wide32 : (match Try.prog.underlying 32 with | some (.array _ _) | some (.struct _) => true | _ => false) = true := by rw [Try.underlying32]
theorem law : Keyed Try.prog 32 := Keyed.of_law (deep_law_laid laidOut (m := 2) (by omega) row32 (by kernel_rfl) wide32)
theorem lawK : WideMaps.KeyLaw Try.prog 32 := deep_law_laid laidOut (m := 2) (by omega) row32 (by kernel_rfl) wide32
theorem key32 : Try.prog.keyType 32 = true := by kernel_rfl
theorem cells32 : Try.prog.cellsOf 32 = 3 := by kernel_rfl
theorem cells3 : Try.prog.cellsOf 3 = 1 := by kernel_rfl
theorem cells9 : Try.prog.cellsOf 9 = 1 := by kernel_rfl
theorem wf_i {n : Int} (h : inI n) : (Lit.int .i64 n).wf = true := by
  have e1 : IntKind.i64.min = -9223372036854775808 := by decide
  have e2 : IntKind.i64.max = 9223372036854775807 := by decide
  unfold inI at h
  simp only [Lit.wf, e1, e2, Bool.and_eq_true, decide_eq_true_eq]
  omega
theorem types_n : Try.prog.types.size = 115 + 1 := by kernel_rfl
theorem lits_gen {P : Program} {k : TypeId} {f0 f1 f2 : Field} (hk : P.underlying k = some (.struct #[f0, f1, f2])) (n0 : (f0.name != "_") = true) (n1 : (f1.name != "_") = true) (n2 : (f2.name != "_") = true) (o0 : f0.offset = 0) (o1 : f1.offset = 1) (o2 : f2.offset = 2)
    (t0 : P.underlying f0.type = some (.int .i64)) (t1 : P.underlying f1.type = some (.int .i64)) (t2 : P.underlying f2.type = some .string) (hc : P.cellsOf k = 3) (c0 : P.cellsOf f0.type = 1) (c1 : P.cellsOf f1.type = 1) (c2 : P.cellsOf f2.type = 1)
    (m : Msg) (hm : okM m) (d : Nat) : P.keyLits (d + 1 + 1) k [.int .i64 m.f, .int .i64 m.t, .string m.s] = some [.int .i64 m.f, .int .i64 m.t, .string m.s.data.toList] := by
  have w0 := wf_i hm.1
  have w1 := wf_i hm.2.1
  have w2 := hm.2.2
  simp [Program.keyLits, hk, hc, n0, n1, n2, o0, o1, o2, c0, c1, c2, t0, t1, t2, w0, w1, w2]
theorem key_gen {P : Program} {k : TypeId} {f0 f1 f2 : Field} (hk : P.underlying k = some (.struct #[f0, f1, f2])) (n0 : (f0.name != "_") = true) (n1 : (f1.name != "_") = true) (n2 : (f2.name != "_") = true) (o0 : f0.offset = 0) (o1 : f1.offset = 1) (o2 : f2.offset = 2)
    (t0 : P.underlying f0.type = some (.int .i64)) (t1 : P.underlying f1.type = some (.int .i64)) (t2 : P.underlying f2.type = some .string) (hc : P.cellsOf k = 3) (c0 : P.cellsOf f0.type = 1) (c1 : P.cellsOf f1.type = 1) (c2 : P.cellsOf f2.type = 1)
    (m : Msg) (hm : okM m) (d : Nat) (hd : P.types.size = d + 1) (hkt : P.keyType k = true) : keyOf P k (valM m) = some (.string (keyBytes [.int .i64 m.f, .int .i64 m.t, .string m.s.data.toList])) := by
  unfold valM
  have hf : (Value.agg #[.int .i64 m.f, .int .i64 m.t, .string m.s]).formed P k = true := by simp [Value.formed, hk, hc]
  unfold keyOf
  rw [hk, hd]
  simp [hkt, hf, Value.cells, lits_gen hk n0 n1 n2 o0 o1 o2 t0 t1 t2 hc c0 c1 c2 m hm d]
/-- a message as a key -/
def kl (m : Msg) : Lit := .string (keyBytes [.int .i64 m.f, .int .i64 m.t, .string m.s.data.toList])
theorem hkey (m : Msg) (hm : okM m) : keyOf Try.prog 32 (valM m) = some (kl m) :=
  key_gen Try.underlying32 (by decide) (by decide) (by decide) rfl rfl rfl Try.underlying3 Try.underlying3 Try.underlying9 cells32 cells3 cells3 cells9 m hm 115 types_n key32
theorem valM_inj {a b : Msg} (h : valM a = valM b) : a = b := by
  obtain ⟨a1, a2, a3⟩ := a
  obtain ⟨b1, b2, b3⟩ := b
  simp [valM] at h
  obtain ⟨rfl, rfl, rfl⟩ := h
  rfl
theorem kl_inj {a b : Msg} (ha : okM a) (hb : okM b) (h : kl a = kl b) : a = b := by
  have h1 := hkey a ha
  rw [h] at h1
  exact valM_inj (law.inj h1 (hkey b hb))
theorem lit_int {P : Program} {t : TypeId} (h : P.underlying t = some (.int .i64)) {a : Value} {d : Nat} {ls : List Lit} (e : P.keyLits (d + 1) t [a] = some ls) : ∃ n, a = .int .i64 n ∧ inI n := by
  unfold Program.keyLits at e
  rw [h] at e
  cases a <;> simp at e
  rename_i q n
  obtain ⟨⟨rfl, hw⟩, _⟩ := e
  refine ⟨n, rfl, ?_⟩
  have e1 : IntKind.i64.min = -9223372036854775808 := by decide
  have e2 : IntKind.i64.max = 9223372036854775807 := by decide
  simp only [Lit.wf, e1, e2, Bool.and_eq_true, decide_eq_true_eq] at hw
  exact hw
theorem lit_str {P : Program} {t : TypeId} (h : P.underlying t = some .string) {a : Value} {d : Nat} {ls : List Lit} (e : P.keyLits (d + 1) t [a] = some ls) : ∃ s, a = .string s ∧ s.size ≤ maxLen := by
  unfold Program.keyLits at e
  rw [h] at e
  cases a <;> simp at e
  exact ⟨_, rfl, e.1⟩
/-- what is a key is a message -/
theorem inv_gen {P : Program} {k : TypeId} {f0 f1 f2 : Field} (hk : P.underlying k = some (.struct #[f0, f1, f2])) (o0 : f0.offset = 0) (o1 : f1.offset = 1) (o2 : f2.offset = 2)
    (t0 : P.underlying f0.type = some (.int .i64)) (t1 : P.underlying f1.type = some (.int .i64)) (t2 : P.underlying f2.type = some .string) (hc : P.cellsOf k = 3) (c0 : P.cellsOf f0.type = 1) (c1 : P.cellsOf f1.type = 1) (c2 : P.cellsOf f2.type = 1)
    (d : Nat) (hd : P.types.size = d + 1) {key : Value} {l : Lit} (h : keyOf P k key = some l) : ∃ m, key = valM m ∧ okM m := by
  unfold keyOf at h
  rw [hk, hd] at h
  simp only at h
  split at h
  · rename_i hf
    have hff : key.formed P k = true := (Bool.and_eq_true _ _ ▸ hf).2
    obtain ⟨cs, rfl⟩ : ∃ cs, key = .agg cs := by
      cases key <;> first | exact ⟨_, rfl⟩ | (simp [Value.formed, hk] at hff)
    have hsz : cs.size = 3 := by simpa [Value.formed, hk, hc] using hff
    obtain ⟨a, b, c, rfl⟩ : ∃ a b c, cs = #[a, b, c] := by
      obtain ⟨l⟩ := cs
      match l, hsz with
      | [a, b, c], _ => exact ⟨a, b, c, rfl⟩
    simp only [Value.cells, Option.map_eq_some_iff] at h
    obtain ⟨ls, e, _⟩ := h
    unfold Program.keyLits at e
    rw [hk] at e
    simp only at e
    split at e
    · simp only [List.mapM_cons, List.mapM_nil, o0, o1, o2, c0, c1, c2, List.drop, List.take, Option.map_eq_some_iff, Option.bind_eq_bind, Option.bind_eq_some_iff] at e
      obtain ⟨_, ⟨l0, e0, _, ⟨l1, e1, _, ⟨l2, e2, _⟩, _⟩, _⟩, _⟩ := e
      obtain ⟨x, rfl, hx⟩ := lit_int t0 e0
      obtain ⟨y, rfl, hy⟩ := lit_int t1 e1
      obtain ⟨z, rfl, hz⟩ := lit_str t2 e2
      exact ⟨⟨x, y, z⟩, rfl, hx, hy, hz⟩
    · cases e
  · cases h
theorem hkey_inv {key : Value} {l : Lit} (h : keyOf Try.prog 32 key = some l) : ∃ m, key = valM m ∧ okM m :=
  inv_gen Try.underlying32 rfl rfl rfl Try.underlying3 Try.underlying3 Try.underlying9 cells32 cells3 cells3 cells9 115 types_n h
end Go.Proofs.Ytecfibabeimjoaa
