import Derived.Test.YtogiiefaakejlaaBa
namespace Go.Proofs.Ytogiiefaakejlaa
open Go.RowKit Go.Maps

theorem law : Keyed Try.prog 3 := int_keyed Try.underlying3
theorem wf_i {n : Int} (h : inI n) : (Lit.int .i64 n).wf = true := by
  have e1 : IntKind.i64.min = -9223372036854775808 := by decide
  have e2 : IntKind.i64.max = 9223372036854775807 := by decide
  unfold inI at h
  simp only [Lit.wf, e1, e2, Bool.and_eq_true, decide_eq_true_eq]
  omega
def kl (n : Int) : Lit := .int .i64 n
theorem hkey (n : Int) (hn : inI n) : keyOf Try.prog 3 (.int .i64 n) = some (kl n) := keyOf_int_mk Try.underlying3 (wf_i hn)
theorem kl_inj {a b : Int} (h : kl a = kl b) : a = b := by unfold kl at h; cases h; rfl
/-- an entry: a chunk's number, and its bytes -/
structure Ent where
  b : Int
  s : ByteArray
def blk (s : ByteArray) : Value := .agg #[.string s]
/-- how a piece in a map reads -/
def RB (v : Value) : Option (DataW Unit × List MemPlace) :=
  match v with
  | .agg a => match a.toList with
    | [.string s] => some (.lit (.string s.data.toList), [])
    | _ => none
  | _ => none
def datB (s : ByteArray) : DataW Unit := .lit (.string s.data.toList)
theorem RB_mk (s : ByteArray) : RB (blk s) = some (datB s, []) := rfl
theorem RB_inv {v : Value} {y : DataW Unit × List MemPlace} (h : RB v = some y) : ∃ s, v = blk s ∧ y = (datB s, []) := by
  unfold RB at h
  split at h
  · rename_i a
    split at h
    · rename_i s hs
      cases h
      refine ⟨s, ?_, rfl⟩
      unfold blk
      congr 1
      apply Array.toList_inj.1
      rw [hs]
    · cases h
  · cases h
theorem datB_inj {a b : ByteArray} (h : datB a = datB b) : a = b := by
  simp only [datB, DataW.lit.injEq, Lit.string.injEq] at h
  exact data_eq h
theorem zero72 (w : World) : (zeroValue 72).run Try.prog w = .ok (blk ByteArray.empty) w := by kernel_rfl
/-- a map in block b of the memory: just the entries of M -/
structure MOk (D : DataW Unit) (M : List Ent) : Prop where
  sz : Maps.size D = M.length
  has : ∀ k, Maps.has D (kl k) = M.any (fun x => x.b == k)
  at' : ∀ c ∈ M, inI c.b ∧ ∀ z, D.atKey (kl c.b) z = datB c.s
  key : ∀ l, Maps.has D l = true → ∃ k, l = kl k
  nd : (M.map (·.b)).Nodup
def MIs (b : Nat) (w : World) (N : Nat) (M : List Ent) : Prop := ∃ n D, w.ownsMap Try.prog 3 RB b n D ∧ n ≤ N ∧ MOk D M
theorem MIs.lt {b N : Nat} {w : World} {M : List Ent} (h : MIs b w N M) : b < w.heap.size := by
  obtain ⟨n, D, h1, _⟩ := h
  exact h1.lt
theorem MIs.same {b N : Nat} {w w' : World} {M : List Ent} (h : MIs b w N M) (hb : w'.heap[b]? = w.heap[b]?) : MIs b w' N M := by
  obtain ⟨n, D, ⟨es, clock, h1, h4⟩, h2, h3⟩ := h
  exact ⟨n, D, ⟨es, clock, hb.trans h1, h4⟩, h2, h3⟩
theorem MIs.isMap {b N : Nat} {w : World} {M : List Ent} (h : MIs b w N M) : ∃ es clock, w.heap[b]? = some (.map es clock) := by
  obtain ⟨n, D, ⟨es, clock, h1, h4⟩, h2, h3⟩ := h
  exact ⟨es, clock, h1⟩
theorem MIs.nd {b N : Nat} {w : World} {M : List Ent} (h : MIs b w N M) : (M.map (·.b)).Nodup := by
  obtain ⟨n, D, h1, h2, h3⟩ := h
  exact h3.nd
theorem MIs.made (w : World) : MIs w.heap.size (w.alloc (.map #[] 0)) 0 [] :=
  ⟨0, _, World.ownsMap_made w _ _ _, Nat.le_refl _, rfl, fun _ => rfl, (fun _ h => by cases h), (fun l h => by cases h), List.nodup_nil⟩
def findE (M : List Ent) (k : Int) : Option ByteArray := (M.find? (fun x => x.b == k)).map (·.s)
theorem findE_none {M : List Ent} {k : Int} (h : findE M k = none) : M.any (fun x => x.b == k) = false := by
  unfold findE at h
  rw [Option.map_eq_none_iff, List.find?_eq_none] at h
  rw [List.any_eq_false]
  exact h
theorem findE_some {M : List Ent} {k : Int} {a : ByteArray} (h : findE M k = some a) : ⟨k, a⟩ ∈ M := by
  unfold findE at h
  rw [Option.map_eq_some_iff] at h
  obtain ⟨⟨b, a'⟩, hx, rfl⟩ := h
  have h1 := List.find?_some hx
  have h2 := List.mem_of_find?_eq_some hx
  simp at h1
  subst h1
  exact h2
theorem findE_any (M : List Ent) (k : Int) : (findE M k).isSome = M.any (fun x => x.b == k) := by
  unfold findE
  rw [Option.isSome_map, Bool.eq_iff_iff, List.find?_isSome, List.any_eq_true]
/-- a look -/
theorem MIs.look {b N : Nat} {w : World} {M : List Ent} (h : MIs b w N M) (k : Int) (hk : inI k) :
    (Instr.lookup 68 (.map (some b)) (.int .i64 k) false).run Try.prog w = .ok (blk ((findE M k).getD ByteArray.empty)) w := by
  obtain ⟨n, D, h1, h2, h3⟩ := h
  obtain ⟨v, ps, hrun, hv⟩ := h1.lookup law Try.underlying68 (zero72 w) (RB_mk _) (hkey k hk)
  rw [hrun]
  obtain ⟨s, rfl, hy⟩ := RB_inv hv
  have hat := congrArg Prod.fst hy
  simp only at hat
  cases hf : findE M k with
  | none =>
    have hn := h3.has k
    rw [findE_none hf] at hn
    rw [Maps.atKey_of_not_has hn] at hat
    rw [← datB_inj hat]
    rfl
  | some a =>
    have h4 := (h3.at' _ (findE_some hf)).2
    simp only at h4
    rw [h4] at hat
    rw [← datB_inj hat]
    rfl
theorem MIs.look2 {b N : Nat} {w : World} {M : List Ent} (h : MIs b w N M) (k : Int) (hk : inI k) :
    (Instr.lookup 68 (.map (some b)) (.int .i64 k) true).run Try.prog w = .ok (.tuple #[blk ((findE M k).getD ByteArray.empty), .bool (findE M k).isSome]) w := by
  obtain ⟨n, D, h1, h2, h3⟩ := h
  obtain ⟨v, ps, hrun, hv⟩ := h1.look_ok law Try.underlying68 (zero72 w) (RB_mk _) (hkey k hk)
  obtain ⟨s, rfl, hy⟩ := RB_inv hv
  rw [hrun, h3.has, findE_any]
  have hat := congrArg Prod.fst hy
  simp only at hat
  cases hf : findE M k with
  | none =>
    have hn := h3.has k
    rw [findE_none hf] at hn
    rw [Maps.atKey_of_not_has hn] at hat
    rw [← datB_inj hat]
    rfl
  | some a =>
    have h4 := (h3.at' _ (findE_some hf)).2
    simp only at h4
    rw [h4] at hat
    rw [← datB_inj hat]
    rfl
/-- a store of a new one -/
theorem MIs.store {b N : Nat} {w : World} {M : List Ent} (h : MIs b w N M) (hN : N < 100000) (c : Ent) (hc : inI c.b) (hnew : M.any (fun x => x.b == c.b) = false) :
    ∃ w', (Instr.mapUpdate 68 (.map (some b)) (.int .i64 c.b) (blk c.s)).run Try.prog w = .ok () w' ∧ MIs b w' (N + 1) (M ++ [c]) ∧ w.grownBy w' (some b) ∧ w'.heap.size = w.heap.size := by
  obtain ⟨n, D, h1, h2, hs, h3, h4, h5, hr⟩ := h
  obtain ⟨w', hrun, k1, k2⟩ := h1.store law Try.underlying68 (by unfold maxLen; omega) (hkey c.b hc) (RB_mk c.s)
  have hkey' := law.key (hkey c.b hc)
  have hne : ∀ x ∈ M, x.b ≠ c.b := by
    intro x hx e
    rw [List.any_eq_false] at hnew
    exact hnew x hx (by simp [e])
  refine ⟨w', hrun, ⟨n + 1, _, k1, by omega, ?_, fun k => ?_, fun x hx => ?_, fun l hl => ?_, ?_⟩, k2.grown, ?_⟩
  · rw [Maps.size_put (h1.tidy law), hs, h3, hnew]; simp
  · rw [List.any_append]
    by_cases e : k = c.b
    · subst e
      rw [Maps.has_put_same h1.isMap hkey']
      simp
    · rw [Maps.has_put_other (fun e' => e (kl_inj e')), h3]
      simp [Ne.symm e]
  · rcases List.mem_append.1 hx with hx | hx
    · refine ⟨(h4 x hx).1, fun z => ?_⟩
      rw [Maps.atKey_put_other (fun e' => hne x hx (kl_inj e'))]
      exact (h4 x hx).2 z
    · simp at hx
      subst hx
      exact ⟨hc, fun z => Maps.atKey_put_same h1.isMap hkey' _ _⟩
  · by_cases e : l = kl c.b
    · exact ⟨c.b, e⟩
    · rw [Maps.has_put_other e] at hl
      exact h5 l hl
  · rw [List.map_append]
    refine List.nodup_append.2 ⟨hr, by simp, fun a ha b hb => ?_⟩
    simp at hb
    subst hb
    obtain ⟨y, hy, rfl⟩ := List.mem_map.1 ha
    exact hne y hy
  · obtain ⟨es, c', es', c'', e1, rfl⟩ := k2
    simp [ChangeMaps.setBlock]
theorem MIs.len {b N : Nat} {w : World} {M : List Ent} (h : MIs b w N M) (ty : TypeId) : (Builtin.len_ #[68] ty #[.map (some b)]).run Try.prog w = .ok (.int .i64 (M.length : Nat)) w := by
  obtain ⟨n, D, h1, h2, hs, _⟩ := h
  rw [h1.len Try.underlying68 ty, hs]
end Go.Proofs.Ytogiiefaakejlaa
