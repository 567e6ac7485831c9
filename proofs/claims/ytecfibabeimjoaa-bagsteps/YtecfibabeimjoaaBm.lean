import Derived.Test.YtecfibabeimjoaaBa
namespace Go.Proofs.Ytecfibabeimjoaa
open Go.RowKit Go.Maps

/-- how a count in a map reads -/
def RI (v : Value) : Option (DataW Unit × List MemPlace) :=
  match v with
  | .int .i64 a => some (.lit (.int .i64 a), [])
  | _ => none
theorem RI_inv {v : Value} {y : DataW Unit × List MemPlace} (h : RI v = some y) : ∃ a, v = .int .i64 a ∧ y = (.lit (.int .i64 a), []) := by
  unfold RI at h
  split at h
  · cases h; exact ⟨_, rfl, rfl⟩
  · cases h
theorem zero3 (w : World) : (zeroValue 3).run Try.prog w = .ok (.int .i64 0) w := by kernel_rfl
theorem RI_mk (c : Int) : RI (.int .i64 c) = some (.lit (.int .i64 c), []) := rfl
/-- a map of messages, in block b of the memory: how often it has each; at most N entries -/
def MIs (b : Nat) (w : World) (N : Nat) (f : Msg → Option Int) : Prop :=
  ∃ n D, w.ownsMap Try.prog 32 RI b n D ∧ n ≤ N ∧ (∀ m, okM m → Maps.has D (kl m) = (f m).isSome ∧ ∀ c, f m = some c → ∀ z, D.atKey (kl m) z = .lit (.int .i64 c)) ∧ ∀ l, Maps.has D l = true → ∃ m, okM m ∧ l = kl m
theorem MIs.mono {b N N' : Nat} {w : World} {f : Msg → Option Int} (h : MIs b w N f) (hn : N ≤ N') : MIs b w N' f := by
  obtain ⟨n, D, h1, h2, h3⟩ := h
  exact ⟨n, D, h1, by omega, h3⟩
theorem MIs.lt {b N : Nat} {w : World} {f : Msg → Option Int} (h : MIs b w N f) : b < w.heap.size := by
  obtain ⟨n, D, h1, _⟩ := h
  exact h1.lt
theorem MIs.same {b N : Nat} {w w' : World} {f : Msg → Option Int} (h : MIs b w N f) (hb : w'.heap[b]? = w.heap[b]?) : MIs b w' N f := by
  obtain ⟨n, D, ⟨es, clock, h1, h4⟩, h2, h3⟩ := h
  exact ⟨n, D, ⟨es, clock, hb.trans h1, h4⟩, h2, h3⟩
theorem MIs.isMap {b N : Nat} {w : World} {f : Msg → Option Int} (h : MIs b w N f) : ∃ es clock, w.heap[b]? = some (.map es clock) := by
  obtain ⟨n, D, ⟨es, clock, h1, h4⟩, h2, h3⟩ := h
  exact ⟨es, clock, h1⟩
theorem MIs.made (w : World) : MIs w.heap.size (w.alloc (.map #[] 0)) 0 fun _ => none :=
  ⟨0, _, World.ownsMap_made w _ _ _, Nat.le_refl _, fun k _ => ⟨rfl, fun s h => by cases h⟩, fun l h => by cases h⟩
/-- a look -/
theorem MIs.look {b N : Nat} {w : World} {f : Msg → Option Int} (h : MIs b w N f) (m : Msg) (hm : okM m) :
    (Instr.lookup 59 (.map (some b)) (valM m) false).run Try.prog w = .ok (.int .i64 ((f m).getD 0)) w := by
  obtain ⟨n, D, h1, h2, h3, h4⟩ := h
  obtain ⟨v, ps, hrun, hv⟩ := h1.lookup law Try.underlying59 (zero3 w) (RI_mk 0) (hkey m hm)
  obtain ⟨c, rfl, hy⟩ := RI_inv hv
  have hat := congrArg Prod.fst hy
  simp only at hat
  rw [hrun]
  have hh := h3 m hm
  have : c = (f m).getD 0 := by
    cases hf : f m with
    | none =>
      have hn := hh.1
      rw [hf] at hn
      rw [Maps.atKey_of_not_has hn] at hat
      simp only [DataW.lit.injEq, Lit.int.injEq] at hat
      exact hat.2.symm
    | some x =>
      rw [hh.2 x hf] at hat
      simp only [DataW.lit.injEq, Lit.int.injEq] at hat
      exact hat.2.symm
  rw [this]
open Classical in
noncomputable def upd (f : Msg → Option Int) (m : Msg) (c : Option Int) : Msg → Option Int := fun j => if j = m then c else f j
theorem upd_same (f : Msg → Option Int) (m : Msg) (c : Option Int) : upd f m c m = c := by unfold upd; rw [if_pos rfl]
theorem upd_other (f : Msg → Option Int) {m j : Msg} (c : Option Int) (h : j ≠ m) : upd f m c j = f j := by unfold upd; rw [if_neg h]
theorem put_rel {f : Msg → Option Int} {D : DataW Unit} (hD : Maps.IsMap D) (h3 : ∀ m, okM m → Maps.has D (kl m) = (f m).isSome ∧ ∀ c, f m = some c → ∀ z, D.atKey (kl m) z = .lit (.int .i64 c)) (h4 : ∀ l, Maps.has D l = true → ∃ m, okM m ∧ l = kl m)
    (m : Msg) (hm : okM m) (c : Int) : (∀ j, okM j → Maps.has (D.put (kl m) (.lit (.int .i64 c))) (kl j) = (upd f m (some c) j).isSome ∧ ∀ x, upd f m (some c) j = some x → ∀ z, (D.put (kl m) (.lit (.int .i64 c))).atKey (kl j) z = .lit (.int .i64 x)) ∧
    ∀ l, Maps.has (D.put (kl m) (.lit (.int .i64 c))) l = true → ∃ m, okM m ∧ l = kl m := by
  refine ⟨fun j hj => ?_, fun l hl => ?_⟩
  · by_cases e : j = m
    · subst e
      rw [upd_same]
      refine ⟨by rw [Maps.has_put_same hD (law.key (hkey j hj))]; rfl, fun x hx z => ?_⟩
      rw [Maps.atKey_put_same hD (law.key (hkey j hj))]
      cases hx; rfl
    · have hne : kl j ≠ kl m := fun k => e (kl_inj hj hm k)
      rw [upd_other f _ e]
      refine ⟨by rw [Maps.has_put_other hne]; exact (h3 j hj).1, fun x hx z => ?_⟩
      rw [Maps.atKey_put_other hne]
      exact (h3 j hj).2 x hx z
  · by_cases e : l = kl m
    · exact ⟨m, hm, e⟩
    · rw [Maps.has_put_other e] at hl
      exact h4 l hl
theorem ok_w {α : Type} {a b : α} {w w' : World} (h : Result.ok a w = Result.ok b w') : w = w' := by cases h; rfl
/-- a count that is raised or lowered: first its entry, then what it holds -/
theorem MIs.entry {b N : Nat} {w : World} {f : Msg → Option Int} (h : MIs b w N f) (hN : N < maxLen) (m : Msg) (hm : okM m) :
    ∃ v0 st w1, (Instr.mapEntry 59 (.map (some b)) (valM m)).run Try.prog w = .ok (.tuple #[v0, .int .i64 (st : Nat)]) w1 ∧ w.grownBy w1 (some b) ∧ w1.heap.size = w.heap.size ∧ (Instr.lookup 59 (.map (some b)) (valM m) false).run Try.prog w1 = .ok (.int .i64 ((f m).getD 0)) w1 ∧
      ∀ w2 (c : Int), w2.heap[b]? = w1.heap[b]? → ∃ w3, (Instr.entryStore 59 (.map (some b)) (.int .i64 (st : Nat)) (.int .i64 c)).run Try.prog w2 = .ok () w3 ∧ MIs b w3 (N + 1) (upd f m (some c)) ∧ w2.grownBy w3 (some b) ∧ w3.heap.size = w2.heap.size := by
  obtain ⟨n, D, h1, h2, h3, h4⟩ := h
  have h1' := h1
  obtain ⟨es, clock, hb, F, hs, hD⟩ := h1'
  obtain ⟨v0, st, es1, clock1, hrun, hv0, hst⟩ := WideElems.entry_then_store lawK Try.underlying59 (zero3) hb F (hkey m hm)
  have key : ∀ (w2 : World) (c : Int), w2.heap[b]? = some (.map es1 clock1) → ∃ es' clock', (Instr.entryStore 59 (.map (some b)) (.int .i64 (st : Nat)) (.int .i64 c)).run Try.prog w2 = .ok () (ChangeMaps.setBlock w2 b (.map es' clock')) ∧ MIs b (ChangeMaps.setBlock w2 b (.map es' clock')) (N + 1) (upd f m (some c)) := by
    intro w2 c hw2
    obtain ⟨es', clock', r1, r2⟩ := hst w2 (.int .i64 c) hw2
    obtain ⟨w', hrun', hown', _⟩ := h1.store law Try.underlying59 (by omega) (hkey m hm) (RI_mk c)
    rw [r2] at hrun'
    have hw' := ok_w hrun'
    subst hw'
    refine ⟨es', clock', r1, ?_⟩
    have e1 : (ChangeMaps.setBlock w b (.map es' clock')).heap[b]? = some (.map es' clock') := ChangeMaps.heap_setBlock_same hb _
    have e2 : (ChangeMaps.setBlock w2 b (.map es' clock')).heap[b]? = some (.map es' clock') := ChangeMaps.heap_setBlock_same hw2 _
    have hm2 : MIs b (ChangeMaps.setBlock w b (.map es' clock')) (N + 1) (upd f m (some c)) := ⟨n + 1, _, hown', by omega, put_rel h1.isMap h3 h4 m hm c⟩
    exact hm2.same (e2.trans e1.symm)
  have mid : (Instr.lookup 59 (.map (some b)) (valM m) false).run Try.prog (ChangeMaps.setBlock w b (.map es1 clock1)) = .ok (.int .i64 ((f m).getD 0)) (ChangeMaps.setBlock w b (.map es1 clock1)) := by
    rcases lawK.find w (hkey m hm) es.toList F.keys with ⟨g1, g2⟩ | ⟨j, e0, g1, g2, g3⟩
    · have r1 : (Instr.mapEntry 59 (.map (some b)) (valM m)).run Try.prog w = .ok (.tuple #[.int .i64 0, goInt clock]) (ChangeMaps.setBlock w b (.map (es.push ⟨valM m, .int .i64 0, clock⟩) (clock + 1))) := by
        simp [Instr.mapEntry, run_underlying Try.underlying59, MapKept.run_getObj_map hb, lawK.check w false (hkey m hm), g1, zero3 w, MapKept.run_setObj_map _ hb, Result.andThen, ChangeMaps.setBlock]
      have r2 : (Instr.mapUpdate 59 (.map (some b)) (valM m) (.int .i64 0)).run Try.prog w = .ok () (ChangeMaps.setBlock w b (.map (es.push ⟨valM m, .int .i64 0, clock⟩) (clock + 1))) := by
        simp [Instr.mapUpdate, run_underlying Try.underlying59, MapKept.run_getObj_map hb, lawK.check w false (hkey m hm), g1, MapKept.run_setObj_map _ hb, Result.andThen, ChangeMaps.setBlock]
      rw [r1] at hrun
      have hw1 := ok_w hrun
      rw [← hw1]
      obtain ⟨w', hrun', hown', _⟩ := h1.store law Try.underlying59 (by omega) (hkey m hm) (RI_mk 0)
      rw [r2] at hrun'
      have hw' := ok_w hrun'
      subst hw'
      have hm2 : MIs b (ChangeMaps.setBlock w b (.map (es.push ⟨valM m, .int .i64 0, clock⟩) (clock + 1))) (N + 1) (upd f m (some 0)) := ⟨n + 1, _, hown', by omega, put_rel h1.isMap h3 h4 m hm 0⟩
      rw [hm2.look m hm, upd_same]
      have hfm : f m = none := by
        have hh := (h3 m hm).1
        rcases Maps.fit_look false law Try.underlying59 (zero3 w) hb F (hkey m hm) with ⟨_, _, hat⟩ | ⟨e0, y, hmem, hk0, _⟩
        · rw [hD, Maps.has_false_of_atKey hat] at hh
          cases hf : f m with
          | none => rfl
          | some x => rw [hf] at hh; cases hh
        · exact absurd hk0 (g2 e0 hmem)
      rw [hfm]; rfl
    · have hj : es[j]? = some e0 := by simpa using g2
      have hsame : es.modify j (fun e => { e with key := valM m }) = es := by
        apply Array.ext'
        rw [Array.toList_modify, ChangeMaps.modify_eq_set _ _ _ _ g2]
        have : ({ e0 with key := valM m } : MapEntry) = e0 := by rw [← g3]
        rw [this]
        exact WideElems.set_self _ _ _ g2
      have r1 : (Instr.mapEntry 59 (.map (some b)) (valM m)).run Try.prog w = .ok (.tuple #[e0.val, goInt e0.born]) (ChangeMaps.setBlock w b (.map es clock)) := by
        simp [Instr.mapEntry, run_underlying Try.underlying59, MapKept.run_getObj_map hb, lawK.check w false (hkey m hm), g1, hj, g3, lawK.stays w (hkey m hm), hsame, MapKept.run_setObj_map _ hb, Result.andThen, ChangeMaps.setBlock]
      rw [r1] at hrun
      have hw1 := ok_w hrun
      rw [← hw1]
      exact ((show MIs b w N f from ⟨n, D, h1, h2, h3, h4⟩).same ((ChangeMaps.heap_setBlock_same hb _).trans hb.symm)).look m hm
  refine ⟨v0, st, _, hrun, ⟨rfl, rfl, rfl, by simp [ChangeMaps.setBlock], fun i _ hi => ChangeMaps.heap_setBlock_other hb _ (fun e => hi (by rw [e]))⟩, by simp [ChangeMaps.setBlock], ?_, fun w2 c hw2 => ?_⟩
  · exact mid
  · obtain ⟨es', clock', r1, r2⟩ := key w2 c (hw2.trans (ChangeMaps.heap_setBlock_same hb _))
    have hb2 := hw2.trans (ChangeMaps.heap_setBlock_same hb _)
    exact ⟨_, r1, r2, ⟨rfl, rfl, rfl, by simp [ChangeMaps.setBlock], fun i _ hi => ChangeMaps.heap_setBlock_other hb2 _ (fun e => hi (by rw [e]))⟩, by simp [ChangeMaps.setBlock]⟩
theorem MIs.drop {b N : Nat} {w : World} {f : Msg → Option Int} (h : MIs b w N f) (m : Msg) (hm : okM m) (ty : TypeId) :
    ∃ w', (Builtin.delete_ #[59, 32] ty #[.map (some b), valM m]).run Try.prog w = .ok (.tuple #[]) w' ∧ MIs b w' N (upd f m none) ∧ w.grownBy w' (some b) ∧ w'.heap.size = w.heap.size := by
  obtain ⟨n, D, h1, h2, h3, h4⟩ := h
  obtain ⟨w', hrun, hown, hturn⟩ := h1.drop law Try.underlying59 (hkey m hm) ty
  refine ⟨w', hrun, ⟨n, _, hown, h2, fun j hj => ?_, fun l hl => ?_⟩, hturn.grown, ?_⟩
  · by_cases e : j = m
    · subst e
      rw [upd_same]
      exact ⟨by rw [Maps.has_del_same]; rfl, fun x hx => by cases hx⟩
    · have hne : kl j ≠ kl m := fun k => e (kl_inj hj hm k)
      rw [upd_other f _ e]
      refine ⟨by rw [Maps.has_del_other hne]; exact (h3 j hj).1, fun x hx z => ?_⟩
      rw [Maps.atKey_del_other hne]
      exact (h3 j hj).2 x hx z
  · by_cases e : l = kl m
    · exact ⟨m, hm, e⟩
    · rw [Maps.has_del_other e] at hl
      exact h4 l hl
  · obtain ⟨es, c, es', c', e1, rfl⟩ := hturn
    simp [ChangeMaps.setBlock]
end Go.Proofs.Ytecfibabeimjoaa
