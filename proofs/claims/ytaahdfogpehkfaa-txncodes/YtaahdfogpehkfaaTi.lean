import Derived.Test.YtaahdfogpehkfaaTh
import Derived.Shelf.SlIter.Collect
import Derived.RangeFuncBound
namespace Go.Proofs.Ytaahdfogpehkfaa
open Go.RowKit Go.Maps Go.Sort Go.Shelf

theorem law : Keyed Try.prog 3 := int_keyed Try.underlying3
theorem wf_i {n : Int} (h : inI n) : (Lit.int .i64 n).wf = true := by
  have e1 : IntKind.i64.min = -9223372036854775808 := by decide
  have e2 : IntKind.i64.max = 9223372036854775807 := by decide
  unfold inI at h
  simp only [Lit.wf, e1, e2, Bool.and_eq_true, decide_eq_true_eq]
  omega
theorem bounds_i {n : Int} (h : (Lit.int .i64 n).wf = true) : inI n := by
  have e1 : IntKind.i64.min = -9223372036854775808 := by decide
  have e2 : IntKind.i64.max = 9223372036854775807 := by decide
  simp only [Lit.wf, e1, e2, Bool.and_eq_true, decide_eq_true_eq] at h
  exact h
def kl (n : Int) : Lit := .int .i64 n
theorem hkey (n : Int) (hn : inI n) : keyOf Try.prog 3 (.int .i64 n) = some (kl n) := keyOf_int_mk Try.underlying3 (wf_i hn)
theorem kl_inj {a b : Int} (h : kl a = kl b) : a = b := by unfold kl at h; cases h; rfl
/-- how a change in a map reads -/
def RC (v : Value) : Option (DataW Unit × List MemPlace) :=
  match v with
  | .agg a => match a.toList with
    | [.int .i64 b, .string s] => some (.agg [.lit (.int .i64 b), .lit (.string s.data.toList)], [])
    | _ => none
  | _ => none
def datC (c : Chg) : DataW Unit := .agg [.lit (.int .i64 c.b), .lit (.string c.d.data.toList)]
theorem RC_mk (c : Chg) : RC (valC c) = some (datC c, []) := rfl
theorem RC_inv {v : Value} {y : DataW Unit × List MemPlace} (h : RC v = some y) : ∃ c, v = valC c ∧ y = (datC c, []) := by
  unfold RC at h
  split at h
  · rename_i a
    split at h
    · rename_i b s hs
      cases h
      refine ⟨⟨b, s⟩, ?_, rfl⟩
      unfold valC
      congr 1
      apply Array.toList_inj.1
      rw [hs]
    · cases h
  · cases h
theorem data_eq {a b : ByteArray} (h : a.data.toList = b.data.toList) : a = b := by rw [← st_toList a, ← st_toList b, h]
theorem datC_inj {a b : Chg} (h : datC a = datC b) : a = b := by
  obtain ⟨a1, a2⟩ := a
  obtain ⟨b1, b2⟩ := b
  simp only [datC, DataW.agg.injEq, List.cons.injEq, DataW.lit.injEq, Lit.int.injEq, Lit.string.injEq, and_true, true_and] at h
  obtain ⟨rfl, h2⟩ := h
  rw [data_eq h2]
/-- a map of changes, in block b of the memory: those of M, each at its block -/
def MIs (b : Nat) (w : World) (N : Nat) (M : List Chg) : Prop :=
  ∃ n D, w.ownsMap Try.prog 3 RC b n D ∧ n ≤ N ∧ Maps.size D = M.length ∧ (∀ k, Maps.has D (kl k) = M.any (fun x => x.b == k)) ∧ (∀ c ∈ M, inI c.b ∧ ∀ z, D.atKey (kl c.b) z = datC c) ∧ (∀ l, Maps.has D l = true → ∃ k, l = kl k) ∧ Rise M
theorem MIs.lt {b N : Nat} {w : World} {M : List Chg} (h : MIs b w N M) : b < w.heap.size := by
  obtain ⟨n, D, h1, _⟩ := h
  exact h1.lt
theorem MIs.same {b N : Nat} {w w' : World} {M : List Chg} (h : MIs b w N M) (hb : w'.heap[b]? = w.heap[b]?) : MIs b w' N M := by
  obtain ⟨n, D, ⟨es, clock, h1, h4⟩, h2⟩ := h
  exact ⟨n, D, ⟨es, clock, hb.trans h1, h4⟩, h2⟩
theorem MIs.made (w : World) : MIs w.heap.size (w.alloc (.map #[] 0)) 0 [] :=
  ⟨0, _, World.ownsMap_made w _ _ _, Nat.le_refl _, rfl, fun _ => rfl, (fun _ h => by cases h), (fun l h => by cases h), List.Pairwise.nil⟩
/-- a store -/
theorem MIs.store {b N : Nat} {w : World} {M : List Chg} (h : MIs b w N M) (hN : N < 100000) (c : Chg) (hc : inI c.b) :
    ∃ w', (Instr.mapUpdate 50 (.map (some b)) (.int .i64 c.b) (valC c)).run Try.prog w = .ok () w' ∧ MIs b w' (N + 1) (withL M c) ∧ w.grownBy w' (some b) ∧ w'.heap.size = w.heap.size := by
  obtain ⟨n, D, h1, h2, hs, h3, h4, h5, hr⟩ := h
  obtain ⟨w', hrun, k1, k2⟩ := h1.store law Try.underlying50 (by unfold maxLen; omega) (hkey c.b hc) (RC_mk c)
  have hkey' := law.key (hkey c.b hc)
  refine ⟨w', hrun, ⟨n + 1, _, k1, by omega, ?_, fun k => ?_, fun x hx => ?_, fun l hl => ?_, withL_rise hr c⟩, k2.grown, ?_⟩
  · rw [Maps.size_put (h1.tidy law), hs, withL_len hr, h3]
  · by_cases e : k = c.b
    · subst e
      rw [Maps.has_put_same h1.isMap hkey']
      symm
      rw [List.any_eq_true]
      exact ⟨c, (withL_mem hr c c).2 (.inl rfl), by simp⟩
    · rw [Maps.has_put_other (fun e' => e (kl_inj e')), h3]
      rw [Bool.eq_iff_iff, List.any_eq_true, List.any_eq_true]
      constructor
      · rintro ⟨x, hx, hk⟩
        refine ⟨x, (withL_mem hr c x).2 (.inr ⟨hx, ?_⟩), hk⟩
        have : x.b = k := by simpa using hk
        omega
      · rintro ⟨x, hx, hk⟩
        have hxk : x.b = k := by simpa using hk
        rcases (withL_mem hr c x).1 hx with rfl | ⟨hx, _⟩
        · exact absurd hxk.symm e
        · exact ⟨x, hx, hk⟩
  · rcases (withL_mem hr c x).1 hx with rfl | ⟨hx, hne⟩
    · exact ⟨hc, fun z => Maps.atKey_put_same h1.isMap hkey' _ _⟩
    · refine ⟨(h4 x hx).1, fun z => ?_⟩
      rw [Maps.atKey_put_other (fun e' => hne (kl_inj e'))]
      exact (h4 x hx).2 z
  · by_cases e : l = kl c.b
    · exact ⟨c.b, e⟩
    · rw [Maps.has_put_other e] at hl
      exact h5 l hl
  · obtain ⟨es, c', es', c'', e1, rfl⟩ := k2
    simp [ChangeMaps.setBlock]
theorem MIs.len {b N : Nat} {w : World} {M : List Chg} (h : MIs b w N M) (ty : TypeId) : (Builtin.len_ #[50] ty #[.map (some b)]).run Try.prog w = .ok (.int .i64 (M.length : Nat)) w := by
  obtain ⟨n, D, h1, h2, hs, _⟩ := h
  rw [h1.len Try.underlying50 ty, hs]
/-- those that have come -/
def Coll (M : List Chg) (left : Lit → Bool) (ss : List Chg) : Prop := (ss.map (·.b)).Nodup ∧ ∀ x, x ∈ ss ↔ (x ∈ M ∧ left (kl x.b) = false)
theorem same_self (n : Int) : (kl n).sameKey (kl n) = true := by simp [kl, Lit.sameKey]
theorem same_ne {a b : Int} (h : a ≠ b) : (kl a).sameKey (kl b) = false := by simp [kl, Lit.sameKey, h]
theorem Coll.start {M : List Chg} {D : DataW Unit} (h : ∀ k, Maps.has D (kl k) = M.any (fun x => x.b == k)) : Coll M (Maps.has D) [] := by
  refine ⟨List.nodup_nil, fun x => ⟨fun h => (by cases h), fun ⟨h1, h2⟩ => ?_⟩⟩
  rw [h] at h2
  have : M.any (fun y => y.b == x.b) = true := List.any_eq_true.2 ⟨x, h1, by simp⟩
  rw [this] at h2; cases h2
theorem rise_b {M : List Chg} (h : Rise M) {x y : Chg} (hx : x ∈ M) (hy : y ∈ M) (e : x.b = y.b) : x = y := by
  induction M with
  | nil => cases hx
  | cons z M ih =>
    unfold Rise at h
    rw [List.pairwise_cons] at h
    rcases List.mem_cons.1 hx with e1 | hx1
    · rcases List.mem_cons.1 hy with e2 | hy1
      · rw [e1, e2]
      · have := h.1 y hy1; rw [e1] at e; omega
    · rcases List.mem_cons.1 hy with e2 | hy1
      · have := h.1 x hx1; rw [e2] at e; omega
      · exact ih h.2 hx1 hy1
theorem Coll.step {M : List Chg} {left : Lit → Bool} {ss : List Chg} (h : Coll M left ss) (hr : Rise M) {x : Chg} (hx : x ∈ M) (hlk : left (kl x.b) = true) : Coll M (fun z => left z && !z.sameKey (kl x.b)) (ss ++ [x]) := by
  have hnew : ∀ y ∈ ss, y.b ≠ x.b := fun y hy e => by
    have := ((h.2 y).1 hy).2
    rw [e, hlk] at this; cases this
  refine ⟨?_, fun y => ?_⟩
  · rw [List.map_append]
    refine List.nodup_append.2 ⟨h.1, by simp, fun a ha b hb => ?_⟩
    simp at hb
    subst hb
    obtain ⟨y, hy, rfl⟩ := List.mem_map.1 ha
    exact hnew y hy
  · rw [List.mem_append, h.2 y]
    constructor
    · rintro (⟨h1, h2⟩ | h1)
      · exact ⟨h1, by simp [h2]⟩
      · simp at h1
        subst h1
        exact ⟨hx, by simp [same_self]⟩
    · rintro ⟨h1, h2⟩
      by_cases e : y.b = x.b
      · exact .inr (by simp [rise_b hr h1 hx e])
      · refine .inl ⟨h1, ?_⟩
        have h3 : (left (kl y.b) && !(kl y.b).sameKey (kl x.b)) = false := h2
        rw [same_ne e] at h3
        simpa using h3
set_option maxRecDepth 100000 in
set_option maxHeartbeats 1000000 in
theorem values1 (F : Fence) (n : Nat) (h39 : F.fn 39) (hro : F.round = none) (_hn : 1 ≤ n) (l Bm b nn : Nat) (D0 : DataW Unit) (M : List Chg) (hr : Rise M) (J : List Chg → World → Prop)
    (hD1 : ∀ k, Maps.has D0 (kl k) = M.any (fun x => x.b == k)) (hD2 : ∀ c ∈ M, inI c.b ∧ ∀ z, D0.atKey (kl c.b) z = datC c)
    (hY : ∀ pre x W, J pre W → pre.length < Maps.size D0 → YieldAt F (n - 1) Try.prog l #[valC x] W fun e W' => e = .returned (.bool true) ∧ J (pre ++ [x]) W' ∧ KeepsWalks W W')
    (W : World) (hJ : AbidesFrom W.heap.size J) (hm : W.cell? ⟨Bm, 0, none⟩ = some (.map (some b))) (hown : W.ownsMap Try.prog 3 RC b nn D0) (h0 : J [] W) :
    CallsIn F n Try.prog 39 #[.func (.yield l) #[] #[], .pointer (some ⟨Bm, 0, none⟩)] W fun e W' => (∃ v, e = .returned v) ∧ ∃ ss : List Chg, ((ss.map (·.b)).Nodup ∧ ∀ x, x ∈ ss ↔ x ∈ M) ∧ J ss W' := by
  refine callsIn_of_wp Try.func39 rfl h39 ?_ hro
  simp only [Try.ntmps39, List.size_toArray, List.length_cons, List.length_nil, Nat.reduceAdd, Nat.reduceSub, Array.replicate_succ, Array.replicate_zero, List.push_toArray, List.append_toArray, List.nil_append, List.cons_append]
  gi_wp2_with (first
    | (gi_at_range; refine wpListIn_range_own _ rfl _ 50 rfl 3 44 law Try.underlying50 _ b nn _ rfl hown ?_; intro w0 hrg0 hg0 hs0)
    | gi_in)
  go_frame
  gi_loopw [4] (fun _ wr => ∃ (left : Lit → Bool) (cnt : Nat) (ss : List Chg), wr.ranges Try.prog 3 RC b W.heap.size nn D0 left cnt ∧ ss.length + cnt ≤ Maps.size D0 ∧ Coll M left ss ∧ J ss wr)
    (fun _ wr => wr.rangeLeft b W.heap.size)
  case atStart =>
    exact ⟨_, _, [], hrg0, by simp, Coll.start hD1, hJ [] W w0 none h0 hg0 (fun r e => by cases e)⟩
  case round =>
    obtain ⟨left, cnt, ss, hrg, hcs, hC, hJs⟩ := hrel
    gi_wp2_with (first
      | (gi_at_next; refine wpListIn_next_ranges _ rfl _ rfl 3 law RC (Value.int .i64) valC (fun key kl hk => by obtain ⟨x, hx, _⟩ := Maps.keyOf_int_inv Try.underlying3 hk; exact ⟨x, hx⟩) (fun v y hv => by obtain ⟨c, hc, _⟩ := RC_inv hv; exact ⟨c, hc⟩) b W.heap.size nn _ _ _ rfl hrg ?_ ?_)
      | gi_in)
    · intro hc0 hl0
      gi_wp2
      go_end0
      refine ⟨⟨_, rfl⟩, ss, ⟨hC.1, fun x => ?_⟩, hJs⟩
      rw [hC.2 x]
      simp [hl0]
    · intro x c kl' yd yp w2 cnt2 hkey' hlk hv hat hrg2 hlt hg2 hs2 hen
      obtain ⟨x', ex, ek, hx⟩ := Maps.keyOf_int_inv Try.underlying3 hkey'
      cases ex
      obtain rfl : kl x = kl' := ek.symm
      obtain ⟨c', ec, ey⟩ := RC_inv hv
      have hcc : c = c' := by obtain ⟨c1, c2⟩ := c; obtain ⟨d1, d2⟩ := c'; simp [valC] at ec; obtain ⟨rfl, rfl⟩ := ec; rfl
      subst hcc
      have hhas : Maps.has D0 (kl x) = true := Maps.has_true_of_atKey hat
      rw [hD1] at hhas
      obtain ⟨z, hz, hzb⟩ := List.any_eq_true.1 hhas
      have hzb : z.b = x := by simpa using hzb
      have hzc : z = c := by
        have h1 := (hD2 z hz).2 yd
        rw [hzb, hat] at h1
        have h2 : yd = datC c := congrArg Prod.fst ey
        rw [h2] at h1
        exact (datC_inj h1).symm
      subst hzc
      subst hzb
      have hJ2 : J ss w2 := hJ ss wr w2 (some W.heap.size) hJs hg2 (fun r e => by cases e; exact ⟨Nat.le_refl _, hrg.iter_walk⟩)
      have hJ3 : J ss (w2.alloc (.cells #[.int .i64 z.b, .string z.d] 44)) := hJ ss w2 _ none hJ2 (World.grownBy_alloc w2 _ none) (fun r e => by cases e)
      obtain ⟨fn, tmps, assign, body, hy, hR⟩ := hY ss z _ hJ3 (by omega)
      clear hs2
      unfold valC at hen hy
      gi_wp2
      refine hR.mono ?_
      rintro e W3 ⟨rfl, hJ4, hk3⟩
      gi_wp2
      have hrg3 := hrg2.of_walks ((KeepsWalks.alloc w2 (.cells #[.int .i64 z.b, .string z.d] 44)).trans hk3)
      go_roundw
      case rel => exact ⟨_, cnt2, ss ++ [z], hrg3, by simp; omega, hC.step hr hz hlk, hJ4⟩
      case measure => rw [hrg3.left_eq, hrg.left_eq]; exact hlt
end Go.Proofs.Ytaahdfogpehkfaa
