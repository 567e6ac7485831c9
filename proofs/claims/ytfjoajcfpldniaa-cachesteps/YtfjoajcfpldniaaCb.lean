import Derived.Test.YtfjoajcfpldniaaCa
import Derived.Shelf.SlIter.Collect
import Derived.RangeFuncBound
namespace Go.Proofs.Ytfjoajcfpldniaa
open Go.RowKit Go.Maps Go.Sort Go.Shelf

/-- a delete of one that is there -/
theorem MIs.drop {b N : Nat} {w : World} {M : List Ent} (h : MIs b w N M) (k : Int) (hk : inI k) (hth : M.any (fun x => x.b == k) = true) (ty : TypeId) :
    ∃ w', (Builtin.delete_ #[55, 3] ty #[.map (some b), .int .i64 k]).run Try.prog w = .ok (.tuple #[]) w' ∧ MIs b w' N (M.filter (fun x => x.b != k)) ∧ w.grownBy w' (some b) ∧ w'.heap.size = w.heap.size := by
  obtain ⟨n, D, h1, h2, hs, h3, h4, h5, hr⟩ := h
  obtain ⟨w', hrun, hown, hturn⟩ := h1.drop law Try.underlying55 (hkey k hk) ty
  refine ⟨w', hrun, ⟨n, _, hown, h2, ?_, fun j => ?_, fun x hx => ?_, fun l hl => ?_, ?_⟩, hturn.grown, ?_⟩
  · have hsd := Maps.size_del (k := kl k) (h1.tidy law)
    rw [hs, h3, hth, if_pos rfl] at hsd
    have : ∀ {M : List Ent}, (M.map (·.b)).Nodup → M.any (fun x => x.b == k) = true → M.length - 1 = (M.filter (fun x => x.b != k)).length := by
      intro M
      induction M with
      | nil => intro _ h; simp at h
      | cons y M ih =>
        intro hn hm
        rw [List.map_cons, List.nodup_cons] at hn
        by_cases e : y.b = k
        · have hno : M.filter (fun x => x.b != k) = M := by
            rw [List.filter_eq_self]
            intro x hx
            have : x.b ≠ k := fun e' => hn.1 (by rw [e, ← e']; exact List.mem_map_of_mem hx)
            simpa using this
          rw [List.filter_cons_of_neg (by simp [e]), hno]
          simp
        · have hm' : M.any (fun x => x.b == k) = true := by simpa [e] using hm
          rw [List.filter_cons_of_pos (by simp [e]), List.length_cons, List.length_cons, ← ih hn.2 hm']
          have : 0 < M.length := by
            cases M with
            | nil => simp at hm'
            | cons => simp
          omega
    have := this hr hth
    omega
  · by_cases e : j = k
    · subst e
      rw [Maps.has_del_same]
      symm
      rw [List.any_eq_false]
      intro x hx
      simpa using (List.mem_filter.1 hx).2
    · rw [Maps.has_del_other (fun e' => e (kl_inj e')), h3]
      rw [Bool.eq_iff_iff, List.any_eq_true, List.any_eq_true]
      constructor
      · rintro ⟨x, hx, hk'⟩
        have hb : x.b = j := by simpa using hk'
        exact ⟨x, List.mem_filter.2 ⟨hx, by simp [hb, e]⟩, hk'⟩
      · rintro ⟨x, hx, hk'⟩
        exact ⟨x, (List.mem_filter.1 hx).1, hk'⟩
  · obtain ⟨hx, hne⟩ := List.mem_filter.1 hx
    have hne : x.b ≠ k := by simpa using hne
    refine ⟨(h4 x hx).1, fun z => ?_⟩
    rw [Maps.atKey_del_other (fun e' => hne (kl_inj e'))]
    exact (h4 x hx).2 z
  · by_cases e : l = kl k
    · exact ⟨k, e⟩
    · rw [Maps.has_del_other e] at hl
      exact h5 l hl
  · exact (List.filter_sublist.map _).nodup hr
  · obtain ⟨es, c, es', c', e1, rfl⟩ := hturn
    simp [ChangeMaps.setBlock]
/-- those that have come -/
def Coll (M : List Ent) (left : Lit → Bool) (ss : List Ent) : Prop := (ss.map (·.b)).Nodup ∧ ∀ x, x ∈ ss ↔ (x ∈ M ∧ left (kl x.b) = false)
theorem same_self (n : Int) : (kl n).sameKey (kl n) = true := by simp [kl, Lit.sameKey]
theorem same_ne {a b : Int} (h : a ≠ b) : (kl a).sameKey (kl b) = false := by simp [kl, Lit.sameKey, h]
theorem Coll.start {M : List Ent} {D : DataW Unit} (h : ∀ k, Maps.has D (kl k) = M.any (fun x => x.b == k)) : Coll M (Maps.has D) [] := by
  refine ⟨List.nodup_nil, fun x => ⟨fun h => (by cases h), fun ⟨h1, h2⟩ => ?_⟩⟩
  rw [h] at h2
  have : M.any (fun y => y.b == x.b) = true := List.any_eq_true.2 ⟨x, h1, by simp⟩
  rw [this] at h2; cases h2
theorem nd_b {M : List Ent} (h : (M.map (·.b)).Nodup) {x y : Ent} (hx : x ∈ M) (hy : y ∈ M) (e : x.b = y.b) : x = y := by
  induction M with
  | nil => cases hx
  | cons z M ih =>
    rw [List.map_cons, List.nodup_cons] at h
    rcases List.mem_cons.1 hx with e1 | hx1
    · rcases List.mem_cons.1 hy with e2 | hy1
      · rw [e1, e2]
      · exact absurd (by rw [← e1, e]; exact List.mem_map_of_mem hy1) h.1
    · rcases List.mem_cons.1 hy with e2 | hy1
      · exact absurd (by rw [← e2, ← e]; exact List.mem_map_of_mem hx1) h.1
      · exact ih h.2 hx1 hy1
theorem Coll.step {M : List Ent} {left : Lit → Bool} {ss : List Ent} (h : Coll M left ss) (hr : (M.map (·.b)).Nodup) {x : Ent} (hx : x ∈ M) (hlk : left (kl x.b) = true) : Coll M (fun z => left z && !z.sameKey (kl x.b)) (ss ++ [x]) := by
  have hnew : ∀ y ∈ ss, y.b ≠ x.b := fun y hy e => by
    have := ((h.2 y).1 hy).2
    rw [e, hlk] at this; cases this
  refine ⟨?_, fun y => ?_⟩
  · rw [List.map_append]
    refine List.nodup_append.2 ⟨h.1, by simp, fun a ha b hb => ?_⟩
    simp at hb
    subst hb
    obtain ⟨y, hy, rfl⟩ := List.mem_map.1 ha
    exact hnew y hy
  · rw [List.mem_append, h.2 y]
    constructor
    · rintro (⟨h1, h2⟩ | h1)
      · exact ⟨h1, by simp [h2]⟩
      · simp at h1
        subst h1
        exact ⟨hx, by simp [same_self]⟩
    · rintro ⟨h1, h2⟩
      by_cases e : y.b = x.b
      · exact .inr (by simp [nd_b hr h1 hx e])
      · refine .inl ⟨h1, ?_⟩
        have h3 : (left (kl y.b) && !(kl y.b).sameKey (kl x.b)) = false := h2
        rw [same_ne e] at h3
        simpa using h3
def valE (x : Ent) : Value := ptr x.a
set_option maxRecDepth 100000 in
set_option maxHeartbeats 1000000 in
theorem values1 (F : Fence) (n : Nat) (h39 : F.fn 52) (hro : F.round = none) (_hn : 1 ≤ n) (l Bm b nn : Nat) (D0 : DataW Unit) (M : List Ent) (hr : (M.map (·.b)).Nodup) (J : List Ent → World → Prop)
    (hD1 : ∀ k, Maps.has D0 (kl k) = M.any (fun x => x.b == k)) (hD2 : ∀ c ∈ M, inI c.b ∧ ∀ z, D0.atKey (kl c.b) z = datP c.a)
    (hY : ∀ pre x W, J pre W → pre.length < Maps.size D0 → YieldAt F (n - 1) Try.prog l #[valE x] W fun e W' => e = .returned (.bool true) ∧ J (pre ++ [x]) W' ∧ KeepsWalks W W')
    (W : World) (hJ : AbidesFrom W.heap.size J) (hm : W.cell? ⟨Bm, 0, none⟩ = some (.map (some b))) (hown : W.ownsMap Try.prog 3 RP b nn D0) (h0 : J [] W) :
    CallsIn F n Try.prog 52 #[.func (.yield l) #[] #[], .pointer (some ⟨Bm, 0, none⟩)] W fun e W' => (∃ v, e = .returned v) ∧ ∃ ss : List Ent, ((ss.map (·.b)).Nodup ∧ ∀ x, x ∈ ss ↔ x ∈ M) ∧ J ss W' := by
  refine callsIn_of_wp Try.func52 rfl h39 ?_ hro
  simp only [Try.ntmps52, List.size_toArray, List.length_cons, List.length_nil, Nat.reduceAdd, Nat.reduceSub, Array.replicate_succ, Array.replicate_zero, List.push_toArray, List.append_toArray, List.nil_append, List.cons_append]
  gi_wp2_with (first
    | (gi_at_range; refine wpListIn_range_own _ rfl _ 55 rfl 3 69 law Try.underlying55 _ b nn _ rfl hown ?_; intro w0 hrg0 hg0 hs0)
    | gi_in)
  go_frame
  gi_loopw [4] (fun _ wr => ∃ (left : Lit → Bool) (cnt : Nat) (ss : List Ent), wr.ranges Try.prog 3 RP b W.heap.size nn D0 left cnt ∧ ss.length + cnt ≤ Maps.size D0 ∧ Coll M left ss ∧ J ss wr)
    (fun _ wr => wr.rangeLeft b W.heap.size)
  case atStart =>
    exact ⟨_, _, [], hrg0, by simp, Coll.start hD1, hJ [] W w0 none h0 hg0 (fun r e => by cases e)⟩
  case round =>
    obtain ⟨left, cnt, ss, hrg, hcs, hC, hJs⟩ := hrel
    gi_wp2_with (first
      | (gi_at_next; refine wpListIn_next_ranges _ rfl _ rfl 3 law RP (Value.int .i64) ptrO (fun key kl hk => by obtain ⟨x, hx, _⟩ := Maps.keyOf_int_inv Try.underlying3 hk; exact ⟨x, hx⟩) (fun v y hv => by rcases RP_inv hv with ⟨hc, _⟩ | ⟨a, hc, _⟩; exact ⟨none, hc⟩; exact ⟨some a, hc⟩) b W.heap.size nn _ _ _ rfl hrg ?_ ?_)
      | gi_in)
    · intro hc0 hl0
      gi_wp2
      go_end0
      refine ⟨⟨_, rfl⟩, ss, ⟨hC.1, fun x => ?_⟩, hJs⟩
      rw [hC.2 x]
      simp [hl0]
    · intro x c kl' yd yp w2 cnt2 hkey' hlk hv hat hrg2 hlt hg2 hs2 hen
      obtain ⟨x', ex, ek, hx⟩ := Maps.keyOf_int_inv Try.underlying3 hkey'
      cases ex
      obtain rfl : kl x = kl' := ek.symm
      have hhas : Maps.has D0 (kl x) = true := Maps.has_true_of_atKey hat
      rw [hD1] at hhas
      obtain ⟨z, hz, hzb⟩ := List.any_eq_true.1 hhas
      have hzb : z.b = x := by simpa using hzb
      have h1 := (hD2 z hz).2 yd
      rw [hzb, hat] at h1
      have hcz : c = some z.a := by
        cases c with
        | none =>
          have h2 : yd = .lit (.int .i64 (-1)) := (congrArg Prod.fst (Option.some.inj hv)).symm
          rw [h2] at h1
          exact absurd h1.symm datP_ne
        | some a =>
          have h2 : yd = datP a := (congrArg Prod.fst (Option.some.inj hv)).symm
          rw [h2] at h1
          rw [datP_inj h1]
      subst hcz
      subst hzb
      have hJ2 : J ss w2 := hJ ss wr w2 (some W.heap.size) hJs hg2 (fun r e => by cases e; exact ⟨Nat.le_refl _, hrg.iter_walk⟩)
      obtain ⟨fn, tmps, assign, body, hy, hR⟩ := hY ss z _ hJ2 (by omega)
      clear hs2
      unfold valE ptr at hy
      unfold ptrO ptr at hen
      gi_wp2
      refine hR.mono ?_
      rintro e W3 ⟨rfl, hJ4, hk3⟩
      gi_wp2
      have hrg3 := hrg2.of_walks hk3
      go_roundw
      case rel => exact ⟨_, cnt2, ss ++ [z], hrg3, by simp; omega, hC.step hr hz hlk, hJ4⟩
      case measure => rw [hrg3.left_eq, hrg.left_eq]; exact hlt
/-- **maps.Values(m) hands back an iterator over m's values** -/
theorem values_gives (F : Fence) (n : Nat) (h39 : F.fn 52) (hro : F.round = none) (hn : 1 ≤ n) (Bm b N : Nat) (M : List Ent) (w : World) (hBm : Bm < w.heap.size) (hm : w.cell? ⟨Bm, 0, none⟩ = some (.map (some b))) (hM : MIs b w N M) :
    SeqGives F n Try.prog 52 #[.pointer (some ⟨Bm, 0, none⟩)] valE (fun ss => (ss.map (·.b)).Nodup ∧ ∀ x, x ∈ ss ↔ x ∈ M) N w := fun l J W hW hJ hY h0 => by
  have hM' := hM.same (hW.block b hM.lt)
  obtain ⟨nn, D0, h1, h2, hs, h3, h4, h5, hr⟩ := hM'
  have hsz : Maps.size D0 ≤ N := Nat.le_trans h1.size_le h2
  refine (values1 F n h39 hro hn l Bm b nn D0 M hr J h3 h4 (fun pre x W1 hJ1 hlt => hY pre x W1 hJ1 (by omega)) W hJ ((hW.cell (p := ⟨Bm, 0, none⟩) hBm).trans hm) h1 h0).mono ?_
  rintro e W' ⟨hv, ss, hS, hJ'⟩
  exact ⟨hv, ss, hS, hJ'⟩
end Go.Proofs.Ytfjoajcfpldniaa
