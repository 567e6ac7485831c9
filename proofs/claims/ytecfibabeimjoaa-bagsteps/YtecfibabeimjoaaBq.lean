import Derived.Test.YtecfibabeimjoaaBp
import Derived.Shelf.SlIter.Collect
import Derived.RangeFuncBound
namespace Go.Proofs.Ytecfibabeimjoaa
open Go.RowKit Go.Maps Go.Sort Go.Shelf

/-- the keys that have come: none twice; those that the map has and that are no longer to come -/
def Coll (D0 : DataW Unit) (left : Lit → Bool) (ss : List Msg) : Prop := ss.Nodup ∧ ∀ x, x ∈ ss ↔ (okM x ∧ Maps.has D0 (kl x) = true ∧ left (kl x) = false)
theorem Coll.start (D0 : DataW Unit) : Coll D0 (Maps.has D0) [] := ⟨List.nodup_nil, fun x => by cases Maps.has D0 (kl x) <;> simp⟩
theorem same_self {x : Msg} (hx : okM x) : (kl x).sameKey (kl x) = true := WideAt.sameKey_self (law.key (hkey x hx))
theorem same_ne {x y : Msg} (hx : okM x) (hy : okM y) (h : x ≠ y) : (kl x).sameKey (kl y) = false := by
  cases hs : (kl x).sameKey (kl y) with
  | false => rfl
  | true => exact absurd (kl_inj hx hy (WideAt.sameKey_eq hs)) h
theorem Coll.step {D0 : DataW Unit} {left : Lit → Bool} {ss : List Msg} (h : Coll D0 left ss) {x : Msg} (hx : okM x) {y : DataW Unit} (hlk : left (kl x) = true) (hat : ∀ zd, D0.atKey (kl x) zd = y) : Coll D0 (fun z => left z && !z.sameKey (kl x)) (ss ++ [x]) := by
  have hhas : Maps.has D0 (kl x) = true := Maps.has_true_of_atKey hat
  have hnew : x ∉ ss := fun hx => by have := ((h.2 x).1 hx).2.2; rw [hlk] at this; cases this
  refine ⟨List.nodup_append.2 ⟨h.1, by simp, fun a ha b hb => by simp at hb; subst hb; exact fun e => hnew (e ▸ ha)⟩, fun y => ?_⟩
  by_cases hy : y = x
  · subst hy
    have : (kl y).sameKey (kl y) = true := same_self hx
    simp [hhas, this, hx]
  · rw [List.mem_append]
    constructor
    · rintro (hm | hm)
      · obtain ⟨h1, h2, h3⟩ := (h.2 y).1 hm
        exact ⟨h1, h2, by simp [h3]⟩
      · simp at hm; exact absurd hm hy
    · rintro ⟨h1, h2, h3⟩
      left
      refine (h.2 y).2 ⟨h1, h2, ?_⟩
      have hne : (kl y).sameKey (kl x) = false := same_ne h1 hx hy
      simpa [hne] using h3
/-- the keys of a map, each once -/
def KeysM (f : Msg → Option Int) (ss : List Msg) : Prop := ss.Nodup ∧ ∀ x, x ∈ ss ↔ (okM x ∧ (f x).isSome = true)
set_option maxRecDepth 100000 in
set_option maxHeartbeats 1000000 in
theorem keys1 (F : Fence) (n : Nat) (h36 : F.fn 36) (hro : F.round = none) (_hn : 1 ≤ n) (l Bm b nn : Nat) (D0 : DataW Unit) (J : List Msg → World → Prop)
    (hY : ∀ pre x W, J pre W → pre.length < Maps.size D0 → YieldAt F (n - 1) Try.prog l #[valM x] W fun e W' => e = .returned (.bool true) ∧ J (pre ++ [x]) W' ∧ KeepsWalks W W')
    (W : World) (hJ : AbidesFrom W.heap.size J) (hm : W.cell? ⟨Bm, 0, none⟩ = some (.map (some b))) (hown : W.ownsMap Try.prog 32 RI b nn D0) (h0 : J [] W) :
    CallsIn F n Try.prog 36 #[.func (.yield l) #[] #[], .pointer (some ⟨Bm, 0, none⟩)] W fun e W' => (∃ v, e = .returned v) ∧ ∃ ss : List Msg, (ss.Nodup ∧ ∀ x, x ∈ ss ↔ (okM x ∧ Maps.has D0 (kl x) = true)) ∧ J ss W' := by
  refine callsIn_of_wp Try.func36 rfl h36 ?_ hro
  simp only [Try.ntmps36, List.size_toArray, List.length_cons, List.length_nil, Nat.reduceAdd, Nat.reduceSub, Array.replicate_succ, Array.replicate_zero, List.push_toArray, List.append_toArray, List.nil_append, List.cons_append]
  gi_wp2_with (first
    | (gi_at_range; refine wpListIn_range_own _ rfl _ 59 rfl 32 3 law Try.underlying59 _ b nn _ rfl hown ?_; intro w0 hrg0 hg0 hs0)
    | gi_in)
  go_frame
  gi_loopw [3] (fun _ wr => ∃ (left : Lit → Bool) (cnt : Nat) (ss : List Msg), wr.ranges Try.prog 32 RI b W.heap.size nn D0 left cnt ∧ ss.length + cnt ≤ Maps.size D0 ∧ Coll D0 left ss ∧ J ss wr)
    (fun _ wr => wr.rangeLeft b W.heap.size)
  case atStart =>
    exact ⟨_, _, [], hrg0, by simp, Coll.start D0, hJ [] W w0 none h0 hg0 (fun r e => by cases e)⟩
  case round =>
    obtain ⟨left, cnt, ss, hrg, hcs, hC, hJs⟩ := hrel
    gi_wp2_with (first
      | (gi_at_next; refine wpListIn_next_ranges _ rfl _ rfl 32 law RI valM id (fun key kl hk => by obtain ⟨x, hx, _⟩ := hkey_inv hk; exact ⟨x, hx⟩) (fun v _ _ => ⟨v, rfl⟩) b W.heap.size nn _ _ _ rfl hrg ?_ ?_)
      | gi_in)
    · intro hc0 hl0
      gi_wp2
      go_end0
      refine ⟨⟨_, rfl⟩, ss, ⟨hC.1, fun x => ?_⟩, hJs⟩
      rw [hC.2 x]
      simp [hl0]
    · intro x c kl' yd yp w2 cnt2 hkey' hlk hv hat hrg2 hlt hg2 hs2 hen
      obtain ⟨x', ex, hx⟩ := hkey_inv hkey'
      obtain rfl : x = x' := valM_inj ex
      obtain rfl : kl x = kl' := Option.some.inj ((hkey x hx).symm.trans hkey')
      have hJ2 : J ss w2 := hJ ss wr w2 (some W.heap.size) hJs hg2 (fun r e => by cases e; exact ⟨Nat.le_refl _, hrg.iter_walk⟩)
      have hJ3 : J ss (w2.alloc (.cells #[.int .i64 x.f, .int .i64 x.t, .string x.s] 32)) := hJ ss w2 _ none hJ2 (World.grownBy_alloc w2 _ none) (fun r e => by cases e)
      obtain ⟨fn, tmps, assign, body, hy, hR⟩ := hY ss x _ hJ3 (by omega)
      clear hs2
      unfold valM at hen hy
      gi_wp2
      refine hR.mono ?_
      rintro e W3 ⟨rfl, hJ4, hk3⟩
      gi_wp2
      have hrg3 := hrg2.of_walks ((KeepsWalks.alloc w2 (.cells #[.int .i64 x.f, .int .i64 x.t, .string x.s] 32)).trans hk3)
      go_roundw
      case rel => exact ⟨_, cnt2, ss ++ [x], hrg3, by simp; omega, hC.step hx hlk hat, hJ4⟩
      case measure => rw [hrg3.left_eq, hrg.left_eq]; exact hlt
end Go.Proofs.Ytecfibabeimjoaa
