/-
  Proved: for every list of texts and every list of changes 'cartularylaw08.JournalOpens' returns true, and its arguments read behind the call as they read before. No condition.
-/
import Derived.Test.YtmcahiebcflfoaaRows
import Derived.Test.YtmcahiebcflfoaaMz
import Derived.Test.YtmcahiebcflfoaaOn
import Derived.SizedLaws
import Derived.WalkKit
import Derived.ProofKit
import Derived.OpenShut
import Derived.ShutString
import Derived.Below
import Derived.Lib.SmallJoins
namespace Go.Proofs.Ytmcahiebcflfoaa
open Go.ChangeShapes Go.WideShapes Go.ChangeAt Go.RowKit Go.Joins Go.Deep
theorem bytes9 : Try.prog.bytesOf 9 = 16 := by kernel_rfl
/-- a slice of strings, and the datum that it is -/
theorem open_strings_d {H : Type} {enc : TypeId × Value → H} {W : World} {fuel : Nat} {ao : Option Addr} {len cap : Nat} {x : DataW H × List MemPlace}
    (h : DataW.trod enc Try.prog W 0 (fun _ => true) true fuel 58 [.slice ao len cap] = some x) : ∃ l, SLie W (.slice ao len cap) l ∧ (l = [] ∨ ∃ elems spare, x.1 = .slice elems spare ∧ elems.length = l.length ∧ ∀ i (hi : i < l.length), elems[i]? = some (.lit (.string l[i].data.toList))) := by
  rcases open_slice Try.underlying58 h with ⟨h0, hx⟩ | ⟨a, len', cap', m, n, D, Pl, hcs, hb, hl, hm, hmm, hx, hel⟩
  · simp at h0
    obtain ⟨rfl, rfl, rfl⟩ := h0
    exact ⟨[], ⟨none, 0, rfl, Nat.le_refl _, by decide, fun i hi => by simp at hi⟩, .inl rfl⟩
  · simp at hcs
    obtain ⟨rfl, rfl, rfl⟩ := hcs
    have hlm : len ≤ m := by rw [hmm]; split <;> omega
    have each : ∀ i, i < len → ∃ y : ByteArray, W.cell? (a.add i) = some (.string y) ∧ D i = .lit (.string y.data.toList) := by
      intro i hi
      obtain ⟨cs', h1, h2⟩ := hel i (by omega)
      rw [cells9] at h1
      obtain ⟨_, hlen, hcell⟩ := World.cells?_some h1
      match cs', hlen with
      | [v0], _ =>
        have e0 := hcell 0 (by omega)
        rw [Deep.add_add] at e0
        obtain ⟨s, q1, q2, ws⟩ := DataW.trod_string Try.underlying9 h2
        simp at q1 q2
        subst q1
        exact ⟨s, by simpa using e0, q2.1⟩
    obtain ⟨it, hit⟩ := choose_lt each
    refine ⟨(List.range len).map it, ⟨some a, cap, by simp, by simpa using hl, hm, fun i hi => ?_⟩, .inr ⟨_, _, by rw [hx], by simp, fun i hi => ?_⟩⟩
    · rw [range_get]
      have hi' : i < len := by simpa using hi
      have a0 := (hit i hi').1
      have a00 := (hit 0 (by omega)).1
      obtain ⟨b, off, sp⟩ := a
      have hsp : sp = none := by simpa [Addr.add] using World.cell?_spot a00
      subst hsp
      have hadd : ∀ j, (⟨b, off, none⟩ : Addr).add j = ⟨b, off + j, none⟩ := fun j => by unfold Addr.add; split <;> simp_all
      have hblk : b < W.heap.size := by
        obtain ⟨cs', h1, _⟩ := hel i (by omega)
        rw [cells9, hadd] at h1
        exact World.cells?_block h1 (by decide)
      rw [hadd] at a0
      exact ⟨b, off, rfl, hblk, a0⟩
    · rw [range_get]
      have hi' : i < len := by simpa using hi
      rw [List.getElem?_map, List.getElem?_range hi', ← (hit i hi').2]; rfl
theorem mem_weights {H : Type} {t : TypeId} {s : List UInt8} : ∀ {elems : List (DataW H)} {i : Nat}, elems[i]? = some (.lit (.string s)) → s.length ∈ DataW.weightsAll Try.prog t elems
  | [], i, h => by simp at h
  | d :: r, 0, h => by
    simp at h
    subst h
    simp [DataW.weightsAll, DataW.weights]
  | d :: r, i + 1, h => by
    simp at h
    have := mem_weights (t := t) h
    simp [DataW.weightsAll, this]
/-- what the reach says of a slice of strings -/
theorem sized_strings {H : Type} {ts : List TypeId} {ds : List (DataW H)} (h : (DataW.weightsEach Try.prog ts ds).all (· ≤ reachBytes) = true) {j : Nat} {d : DataW H} {l : List ByteArray} (ht : ts[j]? = some 58) (hd : ds[j]? = some d)
    (hl : l = [] ∨ ∃ elems spare, d = .slice elems spare ∧ elems.length = l.length ∧ ∀ i (hi : i < l.length), elems[i]? = some (.lit (.string l[i].data.toList))) : l.length * 16 ≤ 140737488351232 ∧ ∀ x ∈ l, x.size ≤ 140737488351232 := by
  have hr : reachBytes = 140737488351232 := by decide
  rcases hl with rfl | ⟨elems, spare, rfl, hlen, hel⟩
  · exact ⟨by simp, fun x hx => by cases hx⟩
  · have h1 := sized_slice h ht hd Try.underlying58
    rw [bytes9, hr] at h1
    refine ⟨by omega, fun x hx => ?_⟩
    obtain ⟨i, hi, rfl⟩ := List.mem_iff_getElem.1 hx
    have h2 := List.all_eq_true.1 h _ (DataW.weights_mem_each ht hd l[i].data.toList.length (by
      simp only [DataW.weights, Try.underlying58]
      exact List.mem_cons_of_mem _ (List.mem_append_left _ (mem_weights (hel i hi)))))
    rw [hr] at h2
    have h3 : l[i].data.toList.length ≤ 140737488351232 := by simpa using h2
    rw [Array.length_toList] at h3
    exact h3
end Go.Proofs.Ytmcahiebcflfoaa
namespace Go.Proofs.Ytmcahiebcflfoaa.journalOpens
open Go.ChangeShapes Go.WideShapes Go.ChangeAt Go.RowKit Go.Joins
open Go.ChangeMaps (open_string shut_string)

theorem own : ownKnob Try.prog.godebug = none := by kernel_rfl

set_option maxRecDepth 100000 in
theorem lifted (os : Os) (started : os.Started) (H : Type) (enc : TypeId × Value → H) :
    ReturnsInHanded {} Try.checked os 4 .any (Rows.journalOpensSpec.pre6 enc Try.prog Try.f4 Rows.journalOpensRow.domain false) (Rows.journalOpensSpec.post enc Try.prog Try.f4 false true false false) := by
  refine returnsInHanded_of_change_sized (C := Try.checked) own started (by kernel_rfl) Try.func4
    (ChangeSpec.witness6 (enc := enc) (C := Try.checked) false ⟨#[], #[.slice none 0 0, .slice none 0 0], []⟩ 8 (by kernel_rfl) (by kernel_rfl) (by kernel_rfl) (by kernel_rfl)) ?_
  intro W base args ds gs before hval0 hW hcnd hsz0 _
  have hval : ∀ (j : Nat) t v, Try.f4.params[j]? = some t → args[j]? = some v → Value.okWide Try.prog W .any base t v := hval0
  have hsz : (DataW.weightsEach Try.prog (Try.f4.params.toList ++ Rows.journalOpensSpec.plain.varTypes Try.prog) (ds ++ gs)).all (· ≤ reachBytes) = true := hsz0
  have hW' := hW
  obtain ⟨p, q, hA0, hV, rfl, hfz, hnd⟩ := hW
  have hA : DataW.TrodAll enc Try.prog W 0 (fun _ => true) true Try.f4.params.toList args.toList ds p := hA0
  rw [Try.params4] at hA hval hsz
  obtain ⟨v0, vs0, d0, ds0, p0, q0, hargs, rfl, rfl, h0, r0⟩ := trodAll_cons hA
  obtain ⟨v1, vs1, d1, ds1, p1, q1, rfl, rfl, rfl, h1, r1⟩ := trodAll_cons r0
  obtain ⟨rfl, rfl, rfl⟩ := trodAll_nil r1
  obtain rfl : args = #[v0, v1] := by cases args; simp_all
  obtain ⟨rfl, rfl⟩ := trodVars_none hV
  obtain ⟨ao0, len0, cap0, rfl⟩ := okWide_slice Try.underlying58 (hval 0 58 v0 rfl rfl)
  have k0 := h0
  have lt0 : ∀ x ∈ p0, x.block < W.heap.size := by obtain ⟨m, hm⟩ := k0; exact DataW.trod_lt m _ _ _ hm
  obtain ⟨fuel0, hf0⟩ := h0
  obtain ⟨l0, hS0, hd0⟩ := open_strings_d (by simpa [Value.cells] using hf0)
  obtain ⟨hz0, hy0⟩ := sized_strings hsz (j := 0) rfl rfl hd0
  obtain ⟨ao1, len1, cap1, rfl⟩ := okWide_slice Try.underlying31 (hval 1 31 v1 rfl rfl)
  have k1 := h1
  have lt1 : ∀ x ∈ p1, x.block < W.heap.size := by obtain ⟨m, hm⟩ := k1; exact DataW.trod_lt m _ _ _ hm
  obtain ⟨fuel1, hf1⟩ := h1
  obtain ⟨l1, hS1⟩ := open_changes (by simpa [Value.cells] using hf1)
  clear hA0 hval0
  refine (show Calls Try.prog 4 _ W fun e w' => e = .returned (.bool true) ∧ Below W.heap.size W w' from opens_walk _ _ l0 l1 W hS0 hy0 hS1).mono fun e W' ⟨he, bel⟩ => ?_
  subst he
  exact ⟨_, rfl, _, _, _, [], _, [], hW', trodAll_mk1 (shut_bool Try.underlying4 _), (trodAll_cons_mk (Below.trod laidOut (by kernel_rfl) (of_decide_eq_true (by kernel_rfl)) k0 bel lt0) (trodAll_cons_mk (Below.trod laidOut (by kernel_rfl) (of_decide_eq_true (by kernel_rfl)) k1 bel lt1) trodAll_mk0)), rfl, bel.frame _, fun h => by cases h⟩

theorem over : Rows.journalOpensRow.holds Try.pinned (OpenSpec.ofChange Rows.journalOpensSpec) :=
  OpenClaim.holds_of_wide 4 Try.f4 rfl rfl rfl rfl rfl rfl rfl ⟨rfl, rfl, rfl, rfl, rfl⟩ rfl rfl rfl rfl rfl (by kernel_rfl) Try.func4 (by kernel_rfl)
    (of_decide_eq_true (by kernel_rfl)) (by unfold Func.isWrapper; first | (rw [if_pos (by decide +kernel)]; kernel_rfl) | (rw [if_neg (by decide +kernel)]; exact ⟨rfl, rfl⟩))
    (fun os started H enc _ => lifted os started H enc)

/-- ████ THE STATEMENT ████ -/
theorem proved : Rows.JournalOpensSaid :=
  over
#print axioms proved
end Go.Proofs.Ytmcahiebcflfoaa.journalOpens
