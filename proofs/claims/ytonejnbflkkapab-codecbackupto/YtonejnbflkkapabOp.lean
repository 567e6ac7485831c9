import Derived.Test.YtonejnbflkkapabWl
import Derived.Lib.SmallJoins
import Derived.Deep.Slices
import Derived.JoinedCond
import Derived.ChangeOld
import Derived.Carry
namespace Go.Proofs.Ytonejnbflkkapab
open Go.ChangeShapes Go.WideShapes Go.ChangeAt Go.RowKit Go.Joins Go.Deep

theorem cells26 : Try.prog.cellsOf 26 = 4 := by kernel_rfl
def Item.d {H : Type} (x : Item) : DataW H := .agg [.lit (.int .i64 x.K), .lit (.int .i64 x.N), .lit (.int .i64 x.Z), .lit (.string x.s.data.toList)]

theorem open_items {H : Type} {enc : TypeId × Value → H} {W : World} {fuel : Nat} {ao : Option Addr} {len cap : Nat} {x : DataW H × List MemPlace}
    (h : DataW.trod enc Try.prog W 0 (fun _ => true) true fuel 22 [.slice ao len cap] = some x) :
    ∃ (it : Nat → Item) (elems spare : List (DataW H)), Lie W ao len it ∧ len ≤ cap ∧ cap ≤ maxLen ∧ (∀ i, i < len → (-9223372036854775808 ≤ (it i).N ∧ (it i).N ≤ 9223372036854775807) ∧ (-9223372036854775808 ≤ (it i).Z ∧ (it i).Z ≤ 9223372036854775807) ∧ (it i).s.size ≤ maxLen) ∧
      (x.1 = .nil ∧ len = 0 ∨ x.1 = .slice elems spare ∧ elems = (List.range len).map fun i => (it i).d) := by
  rcases open_slice Try.underlying22 h with ⟨h0, hx⟩ | ⟨a, len', cap', m, n, D, Pl, hcs, hb, hl, hm, hmm, hx, hel⟩
  · simp at h0
    obtain ⟨rfl, rfl, rfl⟩ := h0
    exact ⟨default, [], [], .inl rfl, Nat.le_refl _, Nat.zero_le _, fun i hi => absurd hi (by omega), .inl ⟨by rw [hx], rfl⟩⟩
  · simp at hcs
    obtain ⟨rfl, rfl, rfl⟩ := hcs
    have hlm : len ≤ m := by rw [hmm]; split <;> omega
    have each : ∀ i, i < len → ∃ y : Item, W.cell? (a.add (i * 4)) = some (.int .i64 y.K) ∧ W.cell? (a.add (i * 4 + 1)) = some (.int .i64 y.N) ∧ W.cell? (a.add (i * 4 + 2)) = some (.int .i64 y.Z) ∧ W.cell? (a.add (i * 4 + 3)) = some (.string y.s) ∧
        D i = y.d ∧ (-9223372036854775808 ≤ y.N ∧ y.N ≤ 9223372036854775807) ∧ (-9223372036854775808 ≤ y.Z ∧ y.Z ≤ 9223372036854775807) ∧ y.s.size ≤ maxLen := by
      intro i hi
      obtain ⟨cs', h1, h2⟩ := hel i (by omega)
      rw [cells26] at h1
      obtain ⟨_, hlen, hcell⟩ := World.cells?_some h1
      obtain ⟨y0, y1, y2, y3, n', hxy, _, g0, g1, g2, g3⟩ := trod_struct4 Try.underlying26 h2
      have k3 : Try.prog.cellsOf 3 = 1 := by kernel_rfl
      have k9 : Try.prog.cellsOf 9 = 1 := by kernel_rfl
      match cs', hlen with
      | [v0, v1, v2, v3], _ =>
        simp [k3] at g0 g1 g2
        simp [k9] at g3
        have e0 := hcell 0 (by omega)
        have e1 := hcell 1 (by omega)
        have e2 := hcell 2 (by omega)
        have e3 := hcell 3 (by omega)
        rw [Deep.add_add] at e0 e1 e2 e3
        obtain ⟨K, q0, rfl, wK⟩ := DataW.trod_int Try.underlying3 g0
        obtain ⟨N, q1, rfl, wN⟩ := DataW.trod_int Try.underlying3 g1
        obtain ⟨Z, q2, rfl, wZ⟩ := DataW.trod_int Try.underlying3 g2
        obtain ⟨s, q3, rfl, ws⟩ := DataW.trod_string Try.underlying9 g3
        simp at q0 q1 q2 q3
        subst q0 q1 q2 q3
        simp only [Prod.mk.injEq] at hxy
        exact ⟨⟨K, N, Z, s⟩, by simpa using e0, by simpa using e1, by simpa using e2, by simpa using e3, hxy.1, bounds_i64 wN, bounds_i64 wZ, ws⟩
    obtain ⟨it, hit⟩ := choose_lt each
    refine ⟨it, (List.range len).map D, _, ?_, hl, hm, fun i hi => ⟨(hit i hi).2.2.2.2.2.1, (hit i hi).2.2.2.2.2.2.1, (hit i hi).2.2.2.2.2.2.2⟩, .inr ⟨by rw [hx], List.map_congr_left fun i hi => (hit i (List.mem_range.1 hi)).2.2.2.2.1⟩⟩
    by_cases h0 : len = 0
    · exact .inl h0
    · right
      have c0 := (hit 0 (by omega)).1
      obtain ⟨b, off, sp⟩ := a
      have hsp : sp = none := by simpa [Addr.add] using World.cell?_spot c0
      subst hsp
      have hblk : b < W.heap.size := by
        obtain ⟨cs', h1, _⟩ := hel 0 (by omega)
        rw [cells26] at h1
        simpa [Addr.add] using World.cells?_block h1 (by decide)
      have hadd : ∀ j, (⟨b, off, none⟩ : Addr).add j = ⟨b, off + j, none⟩ := fun j => by unfold Addr.add; split <;> simp_all
      refine ⟨b, off, rfl, hblk, fun i hi => ?_⟩
      obtain ⟨a0, a1, a2, a3, _⟩ := hit i hi
      rw [hadd] at a0 a1 a2 a3
      exact ⟨a0, by rw [← Nat.add_assoc] at a1; exact a1, by rw [← Nat.add_assoc] at a2; exact a2, by rw [← Nat.add_assoc] at a3; exact a3⟩

theorem bulk_append {H : Type} (l r : List (DataW H)) : Rows.uptoBulkAll (l ++ r) = Rows.uptoBulkAll l + Rows.uptoBulkAll r := by
  induction l with
  | nil => simp [Rows.uptoBulkAll]
  | cons x l ih => simp only [List.cons_append, Rows.uptoBulkAll, ih]; omega
theorem bulk_item {H : Type} (x : Item) : Rows.uptoBulk (x.d (H := H)) = x.s.size + 5 := by
  have e : x.s.data.toList.length = x.s.size := by rw [Array.length_toList]; rfl
  unfold Item.d
  simp only [Rows.uptoBulk, Rows.uptoBulkAll, e]; omega
theorem item_len (x : Item) (hN : -9223372036854775808 ≤ x.N ∧ x.N ≤ 9223372036854775807) : x.b.length ≤ 10 + x.s.size := by
  have hl : x.s.data.toList.length = x.s.size := by rw [Array.length_toList]; rfl
  unfold Item.b itB
  split
  · split
    · simp
    · have := (uEnc_len64 x.N.toNat (by omega)).2; omega
  · split
    · have := (uEnc_len64 (zig x.N) (zig_lt _ hN)).2; omega
    · split
      · split
        · rename_i hf
          have ⟨_, h1, _⟩ := fits_of hf
          rw [fEnc_len]; omega
        · simp
      · split
        · simp
        · rw [List.length_append, hl]
          have := (uEnc_len64 x.s.size (by omega)).2; omega
theorem outs_len {H : Type} (it : Nat → Item) (n : Nat) (hN : ∀ i, i < n → -9223372036854775808 ≤ (it i).N ∧ (it i).N ≤ 9223372036854775807) : ∀ j, j ≤ n → (outs it j).length ≤ 2 * Rows.uptoBulkAll ((List.range j).map fun i => (it i).d (H := H)) := by
  intro j
  induction j with
  | zero => intro _; simp [outs]
  | succ j ih =>
    intro hj
    have h1 := ih (by omega)
    have h2 := item_len (it j) (hN j (by omega))
    rw [outs, List.length_append, List.range_succ, List.map_append, bulk_append]
    simp only [List.map_cons, List.map_nil, Rows.uptoBulkAll, bulk_item]
    omega
theorem bulk_mono {H : Type} (it : Nat → Item) (n j : Nat) (h : j ≤ n) : Rows.uptoBulkAll ((List.range j).map fun i => (it i).d (H := H)) ≤ Rows.uptoBulkAll ((List.range n).map fun i => (it i).d (H := H)) := by
  induction n with
  | zero => have : j = 0 := by omega
            subst this; exact Nat.le_refl _
  | succ n ih =>
    by_cases hj : j = n + 1
    · subst hj; exact Nat.le_refl _
    · have := ih (by omega)
      rw [List.range_succ, List.map_append, bulk_append]; omega
theorem bulk_count {H : Type} (it : Nat → Item) (n : Nat) : n ≤ Rows.uptoBulkAll ((List.range n).map fun i => (it i).d (H := H)) := by
  induction n with
  | zero => exact Nat.zero_le _
  | succ n ih =>
    rw [List.range_succ, List.map_append, bulk_append]
    simp only [List.map_cons, List.map_nil, Rows.uptoBulkAll, bulk_item]; omega
/-- what the bound gives -/
theorem small_items {H : Type} {x : DataW H} {it : Nat → Item} {len : Nat} {elems spare : List (DataW H)} (hk : Rows.uptoSmall H [x] = true) (hN : ∀ i, i < len → -9223372036854775808 ≤ (it i).N ∧ (it i).N ≤ 9223372036854775807)
    (h : x = .nil ∧ len = 0 ∨ x = .slice elems spare ∧ elems = (List.range len).map fun i => (it i).d) : len ≤ 1048576 ∧ ∀ j, j ≤ len → (outs it j).length ≤ 2 * 1048576 := by
  have hb : Rows.uptoBulkAll [x] ≤ 1048576 := of_decide_eq_true hk
  rcases h with ⟨_, rfl⟩ | ⟨rfl, rfl⟩
  · exact ⟨by omega, fun j hj => by rw [show j = 0 by omega]; simp [outs]⟩
  · simp only [Rows.uptoBulkAll, Rows.uptoBulk] at hb
    have hc := bulk_count (H := H) it len
    refine ⟨by omega, fun j hj => ?_⟩
    have h1 := outs_len (H := H) it len hN j hj
    have h2 := bulk_mono (H := H) it len j hj
    omega
end Go.Proofs.Ytonejnbflkkapab
