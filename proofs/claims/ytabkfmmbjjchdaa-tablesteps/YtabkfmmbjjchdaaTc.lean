import Derived.Test.YtabkfmmbjjchdaaSh
namespace Go.Proofs.Ytabkfmmbjjchdaa
open Go.RowKit Go.Maps

/-- a slice reads as texts -/
def SLie (w : World) (v : Value) (l : List ByteArray) : Prop :=
  ∃ ao cap, v = .slice ao l.length cap ∧ l.length ≤ cap ∧ cap ≤ maxLen ∧ l.length * 16 ≤ 140737488355328 ∧ ∀ i (hi : i < l.length), ∃ gb off, ao = some ⟨gb, off, none⟩ ∧ gb < w.heap.size ∧ w.cell? ⟨gb, off + i, none⟩ = some (.string l[i])
theorem SLie.below {w w' : World} {v : Value} {l : List ByteArray} (h : SLie w v l) (k : Below w.heap.size w w') : SLie w' v l := by
  obtain ⟨ao, cap, e, h1, h2, hz, h3⟩ := h
  refine ⟨ao, cap, e, h1, h2, hz, fun i hi => ?_⟩
  obtain ⟨gb, off, e1, hg, c0⟩ := h3 i hi
  exact ⟨gb, off, e1, Nat.lt_of_lt_of_le hg k.size, (k.cell (p := ⟨gb, off + i, none⟩) hg).trans c0⟩
theorem SLie.nil (w : World) : SLie w (.slice none 0 0) [] := ⟨none, 0, rfl, Nat.le_refl _, by decide, by simp, fun i hi => by simp at hi⟩
theorem SLie.one {w : World} {v : Value} {l : List ByteArray} (h : SLie w v l) : v.oneCell' = true := by
  obtain ⟨ao, cap, rfl, _⟩ := h; rfl
theorem info9 : (Try.prog.info? 9).map (fun i => (i.zero, i.size, i.bytes)) = some (some (.string ⟨#[]⟩), 1, 16) := by kernel_rfl
theorem run_app_zero (w : World) (g c : Nat) (b : Option Addr) : (Builtin.append_ #[30, 30] 30 #[.slice (some ⟨g, 0, none⟩) 0 0, .slice b 0 c]).run Try.prog w = .ok (.slice (some ⟨g, 0, none⟩) 0 0) w := by
  obtain ⟨i0, hi, hz0, hz1, hz2⟩ := info_parts info9
  cases b <;> simp [Builtin.append_, run_underlying Try.underlying30, sizeOf, typeInfo, hi, Builtin.lenOf, Builtin.firstCells, storeCells, loadCells, loadCellsFrom, Result.andThen]
set_option maxRecDepth 100000 in
theorem clone_fresh {w : World} {v : Value} {l : List ByteArray} (h : SLie w v l) : Calls Try.prog 30 #[v] w fun e w' => ∃ v', e = .returned v' ∧ SLie w' v' l ∧ (∀ gb, gb < w.heap.size → v'.ownBlock ≠ some gb) ∧ Below w.heap.size w w' := by
  obtain ⟨ao, cap, rfl, h1, h2, hz, h3⟩ := h
  cases ao with
  | none =>
    have hl : l = [] := by
      cases l with
      | nil => rfl
      | cons a t => obtain ⟨gb, off, e, _⟩ := h3 0 (by simp); cases e
    subst hl
    exact (AnyE.slices_Clone_nil Try.cloneS 0 cap w).mono fun e w' ⟨he, hw⟩ => ⟨_, he, by rw [hw]; exact SLie.nil w, (fun gb _ e0 => by cases e0), by rw [hw]; exact Below.refl _ _⟩
  | some a =>
    by_cases hl : l = []
    · subst hl
      have hr := run_app_zero (w.alloc (.cells #[] 9)) w.heap.size cap (some a)
      have hq : ∀ (w : World) (a : Option Addr) (n c n' c' : Nat), (binOp .eql 30 (.slice a n c) (.slice none n' c')).run Try.prog w = .ok (.bool a.isNone) w := fun w a n c n' c' => Lib.run_eql_slice_nil w _ _ a n c n' c' Try.underlying30
      clear h3 hz h1
      go_enter Try.func30, Try.ntmps30
      go_wp2
      go_ret
      exact ⟨_, rfl, ⟨_, 0, rfl, Nat.le_refl _, by decide, by simp, fun i hi => by simp at hi⟩, (fun gb hg e0 => by have e2 : w.heap.size = gb := Option.some.inj e0; omega), below_alloc _ _⟩
    · have hp := List.length_pos_iff.2 hl
      obtain ⟨gb, off, e, hg, _⟩ := h3 0 hp
      cases e
      obtain ⟨i0, hi, hz0, hz1, hz2⟩ := info_parts info9
      have hc : ∀ j u, (l.map Value.string)[j]? = some u → w.cell? ⟨gb, off + j, none⟩ = some u := by
        intro j u hj
        rw [List.getElem?_map] at hj
        cases hlj : l[j]? with
        | none => rw [hlj] at hj; cases hj
        | some s =>
          rw [hlj] at hj
          obtain ⟨hjl, hs⟩ := List.getElem?_eq_some_iff.1 hlj
          obtain ⟨gb', off', e', _, c⟩ := h3 j hjl
          cases e'
          rw [c, hs]
          exact hj
      have hcon := AnyE.slices_Clone Try.cloneS i0 _ 1 16 hi hz0 hz1 hz2 rfl (by omega) Try.sizeOf9 gb off l.length cap (l.map Value.string) w (by simp) (by omega) (by omega) hc (by intro u hu; obtain ⟨s, _, rfl⟩ := List.mem_map.1 hu; rfl)
      refine (show Calls Try.prog 30 _ w _ from hcon).mono ?_
      rintro e w' ⟨v', rfl, hrow, _, hb⟩
      refine ⟨v', rfl, ?_, fun gb hg e0 => ?_, hb⟩
      rotate_left
      · obtain ⟨e1, ⟨rfl, hz'⟩ | ⟨x, cap', cur, rfl, e4, e5, r1, r2, r3⟩⟩ := hrow
        · cases e0
        · have e2 : x = gb := Option.some.inj e0; omega
      have hh := hrow
      obtain ⟨e1, ⟨rfl, hz'⟩ | ⟨x, cap', cur, rfl, e4, e5, r1, r2, r3⟩⟩ := hrow
      · omega
      · refine ⟨_, cap', rfl, r1, r2, hz, fun i hi => ⟨x, 0, rfl, (Array.getElem?_eq_some_iff.1 e5).1, ?_⟩⟩
        have := World.ownsRow.cellAt hh i (by omega)
        rw [Nat.zero_add, this, List.getElem?_map, List.getElem?_eq_getElem hi]
        rfl
theorem B32.kp {q g : Nat} {w w' : World} {x : Rs} (h : B32 g w x) (k : KP q w w') (hq : g ≠ q) : B32 g w' x := (k.block g h.lt hq).trans h
theorem B32.fr {g : Nat} {w : World} {x : Rs} (h : B32 g w x) (i : Nat) : w.frozen? ⟨g, i, none⟩ = false := by unfold B32 at h; simp [World.frozen?, h]
theorem B62.fr {g : Nat} {w : World} {x : Kx} (h : B62 g w x) (i : Nat) : w.frozen? ⟨g, i, none⟩ = false := by unfold B62 at h; simp [World.frozen?, h]
theorem B32.set5 {g : Nat} {w : World} {e a b c : Int} {t : ByteArray} {nv v : Value} {ns : List ByteArray} (h : B32 g w ⟨e, t, a, b, c, nv, ns⟩) : B32 g (w.setCell ⟨g, 5, none⟩ v) ⟨e, t, a, b, c, v, ns⟩ := by
  unfold B32 at *; simp [World.setCell, Array.getElem?_modify, h]
theorem setCell_kp (w : World) (g o : Nat) (v : Value) : KP g w (w.setCell ⟨g, o, none⟩ v) := ⟨rfl, rfl, rfl, by show _ ≤ (w.heap.modify _ _).size; simp, fun j _ hj => by show (w.heap.modify g _)[j]? = _; rw [Array.getElem?_modify, if_neg (fun e => hj e.symm)]⟩
theorem SLie.kp {g : Nat} {w w' : World} {v : Value} {l : List ByteArray} (h : SLie w v l) (k : KP g w w') (hv : ∀ gb, gb = g → v.ownBlock ≠ some gb) : SLie w' v l := by
  obtain ⟨ao, cap, rfl, h1, h2, hz, h3⟩ := h
  refine ⟨ao, cap, rfl, h1, h2, hz, fun i hi => ?_⟩
  obtain ⟨gb, off, e1, hgb, c0⟩ := h3 i hi
  subst e1
  have hne : gb ≠ g := fun e => hv gb e rfl
  refine ⟨gb, off, rfl, Nat.lt_of_lt_of_le hgb k.size, ?_⟩
  rw [← c0]
  unfold World.cell?
  rw [k.block gb hgb hne]
set_option maxRecDepth 100000 in
set_option maxHeartbeats 1000000 in
theorem copied_any {w : World} {x : Rs} (h : SLie w x.nv x.ns) : Calls Try.prog 25 #[x.v] w fun e w' => ∃ v', e = .returned (Rs.v { x with nv := v' }) ∧ SLie w' v' x.ns ∧ (∀ gb, gb < w.heap.size → v'.ownBlock ≠ some gb) ∧ Below w.heap.size w w' := by
  obtain ⟨e, t, a, b, c, nv, ns⟩ := x
  simp only [Rs.v] at h ⊢
  obtain ⟨ao, cap, rfl, r⟩ := h
  have HS : Hid (SLie w (.slice ao ns.length cap) ns) := hid ⟨ao, cap, rfl, r⟩
  obtain ⟨n, hn⟩ : ∃ n, n = ns.length := ⟨_, rfl⟩
  rw [← hn] at HS ⊢
  clear r hn
  go_enter Try.func25, Try.ntmps25
  go_wp2_with (go_at_call 30; fail)
  obtain ⟨w0, hw0⟩ : ∃ w0, w0 = w.alloc (.cells #[.int .i64 e, .string t, .int .i64 a, .int .i64 b, .int .i64 c, .slice ao n cap] 32) := ⟨_, rfl⟩
  have b1 : B32 w.heap.size w0 ⟨e, t, a, b, c, .slice ao n cap, ns⟩ := by rw [hw0]; exact box_at _ _
  have B0 : Below w.heap.size w w0 := by rw [hw0]; exact below_alloc _ _
  have hs0 : w0.heap.size = w.heap.size + 1 := by rw [hw0]; simp
  rw [← hw0]
  obtain ⟨w1, hw1⟩ : ∃ w1, w1 = w0.alloc (.cells #[.int .i64 0, .string ⟨#[]⟩, .int .i64 0, .int .i64 0, .int .i64 0, .slice none 0 0] 32) := ⟨_, rfl⟩
  have b2 : B32 (w.heap.size + 1) w1 rz := by rw [hw1, ← hs0]; exact box_at _ _
  have B1 : Below w.heap.size w w1 := by rw [hw1]; exact B0.next (below_alloc _ _)
  have b1' : B32 w.heap.size w1 ⟨e, t, a, b, c, .slice ao n cap, ns⟩ := by rw [hw1]; exact b1.below (below_alloc _ _) (by omega)
  have hs1 : w1.heap.size = w.heap.size + 2 := by rw [hw1]; simp; omega
  rw [← hw1]
  clear hw0 hw1
  refine (clone_fresh (HS.out.below B1)).mono ?_
  rintro e1 w2 ⟨v', rfl, hs2, hf2, hb2⟩
  obtain ⟨ao', cap', rfl, r'⟩ := hs2
  obtain ⟨n', hn'⟩ : ∃ n, n = ns.length := ⟨_, rfl⟩
  have HS2 : Hid (SLie w2 (.slice ao' n' cap') ns) := hid (by rw [hn']; exact ⟨ao', cap', rfl, r'⟩)
  rw [← hn'] at hf2 ⊢
  have HF2 := hid hf2
  have c1 := b1'.below hb2 (by omega)
  have c2 := b2.below hb2 (by omega)
  have HB2 := hid (B1.next hb2)
  obtain ⟨k0, k1, k2, k3, k4, k5⟩ := c1.cells
  have kf := c1.fr
  have C1 := hid c1
  have C2 := hid c2
  have hz2 := hb2.size
  clear r' hn' hf2 hb2 c1 c2 b1 b1' b2
  go_upto_region 2 with fail
  obtain ⟨w3, hw3⟩ : ∃ w3, w3 = w2.setCell ⟨w.heap.size, 5, none⟩ (.slice ao' n' cap') := ⟨_, rfl⟩
  have K3 : KP w.heap.size w2 w3 := by rw [hw3]; exact setCell_kp _ _ _ _
  have d1 : B32 w.heap.size w3 ⟨e, t, a, b, c, .slice ao' n' cap', ns⟩ := by rw [hw3]; exact C1.out.set5
  have D2 := hid (C2.out.kp K3 (by omega))
  have HS3 := hid (HS2.out.kp K3 (fun gb e => HF2.out gb (by omega)))
  have HB3 : Hid (Below w.heap.size w w3) := hid (KP.new HB2.out K3 (Nat.le_refl _))
  rw [← hw3]
  clear hw3 k0 k1 k2 k3 k4 k5 kf
  obtain ⟨k0, k1, k2, k3, k4, k5⟩ := d1.cells
  have D1 := hid d1
  clear d1
  simp only at k0 k1 k2 k3 k4 k5
  go_wp2_with (first
    | ((with_reducible refine at_store32 (w.heap.size + 1) rz ⟨e, t, a, b, c, .slice ao' n' cap', ns⟩ ?_ ?_ D2.out ?_ ?_); rfl; rfl; rfl; intro wr hBr hkr))
  refine ret25 hBr rfl rfl ⟨_, rfl, HS3.out.kp hkr (fun gb e => HF2.out gb (by omega)), fun gb hg => HF2.out gb (by omega), KP.new HB3.out hkr (by omega)⟩
end Go.Proofs.Ytabkfmmbjjchdaa
