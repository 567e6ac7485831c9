import Derived.Test.YtmcahiebcflfoaaOn
namespace Go.Proofs.Ytmcahiebcflfoaa
open Go.ChangeShapes Go.WideShapes Go.ChangeAt Go.RowKit Go.Joins Go.Deep
/-- a step: its kind, its number, its changes -/
structure Stp where
  k : Int
  n : Int
  v : Value
  L : List Chg
instance : Inhabited Stp := ⟨⟨0, 0, .slice none 0 0, []⟩⟩
/-- a slice reads as steps -/
def TLie (w : World) (v : Value) (l : List Stp) : Prop :=
  ∃ ao cap, v = .slice ao l.length cap ∧ l.length ≤ cap ∧ cap ≤ maxLen ∧ ∀ i (hi : i < l.length), ∃ gb off, ao = some ⟨gb, off, none⟩ ∧ gb < w.heap.size ∧ w.cell? ⟨gb, off + i * 3, none⟩ = some (.int .i64 l[i].k) ∧ w.cell? ⟨gb, off + i * 3 + 1, none⟩ = some (.int .i64 l[i].n) ∧ w.cell? ⟨gb, off + i * 3 + 2, none⟩ = some l[i].v ∧ CLie w l[i].v l[i].L
theorem TLie.below {w w' : World} {v : Value} {l : List Stp} (h : TLie w v l) (k : Below w.heap.size w w') : TLie w' v l := by
  obtain ⟨ao, cap, e, h1, h2, h3⟩ := h
  refine ⟨ao, cap, e, h1, h2, fun i hi => ?_⟩
  obtain ⟨gb, off, e, hg, c0, c1, c2, c3⟩ := h3 i hi
  exact ⟨gb, off, e, Nat.lt_of_lt_of_le hg k.size, (k.cell (p := ⟨gb, _, none⟩) hg).trans c0, (k.cell (p := ⟨gb, _, none⟩) hg).trans c1, (k.cell (p := ⟨gb, _, none⟩) hg).trans c2, c3.below k⟩
theorem cells33 : Try.prog.cellsOf 33 = 3 := by kernel_rfl
theorem cells31 : Try.prog.cellsOf 31 = 1 := by kernel_rfl
theorem open_stp {H : Type} {enc : TypeId × Value → H} {W : World} {fuel : Nat} {v0 v1 v2 : Value} {x : DataW H × List MemPlace}
    (h : DataW.trod enc Try.prog W 0 (fun _ => true) true fuel 33 [v0, v1, v2] = some x) : ∃ s : Stp, v0 = .int .i64 s.k ∧ v1 = .int .i64 s.n ∧ v2 = s.v ∧ CLie W s.v s.L := by
  obtain ⟨xs, n', _, hxy, hcl, hxl, hf⟩ := DataW.trod_struct Try.underlying33 h
  match xs, hxl with
  | [y0, y1, y2], _ =>
    have g0 := hf 0 _ rfl
    have g1 := hf 1 _ rfl
    have g2 := hf 2 _ rfl
    simp [cells3] at g0
    simp [cells3] at g1
    simp [cells31] at g2
    obtain ⟨a, q0, _, wa⟩ := DataW.trod_int Try.underlying3 g0
    obtain ⟨b, q1, _, wb⟩ := DataW.trod_int Try.underlying3 g1
    simp at q0 q1
    subst q0 q1
    have hs : ∃ ao len cap, v2 = .slice ao len cap := by
      rcases open_slice Try.underlying31 g2 with ⟨h0, hx⟩ | ⟨a, len', cap', m, n, D, Pl, hcs, _⟩
      · simp at h0
        exact ⟨_, _, _, h0⟩
      · simp at hcs
        exact ⟨_, _, _, hcs⟩
    obtain ⟨ao, len, cap, rfl⟩ := hs
    obtain ⟨L, hL⟩ := open_changes g2
    exact ⟨⟨a, b, _, L⟩, rfl, rfl, rfl, hL⟩
theorem open_steps {H : Type} {enc : TypeId × Value → H} {W : World} {fuel : Nat} {ao : Option Addr} {len cap : Nat} {x : DataW H × List MemPlace}
    (h : DataW.trod enc Try.prog W 0 (fun _ => true) true fuel 22 [.slice ao len cap] = some x) : ∃ l, TLie W (.slice ao len cap) l := by
  rcases open_slice Try.underlying22 h with ⟨h0, hx⟩ | ⟨a, len', cap', m, n, D, Pl, hcs, hb, hl, hm, hmm, hx, hel⟩
  · simp at h0
    obtain ⟨rfl, rfl, rfl⟩ := h0
    exact ⟨[], none, 0, rfl, Nat.le_refl _, by decide, fun i hi => by simp at hi⟩
  · simp at hcs
    obtain ⟨rfl, rfl, rfl⟩ := hcs
    have hlm : len ≤ m := by rw [hmm]; split <;> omega
    have each : ∀ i, i < len → ∃ y : Stp, W.cell? (a.add (i * 3)) = some (.int .i64 y.k) ∧ W.cell? (a.add (i * 3 + 1)) = some (.int .i64 y.n) ∧ W.cell? (a.add (i * 3 + 2)) = some y.v ∧ CLie W y.v y.L := by
      intro i hi
      obtain ⟨cs', h1, h2⟩ := hel i (by omega)
      rw [cells33] at h1
      obtain ⟨_, hlen, hcell⟩ := World.cells?_some h1
      match cs', hlen with
      | [v0, v1, v2], _ =>
        have e0 := hcell 0 (by omega)
        have e1 := hcell 1 (by omega)
        have e2 := hcell 2 (by omega)
        rw [Deep.add_add] at e0 e1 e2
        obtain ⟨mm, rfl, rfl, rfl, hc⟩ := open_stp h2
        exact ⟨mm, by simpa using e0, by simpa using e1, by simpa using e2, hc⟩
    obtain ⟨it, hit⟩ := choose_lt each
    refine ⟨(List.range len).map it, some a, cap, by simp, by simpa using hl, hm, fun i hi => ?_⟩
    rw [range_get]
    have hi' : i < len := by simpa using hi
    obtain ⟨a0, a1, a2, a3⟩ := hit i hi'
    have a00 := (hit 0 (by omega)).1
    obtain ⟨b, off, sp⟩ := a
    have hsp : sp = none := by simpa [Addr.add] using World.cell?_spot a00
    subst hsp
    have hadd : ∀ j, (⟨b, off, none⟩ : Addr).add j = ⟨b, off + j, none⟩ := fun j => by unfold Addr.add; split <;> simp_all
    have hblk : b < W.heap.size := by
      obtain ⟨cs', h1, _⟩ := hel i (by omega)
      rw [cells33, hadd] at h1
      exact World.cells?_block h1 (by decide)
    rw [hadd] at a0 a1 a2
    rw [← Nat.add_assoc] at a1 a2
    exact ⟨b, off, rfl, hblk, a0, a1, a2, a3⟩
end Go.Proofs.Ytmcahiebcflfoaa
