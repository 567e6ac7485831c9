import Derived.Test.YtogiiefaakejlaaRo
import Derived.Lib.SmallJoins
import Derived.Deep.Slices
import Derived.ChangeSlices
import Derived.SizedLaws
import Derived.JoinedCond
import Derived.ChangeOld
import Derived.Carry
namespace Go.Proofs.Ytogiiefaakejlaa
open Go.ChangeShapes Go.WideShapes Go.ChangeAt Go.RowKit Go.Joins Go.Deep

theorem laidOut : laidOutB Try.prog = true := by kernel_rfl
theorem cells3 : Try.prog.cellsOf 3 = 1 := by kernel_rfl
theorem cells9 : Try.prog.cellsOf 9 = 1 := by kernel_rfl
theorem cells24 : Try.prog.cellsOf 24 = 5 := by kernel_rfl
theorem bytes9 : Try.prog.bytesOf 9 = 16 := by kernel_rfl
theorem bytes3 : Try.prog.bytesOf 3 = 8 := by kernel_rfl
theorem range_get {α : Type} (it : Nat → α) (n i : Nat) (h : i < ((List.range n).map it).length) : ((List.range n).map it)[i] = it i := by simp
theorem bounds_i {n : Int} (h : (Lit.int .i64 n).wf = true) : inI n := by
  have e1 : IntKind.i64.min = -9223372036854775808 := by decide
  have e2 : IntKind.i64.max = 9223372036854775807 := by decide
  simp only [Lit.wf, e1, e2, Bool.and_eq_true, decide_eq_true_eq] at h
  exact h
instance : Inhabited Ck := ⟨⟨0, 0, 0, ByteArray.empty, 0⟩⟩
/-- a chunk's numbers fit, and its bytes are no more than the reach -/
structure COk (c : Ck) : Prop where
  dg : inI c.dg
  tot : inI c.tot
  num : inI c.num
  sm : inI c.sm
  dat : c.dat.size ≤ 140737488351232
set_option maxRecDepth 100000 in
theorem open_names {H : Type} {enc : TypeId × Value → H} {W : World} {fuel : Nat} {v : Value} {x : DataW H × List MemPlace}
    (h : DataW.trod enc Try.prog W 0 (fun _ => true) true fuel 22 [v] = some x) (hw : ∀ n ∈ x.1.weights Try.prog 22, n ≤ 140737488351232) : ∃ l, SLie W v l := by
  rcases open_slice Try.underlying22 h with ⟨h0, hx⟩ | ⟨a, len, cap, m, n, D, Pl, hcs, hb, hl, hm, hmm, hx, hel⟩
  · simp at h0
    subst h0
    exact ⟨[], none, 0, rfl, Nat.le_refl _, by decide, fun i hi => by simp at hi⟩
  · simp at hcs
    subst hcs
    have hlm : len ≤ m := by rw [hmm]; split <;> omega
    have hz : len * 16 ≤ 140737488351232 := by
      have := hw ((((List.range len).map D).length + ((List.range (m - len)).map fun j => D (len + j)).length) * 16) (by
        rw [hx]; simp only [DataW.weights, Try.underlying22, bytes9]; exact List.mem_cons_self)
      simp only [List.length_map, List.length_range] at this
      omega
    have each : ∀ i, i < len → ∃ s : ByteArray, W.cell? (a.add i) = some (.string s) := by
      intro i hi
      obtain ⟨cs', h1, h2⟩ := hel i (by omega)
      rw [cells9] at h1
      obtain ⟨_, hlen, hcell⟩ := World.cells?_some h1
      match cs', hlen with
      | [v0], _ =>
        have e0 := hcell 0 (by omega)
        rw [Deep.add_add] at e0
        obtain ⟨s, q, _, _⟩ := DataW.trod_string Try.underlying9 h2
        simp at q
        subst q
        exact ⟨s, by simpa using e0⟩
    obtain ⟨it, hit⟩ := choose_lt each
    refine ⟨(List.range len).map it, some a, cap, by simp, by simpa using hl, hm, fun i hi => ?_⟩
    rw [range_get]
    have hi' : i < len := by simpa using hi
    have a0 := hit i hi'
    have a00 := hit 0 (by omega)
    obtain ⟨b, off, sp⟩ := a
    have hsp : sp = none := by simpa [Addr.add] using World.cell?_spot a00
    subst hsp
    have hblk : b < W.heap.size := by
      obtain ⟨cs', h1, _⟩ := hel i (by omega)
      rw [cells9, add_at] at h1
      exact World.cells?_block h1 (by decide)
    rw [add_at] at a0
    exact ⟨b, off, rfl, hblk, a0⟩
set_option maxRecDepth 100000 in
theorem open_nums {H : Type} {enc : TypeId × Value → H} {W : World} {fuel : Nat} {v : Value} {x : DataW H × List MemPlace}
    (h : DataW.trod enc Try.prog W 0 (fun _ => true) true fuel 52 [v] = some x) (hw : ∀ n ∈ x.1.weights Try.prog 52, n ≤ 140737488351232) : ∃ l, ILie W v l := by
  rcases open_slice Try.underlying52 h with ⟨h0, hx⟩ | ⟨a, len, cap, m, n, D, Pl, hcs, hb, hl, hm, hmm, hx, hel⟩
  · simp at h0
    subst h0
    exact ⟨[], none, 0, rfl, Nat.le_refl _, by decide, fun i hi => by simp at hi⟩
  · simp at hcs
    subst hcs
    have hlm : len ≤ m := by rw [hmm]; split <;> omega
    have hz : len * 8 ≤ 140737488351232 := by
      have := hw ((((List.range len).map D).length + ((List.range (m - len)).map fun j => D (len + j)).length) * 8) (by
        rw [hx]; simp only [DataW.weights, Try.underlying52, bytes3]; exact List.mem_cons_self)
      simp only [List.length_map, List.length_range] at this
      omega
    have each : ∀ i, i < len → ∃ s : Int, W.cell? (a.add i) = some (.int .i64 s) := by
      intro i hi
      obtain ⟨cs', h1, h2⟩ := hel i (by omega)
      rw [cells3] at h1
      obtain ⟨_, hlen, hcell⟩ := World.cells?_some h1
      match cs', hlen with
      | [v0], _ =>
        have e0 := hcell 0 (by omega)
        rw [Deep.add_add] at e0
        obtain ⟨s, q, _, _⟩ := DataW.trod_int Try.underlying3 h2
        simp at q
        subst q
        exact ⟨s, by simpa using e0⟩
    obtain ⟨it, hit⟩ := choose_lt each
    refine ⟨(List.range len).map it, some a, cap, by simp, by simpa using hl, hm, fun i hi => ?_⟩
    rw [range_get]
    have hi' : i < len := by simpa using hi
    have a0 := hit i hi'
    have a00 := hit 0 (by omega)
    obtain ⟨b, off, sp⟩ := a
    have hsp : sp = none := by simpa [Addr.add] using World.cell?_spot a00
    subst hsp
    have hblk : b < W.heap.size := by
      obtain ⟨cs', h1, _⟩ := hel i (by omega)
      rw [cells3, add_at] at h1
      exact World.cells?_block h1 (by decide)
    rw [add_at] at a0
    exact ⟨b, off, rfl, hblk, a0⟩
set_option maxRecDepth 100000 in
theorem trod24 {H : Type} {enc : TypeId × Value → H} {W : World} {fuel : Nat} {cs : List Value} {x : DataW H × List MemPlace} (hcs : cs.length = 5)
    (hf : DataW.trod enc Try.prog W 0 (fun _ => true) true fuel 24 cs = some x) (hw : ∀ n ∈ x.1.weights Try.prog 24, n ≤ 140737488351232) : ∃ c : Ck, cs = c.cs ∧ COk c := by
  obtain ⟨xs, n', _, hxy, hcl, hxl, hfl⟩ := DataW.trod_struct Try.underlying24 hf
  match cs, hcs with
  | [v0, v1, v2, v3, v4], _ =>
    match xs, hxl with
    | [y0, y1, y2, y3, y4], _ =>
      have g0 := hfl 0 _ rfl
      have g1 := hfl 1 _ rfl
      have g2 := hfl 2 _ rfl
      have g3 := hfl 3 _ rfl
      have g4 := hfl 4 _ rfl
      simp [cells3, cells9] at g0 g1 g2 g3 g4
      obtain ⟨a0, q0, _, b0⟩ := DataW.trod_int Try.underlying3 g0
      obtain ⟨a1, q1, _, b1⟩ := DataW.trod_int Try.underlying3 g1
      obtain ⟨a2, q2, _, b2⟩ := DataW.trod_int Try.underlying3 g2
      obtain ⟨a3, q3, r3, _⟩ := DataW.trod_string Try.underlying9 g3
      obtain ⟨a4, q4, _, b4⟩ := DataW.trod_int Try.underlying3 g4
      have hz : a3.data.toList.length ≤ 140737488351232 := hw _ (by
        rw [hxy]
        simp only [DataW.weights, Try.underlying24]
        refine DataW.weights_mem_each (j := 3) rfl rfl _ ?_
        rw [r3]
        simp [DataW.weights])
      simp at q0 q1 q2 q3 q4
      subst q0 q1 q2 q3 q4
      rw [Array.length_toList] at hz
      exact ⟨⟨a0, a1, a2, a3, a4⟩, rfl, bounds_i b0, bounds_i b1, bounds_i b2, bounds_i b4, hz⟩
set_option maxRecDepth 100000 in
theorem open_ck {H : Type} {enc : TypeId × Value → H} {W : World} {base : Nat} {v : Value} {d : DataW H} {p : List MemPlace} (hv : Value.okWide Try.prog W .any base 24 v) (h : DataW.Trod enc Try.prog W 0 (fun _ => true) true 24 v d p) (hw : ∀ n ∈ d.weights Try.prog 24, n ≤ 140737488351232) : ∃ c : Ck, v = c.v ∧ COk c := by
  obtain ⟨cs, rfl, hcs⟩ := okWide_struct Try.underlying24 hv
  rw [cells24] at hcs
  obtain ⟨fuel, hf⟩ := h
  obtain ⟨l⟩ := cs
  obtain ⟨c, e, hc⟩ := trod24 (cs := l) (by simpa using hcs) (by simpa [Value.cells] using hf) hw
  subst e
  exact ⟨c, rfl, hc⟩
theorem mem_all {H : Type} {t : TypeId} {n : Nat} : ∀ {elems : List (DataW H)} {d : DataW H}, d ∈ elems → n ∈ d.weights Try.prog t → n ∈ DataW.weightsAll Try.prog t elems
  | [], d, h, _ => by cases h
  | e :: r, d, h, hn => by
    rcases List.mem_cons.1 h with rfl | h
    · simp only [DataW.weightsAll]; exact List.mem_append_left _ hn
    · simp only [DataW.weightsAll]; exact List.mem_append_right _ (mem_all h hn)
set_option maxRecDepth 100000 in
theorem open_cks {H : Type} {enc : TypeId × Value → H} {W : World} {fuel : Nat} {ao : Option Addr} {len cap : Nat} {x : DataW H × List MemPlace}
    (h : DataW.trod enc Try.prog W 0 (fun _ => true) true fuel 26 [.slice ao len cap] = some x) (hw : ∀ n ∈ x.1.weights Try.prog 26, n ≤ 140737488351232) : ∃ l, KLie W (.slice ao len cap) l ∧ ∀ c ∈ l, COk c := by
  rcases open_slice Try.underlying26 h with ⟨h0, hx⟩ | ⟨a, len', cap', m, n, D, Pl, hcs, hb, hl, hm, hmm, hx, hel⟩
  · simp at h0
    obtain ⟨rfl, rfl, rfl⟩ := h0
    exact ⟨[], ⟨none, 0, rfl, Nat.le_refl _, by decide, fun i hi => by simp at hi⟩, by simp⟩
  · simp at hcs
    obtain ⟨rfl, rfl, rfl⟩ := hcs
    have hlm : len ≤ m := by rw [hmm]; split <;> omega
    have each : ∀ i, i < len → ∃ y : Ck, (∀ q, q < 5 → W.cell? (a.add (i * 5 + q)) = y.cs[q]?) ∧ COk y := by
      intro i hi
      obtain ⟨cs', h1, h2⟩ := hel i (by omega)
      rw [cells24] at h1
      obtain ⟨_, hlen, hcell⟩ := World.cells?_some h1
      obtain ⟨y, rfl, hy1⟩ := trod24 hlen h2 (fun n hn => hw n (by
        rw [hx]
        simp only [DataW.weights, Try.underlying26]
        exact List.mem_cons_of_mem _ (List.mem_append_left _ (mem_all (List.mem_map.2 ⟨i, List.mem_range.2 hi, rfl⟩) hn))))
      refine ⟨y, fun q hq => ?_, hy1⟩
      have := hcell q hq
      rw [Deep.add_add] at this
      exact this
    obtain ⟨it, hit⟩ := choose_lt each
    refine ⟨(List.range len).map it, ⟨some a, cap, by simp, by simpa using hl, hm, fun i hi => ?_⟩, fun c hc => by
      obtain ⟨i, hi, rfl⟩ := List.mem_map.1 hc
      exact (hit i (List.mem_range.1 hi)).2⟩
    rw [range_get]
    have hi' : i < len := by simpa using hi
    obtain ⟨hat, e1⟩ := hit i hi'
    obtain ⟨b, off, sp⟩ := a
    have a00 : W.cell? (Addr.add ⟨b, off, sp⟩ (0 * 5 + 0)) = some (.int .i64 (it 0).dg) := (hit 0 (by omega)).1 0 (by decide)
    have hsp : sp = none := by simpa [Addr.add] using World.cell?_spot a00
    subst hsp
    have hblk : b < W.heap.size := by
      obtain ⟨cs', h1, _⟩ := hel i (by omega)
      rw [cells24, add_at] at h1
      exact World.cells?_block h1 (by decide)
    refine ⟨b, off, rfl, hblk, fun q hq => ?_⟩
    have := hat q hq
    rw [add_at, ← Nat.add_assoc] at this
    exact this
theorem sized_at {H : Type} {ts : List TypeId} {ds : List (DataW H)} (h : (DataW.weightsEach Try.prog ts ds).all (· ≤ reachBytes) = true) {j : Nat} {t : TypeId} {d : DataW H} (ht : ts[j]? = some t) (hd : ds[j]? = some d) : ∀ n ∈ d.weights Try.prog t, n ≤ 140737488351232 := fun n hn => by
  have := List.all_eq_true.1 h n (DataW.weights_mem_each ht hd n hn)
  have hr : reachBytes = 140737488351232 := by decide
  rw [hr] at this
  simpa using this
end Go.Proofs.Ytogiiefaakejlaa
