import Derived.Test.YtabkfmmbjjchdaaTh
import Derived.Lib.SmallJoins
import Derived.Deep.Slices
import Derived.ChangeSlices
import Derived.SizedLaws
import Derived.JoinedCond
import Derived.ChangeOld
import Derived.Carry
namespace Go.Proofs.Ytabkfmmbjjchdaa
open Go.ChangeShapes Go.WideShapes Go.ChangeAt Go.RowKit Go.Joins Go.Deep

theorem laidOut : laidOutB Try.prog = true := by kernel_rfl
theorem cells3 : Try.prog.cellsOf 3 = 1 := by kernel_rfl
theorem cells29 : Try.prog.cellsOf 29 = 1 := by kernel_rfl
theorem cells9 : Try.prog.cellsOf 9 = 1 := by kernel_rfl
theorem cells30 : Try.prog.cellsOf 30 = 1 := by kernel_rfl
theorem cells32 : Try.prog.cellsOf 32 = 6 := by kernel_rfl
theorem cells34 : Try.prog.cellsOf 34 = 9 := by kernel_rfl
theorem bytes9 : Try.prog.bytesOf 9 = 16 := by kernel_rfl
theorem add_at (b off j : Nat) : (⟨b, off, none⟩ : Addr).add j = ⟨b, off + j, none⟩ := by unfold Addr.add; split <;> simp_all
theorem range_get {α : Type} (it : Nat → α) (n i : Nat) (h : i < ((List.range n).map it).length) : ((List.range n).map it)[i] = it i := by simp
theorem bounds_i {n : Int} (h : (Lit.int .i64 n).wf = true) : inI n := by
  have e1 : IntKind.i64.min = -9223372036854775808 := by decide
  have e2 : IntKind.i64.max = 9223372036854775807 := by decide
  simp only [Lit.wf, e1, e2, Bool.and_eq_true, decide_eq_true_eq] at h
  exact h
/-- a step -/
structure Stp where
  K : Int
  c : Int
  r : Int
  R : Rs
instance : Inhabited Stp := ⟨⟨0, 0, 0, rz⟩⟩
def Stp.cs (s : Stp) : List Value := [.int .i64 s.K, .int .i64 s.c, .int .i64 s.r] ++ s.R.cs
def SAt (w : World) (g o : Nat) (s : Stp) : Prop := ∀ q, q < 9 → w.cell? ⟨g, o + q, none⟩ = s.cs[q]?
/-- a slice reads as steps -/
def TLie (w : World) (v : Value) (l : List Stp) : Prop :=
  ∃ ao cap, v = .slice ao l.length cap ∧ l.length ≤ cap ∧ cap ≤ maxLen ∧ ∀ i (hi : i < l.length), ∃ gb off, ao = some ⟨gb, off, none⟩ ∧ gb < w.heap.size ∧ SAt w gb (off + i * 9) l[i] ∧ SLie w l[i].R.nv l[i].R.ns ∧ inI l[i].c
theorem TLie.below {w w' : World} {v : Value} {l : List Stp} (h : TLie w v l) (k : Below w.heap.size w w') : TLie w' v l := by
  obtain ⟨ao, cap, e, h1, h2, h3⟩ := h
  refine ⟨ao, cap, e, h1, h2, fun i hi => ?_⟩
  obtain ⟨gb, off, e1, hg, c0, c1, c2⟩ := h3 i hi
  exact ⟨gb, off, e1, Nat.lt_of_lt_of_le hg k.size, fun q hq => (k.cell (p := ⟨gb, off + i * 9 + q, none⟩) hg).trans (c0 q hq), c1.below k, c2⟩
set_option maxRecDepth 100000 in
theorem open_names {H : Type} {enc : TypeId × Value → H} {W : World} {fuel : Nat} {v : Value} {x : DataW H × List MemPlace}
    (h : DataW.trod enc Try.prog W 0 (fun _ => true) true fuel 30 [v] = some x) (hw : ∀ n ∈ x.1.weights Try.prog 30, n ≤ 140737488351232) : ∃ l, SLie W v l := by
  rcases open_slice Try.underlying30 h with ⟨h0, hx⟩ | ⟨a, len, cap, m, n, D, Pl, hcs, hb, hl, hm, hmm, hx, hel⟩
  · simp at h0
    subst h0
    exact ⟨[], SLie.nil W⟩
  · simp at hcs
    subst hcs
    have hlm : len ≤ m := by rw [hmm]; split <;> omega
    have hz : len * 16 ≤ 140737488351232 := by
      have := hw ((((List.range len).map D).length + ((List.range (m - len)).map fun j => D (len + j)).length) * 16) (by
        rw [hx]; simp only [DataW.weights, Try.underlying30, bytes9]; exact List.mem_cons_self)
      simp only [List.length_map, List.length_range] at this
      omega
    have each : ∀ i, i < len → ∃ s : ByteArray, W.cell? (a.add i) = some (.string s) := by
      intro i hi
      obtain ⟨cs', h1, h2⟩ := hel i (by omega)
      rw [cells9] at h1
      obtain ⟨_, hlen, hcell⟩ := World.cells?_some h1
      match cs', hlen with
      | [v0], _ =>
        have e0 := hcell 0 (by omega)
        rw [Deep.add_add] at e0
        obtain ⟨s, q, _, _⟩ := DataW.trod_string Try.underlying9 h2
        simp at q
        subst q
        exact ⟨s, by simpa using e0⟩
    obtain ⟨it, hit⟩ := choose_lt each
    refine ⟨(List.range len).map it, some a, cap, by simp, by simpa using hl, hm, by simp; omega, fun i hi => ?_⟩
    rw [range_get]
    have hi' : i < len := by simpa using hi
    have a0 := hit i hi'
    have a00 := hit 0 (by omega)
    obtain ⟨b, off, sp⟩ := a
    have hsp : sp = none := by simpa [Addr.add] using World.cell?_spot a00
    subst hsp
    have hblk : b < W.heap.size := by
      obtain ⟨cs', h1, _⟩ := hel i (by omega)
      rw [cells9, add_at] at h1
      exact World.cells?_block h1 (by decide)
    rw [add_at] at a0
    exact ⟨b, off, rfl, hblk, a0⟩
set_option maxRecDepth 100000 in
theorem trod32 {H : Type} {enc : TypeId × Value → H} {W : World} {fuel : Nat} {cs : List Value} {x : DataW H × List MemPlace} (hcs : cs.length = 6)
    (hf : DataW.trod enc Try.prog W 0 (fun _ => true) true fuel 32 cs = some x) (hw : ∀ n ∈ x.1.weights Try.prog 32, n ≤ 140737488351232) : ∃ s : Rs, cs = s.cs ∧ SLie W s.nv s.ns := by
  obtain ⟨xs, n', _, hxy, hcl, hxl, hfl⟩ := DataW.trod_struct Try.underlying32 hf
  match cs, hcs with
  | [v0, v1, v2, v3, v4, v5], _ =>
    match xs, hxl with
    | [y0, y1, y2, y3, y4, y5], _ =>
      have g0 := hfl 0 _ rfl
      have g1 := hfl 1 _ rfl
      have g2 := hfl 2 _ rfl
      have g3 := hfl 3 _ rfl
      have g4 := hfl 4 _ rfl
      have g5 := hfl 5 _ rfl
      simp [cells3, cells29, cells9, cells30] at g0 g1 g2 g3 g4 g5
      obtain ⟨a0, q0, _, b0⟩ := DataW.trod_int Try.underlying29 g0
      obtain ⟨a1, q1, _, _⟩ := DataW.trod_string Try.underlying9 g1
      obtain ⟨a2, q2, _, b2⟩ := DataW.trod_int Try.underlying3 g2
      obtain ⟨a3, q3, _, b3⟩ := DataW.trod_int Try.underlying3 g3
      obtain ⟨a4, q4, _, b4⟩ := DataW.trod_int Try.underlying3 g4
      obtain ⟨l, hl⟩ := open_names g5 (fun n hn => hw n (by
        rw [hxy]
        simp only [DataW.weights, Try.underlying32]
        exact DataW.weights_mem_each (j := 5) rfl rfl n hn))
      simp at q0 q1 q2 q3 q4
      subst q0 q1 q2 q3 q4
      exact ⟨⟨a0, a1, a2, a3, a4, v5, l⟩, rfl, hl⟩
set_option maxRecDepth 100000 in
theorem trod34 {H : Type} {enc : TypeId × Value → H} {W : World} {fuel : Nat} {cs : List Value} {x : DataW H × List MemPlace} (hcs : cs.length = 9)
    (hf : DataW.trod enc Try.prog W 0 (fun _ => true) true fuel 34 cs = some x) (hw : ∀ n ∈ x.1.weights Try.prog 34, n ≤ 140737488351232) : ∃ s : Stp, cs = s.cs ∧ SLie W s.R.nv s.R.ns ∧ inI s.c := by
  obtain ⟨xs, n', _, hxy, hcl, hxl, hfl⟩ := DataW.trod_struct Try.underlying34 hf
  match cs, hcs with
  | [v0, v1, v2, v3, v4, v5, v6, v7, v8], _ =>
    match xs, hxl with
    | [y0, y1, y2, y3], _ =>
      have g0 := hfl 0 _ rfl
      have g1 := hfl 1 _ rfl
      have g2 := hfl 2 _ rfl
      have g3 := hfl 3 _ rfl
      simp [cells3] at g0 g1 g2
      simp [cells32] at g3
      obtain ⟨a0, q0, _, b0⟩ := DataW.trod_int Try.underlying3 g0
      obtain ⟨a1, q1, _, b1⟩ := DataW.trod_int Try.underlying3 g1
      obtain ⟨a2, q2, _, b2⟩ := DataW.trod_int Try.underlying3 g2
      obtain ⟨R, qR, hR⟩ := trod32 (by simp) g3 (fun n hn => hw n (by
        rw [hxy]
        simp only [DataW.weights, Try.underlying34]
        exact DataW.weights_mem_each (j := 3) rfl rfl n hn))
      simp at q0 q1 q2
      subst q0 q1 q2
      refine ⟨⟨a0, a1, a2, R⟩, ?_, hR, bounds_i b1⟩
      rw [Stp.cs, ← qR]; rfl
theorem mem_all {H : Type} {t : TypeId} {n : Nat} : ∀ {elems : List (DataW H)} {d : DataW H}, d ∈ elems → n ∈ d.weights Try.prog t → n ∈ DataW.weightsAll Try.prog t elems
  | [], d, h, _ => by cases h
  | e :: r, d, h, hn => by
    rcases List.mem_cons.1 h with rfl | h
    · simp only [DataW.weightsAll]; exact List.mem_append_left _ hn
    · simp only [DataW.weightsAll]; exact List.mem_append_right _ (mem_all h hn)
set_option maxRecDepth 100000 in
theorem open_steps {H : Type} {enc : TypeId × Value → H} {W : World} {fuel : Nat} {ao : Option Addr} {len cap : Nat} {x : DataW H × List MemPlace}
    (h : DataW.trod enc Try.prog W 0 (fun _ => true) true fuel 22 [.slice ao len cap] = some x) (hw : ∀ n ∈ x.1.weights Try.prog 22, n ≤ 140737488351232) : ∃ l, TLie W (.slice ao len cap) l := by
  rcases open_slice Try.underlying22 h with ⟨h0, hx⟩ | ⟨a, len', cap', m, n, D, Pl, hcs, hb, hl, hm, hmm, hx, hel⟩
  · simp at h0
    obtain ⟨rfl, rfl, rfl⟩ := h0
    exact ⟨[], none, 0, rfl, Nat.le_refl _, by decide, fun i hi => by simp at hi⟩
  · simp at hcs
    obtain ⟨rfl, rfl, rfl⟩ := hcs
    have hlm : len ≤ m := by rw [hmm]; split <;> omega
    have each : ∀ i, i < len → ∃ y : Stp, (∀ q, q < 9 → W.cell? (a.add (i * 9 + q)) = y.cs[q]?) ∧ SLie W y.R.nv y.R.ns ∧ inI y.c := by
      intro i hi
      obtain ⟨cs', h1, h2⟩ := hel i (by omega)
      rw [cells34] at h1
      obtain ⟨_, hlen, hcell⟩ := World.cells?_some h1
      obtain ⟨y, rfl, hy1, hy2⟩ := trod34 hlen h2 (fun n hn => hw n (by
        rw [hx]
        simp only [DataW.weights, Try.underlying22]
        exact List.mem_cons_of_mem _ (List.mem_append_left _ (mem_all (List.mem_map.2 ⟨i, List.mem_range.2 hi, rfl⟩) hn))))
      refine ⟨y, fun q hq => ?_, hy1, hy2⟩
      have := hcell q hq
      rw [Deep.add_add] at this
      exact this
    obtain ⟨it, hit⟩ := choose_lt each
    refine ⟨(List.range len).map it, some a, cap, by simp, by simpa using hl, hm, fun i hi => ?_⟩
    rw [range_get]
    have hi' : i < len := by simpa using hi
    obtain ⟨hat, e1, e2⟩ := hit i hi'
    obtain ⟨b, off, sp⟩ := a
    have a00 : W.cell? (Addr.add ⟨b, off, sp⟩ (0 * 9 + 0)) = some (.int .i64 (it 0).K) := (hit 0 (by omega)).1 0 (by decide)
    have hsp : sp = none := by simpa [Addr.add] using World.cell?_spot a00
    subst hsp
    have hblk : b < W.heap.size := by
      obtain ⟨cs', h1, _⟩ := hel i (by omega)
      rw [cells34, add_at] at h1
      exact World.cells?_block h1 (by decide)
    refine ⟨b, off, rfl, hblk, fun q hq => ?_, e1, e2⟩
    have := hat q hq
    rw [add_at, ← Nat.add_assoc] at this
    exact this
theorem sized_steps {H : Type} {ts : List TypeId} {ds : List (DataW H)} (h : (DataW.weightsEach Try.prog ts ds).all (· ≤ reachBytes) = true) {j : Nat} {d : DataW H} (ht : ts[j]? = some 22) (hd : ds[j]? = some d) : ∀ n ∈ d.weights Try.prog 22, n ≤ 140737488351232 := fun n hn => by
  have := List.all_eq_true.1 h n (DataW.weights_mem_each ht hd n hn)
  have hr : reachBytes = 140737488351232 := by decide
  rw [hr] at this
  simpa using this
end Go.Proofs.Ytabkfmmbjjchdaa
