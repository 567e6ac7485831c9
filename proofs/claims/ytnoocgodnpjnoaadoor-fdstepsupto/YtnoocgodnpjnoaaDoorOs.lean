import Derived.Test.YtnoocgodnpjnoaaDoorOz
import Derived.Test.YtnoocgodnpjnoaaDoorRows
namespace Go.Proofs.YtnoocgodnpjnoaaDoor
open Go.ChangeShapes Go.WideShapes Go.ChangeAt Go.RowKit Go.Joins Go.Deep

/-- a step -/
structure Stp where
  k : Int
  f : Int
  m : Int
  n : Int
  p : ByteArray
instance : Inhabited Stp := ⟨⟨0, 0, 0, 0, ByteArray.empty⟩⟩
def Stp.cs (s : Stp) : List Value := [.int .i64 s.k, .int .i64 s.f, .int .i64 s.m, .int .i64 s.n, .string s.p]
/-- a step at a place of memory -/
def SAt (w : World) (g o : Nat) (s : Stp) : Prop := w.cell? ⟨g, o, none⟩ = some (.int .i64 s.k) ∧ w.cell? ⟨g, o + 1, none⟩ = some (.int .i64 s.f) ∧ w.cell? ⟨g, o + 2, none⟩ = some (.int .i64 s.m) ∧ w.cell? ⟨g, o + 3, none⟩ = some (.int .i64 s.n) ∧ w.cell? ⟨g, o + 4, none⟩ = some (.string s.p)
/-- a slice that reads as steps -/
def TLie (w : World) (v : Value) (l : List Stp) : Prop :=
  ∃ ao cap, v = .slice ao l.length cap ∧ l.length ≤ cap ∧ cap ≤ maxLen ∧ ∀ i (hi : i < l.length), ∃ gb off, ao = some ⟨gb, off, none⟩ ∧ gb < w.heap.size ∧ SAt w gb (off + i * 5) l[i] ∧ l[i].p.size ≤ 1048576
theorem add_at (b off j : Nat) : (⟨b, off, none⟩ : Addr).add j = ⟨b, off + j, none⟩ := by unfold Addr.add; split <;> simp_all
theorem cells3 : Tryd.prog.cellsOf 3 = 1 := by kernel_rfl
theorem cells30 : Tryd.prog.cellsOf 30 = 5 := by kernel_rfl
theorem bulk_mem {H : Type} : ∀ (l : List (DataW H)) (d : DataW H), d ∈ l → Rows.uptoBulk d ≤ Rows.uptoBulkAll l
  | [], d, h => by simp at h
  | x :: l, d, h => by
    rw [Rows.uptoBulkAll]
    rcases List.mem_cons.1 h with rfl | h
    · omega
    · have := bulk_mem l d h
      omega
set_option maxRecDepth 100000 in
/-- the cells of a step -/
theorem trod30 {H : Type} {enc : TypeId × Value → H} {W : World} {fuel : Nat} {cs : List Value} {x : DataW H × List MemPlace} (hcs : cs.length = 5)
    (hf : DataW.trod enc Tryd.prog W 0 (fun _ => true) true fuel 30 cs = some x) : ∃ s : Stp, cs = s.cs ∧ s.p.size ≤ Rows.uptoBulk x.1 := by
  obtain ⟨xs, n', _, hxy, hcl, hxl, hfl⟩ := DataW.trod_struct Tryd.underlying30 hf
  match cs, hcs with
  | [v0, v1, v2, v3, v4], _ =>
    match xs, hxl with
    | [y0, y1, y2, y3, y4], _ =>
      have g0 := hfl 0 _ rfl
      have g1 := hfl 1 _ rfl
      have g2 := hfl 2 _ rfl
      have g3 := hfl 3 _ rfl
      have g4 := hfl 4 _ rfl
      simp [cells3] at g0 g1 g2 g3
      simp [cells9] at g4
      obtain ⟨a0, q0, _, b0⟩ := DataW.trod_int Tryd.underlying3 g0
      obtain ⟨a1, q1, _, b1⟩ := DataW.trod_int Tryd.underlying3 g1
      obtain ⟨a2, q2, _, b2⟩ := DataW.trod_int Tryd.underlying3 g2
      obtain ⟨a3, q3, _, b3⟩ := DataW.trod_int Tryd.underlying3 g3
      obtain ⟨a4, q4, e4, b4⟩ := DataW.trod_string Tryd.underlying9 g4
      simp at q0 q1 q2 q3 q4
      subst q0 q1 q2 q3 q4
      refine ⟨⟨a0, a1, a2, a3, a4⟩, rfl, ?_⟩
      rw [hxy]
      simp only [Rows.uptoBulk, Rows.uptoBulkAll, List.map_cons, List.map_nil, e4]
      have := len_list a4
      omega
set_option maxRecDepth 100000 in
theorem open_steps {H : Type} {enc : TypeId × Value → H} {W : World} {fuel : Nat} {ao : Option Addr} {len cap : Nat} {x : DataW H × List MemPlace}
    (h : DataW.trod enc Tryd.prog W 0 (fun _ => true) true fuel 22 [.slice ao len cap] = some x) (hk : Rows.uptoBulk x.1 ≤ 1048576) : ∃ l, TLie W (.slice ao len cap) l := by
  rcases open_slice Tryd.underlying22 h with ⟨h0, hx⟩ | ⟨a, len', cap', m, n, D, Pl, hcs, hb, hl, hm, hmm, hx, hel⟩
  · simp at h0
    obtain ⟨rfl, rfl, rfl⟩ := h0
    exact ⟨[], none, 0, rfl, Nat.le_refl _, by decide, fun i hi => by simp at hi⟩
  · simp at hcs
    obtain ⟨rfl, rfl, rfl⟩ := hcs
    have hlm : len ≤ m := by rw [hmm]; split <;> omega
    have hall : Rows.uptoBulkAll ((List.range len).map D) ≤ 1048576 := by
      rw [hx] at hk
      simp only [Rows.uptoBulk] at hk
      omega
    have each : ∀ i, i < len → ∃ y : Stp, (∀ q, q < 5 → W.cell? (a.add (i * 5 + q)) = y.cs[q]?) ∧ y.p.size ≤ 1048576 := by
      intro i hi
      obtain ⟨cs', h1, h2⟩ := hel i (by omega)
      rw [cells30] at h1
      obtain ⟨_, hlen, hcell⟩ := World.cells?_some h1
      obtain ⟨y, rfl, hy3⟩ := trod30 hlen h2
      refine ⟨y, fun q hq => ?_, Nat.le_trans hy3 (Nat.le_trans (bulk_mem _ (D i) (List.mem_map.2 ⟨i, List.mem_range.2 hi, rfl⟩)) hall)⟩
      have := hcell q hq
      rw [Deep.add_add] at this
      exact this
    obtain ⟨it, hit⟩ := choose_lt each
    refine ⟨(List.range len).map it, some a, cap, by simp, by simpa using hl, hm, fun i hi => ?_⟩
    rw [range_get]
    have hi' : i < len := by simpa using hi
    obtain ⟨hat, e3⟩ := hit i hi'
    obtain ⟨b, off, sp⟩ := a
    have a00 : W.cell? (Addr.add ⟨b, off, sp⟩ (0 * 5 + 0)) = some (.int .i64 (it 0).k) := (hit 0 (by omega)).1 0 (by decide)
    have hsp : sp = none := by simpa [Addr.add] using World.cell?_spot a00
    subst hsp
    have hblk : b < W.heap.size := by
      obtain ⟨cs', h1, _⟩ := hel i (by omega)
      rw [cells30, add_at] at h1
      exact World.cells?_block h1 (by decide)
    have at_ : ∀ q, q < 5 → W.cell? ⟨b, off + i * 5 + q, none⟩ = (it i).cs[q]? := fun q hq => by
      have := hat q hq
      rw [add_at, ← Nat.add_assoc] at this
      exact this
    exact ⟨b, off, rfl, hblk, ⟨at_ 0 (by decide), at_ 1 (by decide), at_ 2 (by decide), at_ 3 (by decide), at_ 4 (by decide)⟩, e3⟩
theorem TLie.below {w w' : World} {v : Value} {l : List Stp} (h : TLie w v l) (k : Below w.heap.size w w') : TLie w' v l := by
  obtain ⟨ao, cap, e, h1, h2, h3⟩ := h
  refine ⟨ao, cap, e, h1, h2, fun i hi => ?_⟩
  obtain ⟨gb, off, e1, hg, ⟨c0, c1, c2, c3, c4⟩, hp⟩ := h3 i hi
  have hc : ∀ o, w'.cell? ⟨gb, o, none⟩ = w.cell? ⟨gb, o, none⟩ := fun o => by simp [World.cell?, k.block gb hg]
  exact ⟨gb, off, e1, Nat.lt_of_lt_of_le hg k.size, ⟨(hc _).trans c0, (hc _).trans c1, (hc _).trans c2, (hc _).trans c3, (hc _).trans c4⟩, hp⟩
end Go.Proofs.YtnoocgodnpjnoaaDoor
