import Derived.Test.YtopebghandojbaaGreatNe
import Derived.Lib.SmallJoins
import Derived.Deep.Slices
import Derived.JoinedCond
namespace Go.Proofs.YtopebghandojbaaGreat
open Go.ChangeShapes Go.WideShapes Go.ChangeAt Go.RowKit Go.Joins Go.Deep

theorem cells72c : Tryz.prog.cellsOf 72 = 3 := by kernel_rfl
theorem cells73c : Tryz.prog.cellsOf 73 = 6 := by kernel_rfl
theorem cells70c : Tryz.prog.cellsOf 70 = 1 := by kernel_rfl
/-- when a device crashes, and what it keeps, opened -/
theorem open_crash {H : Type} {enc : TypeId × Value → H} {W : World} {m : Nat} {c0 c1 c2 : Value} {y : DataW H × List MemPlace}
    (h : DataW.trod enc Tryz.prog W 0 (fun _ => true) true m 72 [c0, c1, c2] = some y) : ∃ (a t : Int) (bs : List Bool), c0 = .int .i64 a ∧ c1 = .int .i64 t ∧ BLie W c2 bs := by
  obtain ⟨y0, y1, y2, n, _, _, h0, h1, h2⟩ := trod_struct3 Tryz.underlying72 h
  have h0 : DataW.trod enc Tryz.prog W 0 (fun _ => true) true n 3 [c0] = some y0 := by simpa [cells3] using h0
  have h1 : DataW.trod enc Tryz.prog W 0 (fun _ => true) true n 3 [c1] = some y1 := by simpa [cells3] using h1
  have h2 : DataW.trod enc Tryz.prog W 0 (fun _ => true) true n 70 [c2] = some y2 := by simpa [cells70c] using h2
  obtain ⟨a, e0, _, _⟩ := DataW.trod_int Tryz.underlying3 h0
  obtain ⟨t, e1, _, _⟩ := DataW.trod_int Tryz.underlying3 h1
  simp at e0 e1
  have hs : ∃ ao len cap, c2 = .slice ao len cap := by
    rcases Go.Deep.open_slice Tryz.underlying70 h2 with ⟨h0, _⟩ | ⟨a, len', cap', m, n, D, Pl, hcs, _⟩
    · simp at h0
      exact ⟨_, _, _, h0⟩
    · simp at hcs
      exact ⟨_, _, _, hcs⟩
  obtain ⟨ao, len, cap, rfl⟩ := hs
  obtain ⟨bs, hb⟩ := open_bools h2
  exact ⟨a, t, bs, e0, e1, hb⟩
theorem array6 {α : Type} {cs : Array α} (h : cs.size = 6) : ∃ c0 c1 c2 c3 c4 c5, cs = #[c0, c1, c2, c3, c4, c5] := by
  obtain ⟨l⟩ := cs
  match l, h with
  | [c0, c1, c2, c3, c4, c5], _ => exact ⟨c0, c1, c2, c3, c4, c5, rfl⟩
set_option maxRecDepth 100000 in
theorem open_crashes {H : Type} {enc : TypeId × Value → H} {W : World} {b0 : Nat} {v : Value} {d : DataW H} {p : List MemPlace} (hv : Value.okWide Tryz.prog W .any b0 73 v) (h : DataW.Trod enc Tryz.prog W 0 (fun _ => true) true 73 v d p) :
    ∃ (a0 t0 a1 t1 : Int) (pv0 pv1 : Value) (bs0 bs1 : List Bool), v = .agg #[.int .i64 a0, .int .i64 t0, pv0, .int .i64 a1, .int .i64 t1, pv1] ∧ BLie W pv0 bs0 ∧ BLie W pv1 bs1 := by
  have hv : ∃ cs, v = .agg cs ∧ cs.size = Tryz.prog.cellsOf 73 := by
    unfold Value.okWide at hv
    rw [Tryz.underlying73] at hv
    obtain ⟨cs, h1, h2, _⟩ := hv
    exact ⟨cs, h1, h2⟩
  obtain ⟨cs, rfl, hsz⟩ := hv
  rw [cells73c] at hsz
  obtain ⟨c0, c1, c2, c3, c4, c5, rfl⟩ := array6 hsz
  obtain ⟨fuel, hf⟩ := h
  have hf : DataW.trod enc Tryz.prog W 0 (fun _ => true) true fuel 73 [c0, c1, c2, c3, c4, c5] = some (d, p) := by simpa [Value.cells] using hf
  obtain ⟨xs, m, _, _, _, hlen, hel⟩ := DataW.trod_array Tryz.underlying73 hf
  have e0 := hel 0 (by decide)
  have e1 := hel 1 (by decide)
  rw [cells72c] at e0 e1
  simp at e0 e1
  rw [List.getElem?_eq_getElem (by omega)] at e0 e1
  obtain ⟨a0, t0, bs0, rfl, rfl, k0⟩ := open_crash e0
  obtain ⟨a1, t1, bs1, rfl, rfl, k1⟩ := open_crash e1
  exact ⟨a0, t0, a1, t1, c2, c5, bs0, bs1, rfl, k0, k1⟩
theorem crash_walk (x y z a0 t0 a1 t1 : Int) (lv pv0 pv1 : Value) (l : List (Value × List Chg)) (bs0 bs1 : List Bool) (W : World) (hl : VLie W lv l) (hb0 : BLie W pv0 bs0) (hb1 : BLie W pv1 bs1) :
    Calls Tryz.prog 5 #[.agg #[.int .i64 x, .int .i64 y, .int .i64 z], lv, .agg #[.int .i64 a0, .int .i64 t0, pv0, .int .i64 a1, .int .i64 t1, pv1]] W fun e w' => e = .returned (.bool true) ∧ Below W.heap.size W w' := by
  by_cases h : Sh.okS x y z
  · have hx := h.1.1
    have hy := h.1.2.1
    have hz := h.1.2.2
    obtain ⟨x, rfl⟩ : ∃ n : Nat, x = n := ⟨x.toNat, by omega⟩
    obtain ⟨y, rfl⟩ : ∃ n : Nat, y = n := ⟨y.toNat, by omega⟩
    obtain ⟨z, rfl⟩ : ∃ n : Nat, z = n := ⟨z.toNat, by omega⟩
    by_cases h40 : l.length ≤ 40
    · exact crash_go x y z a0 t0 a1 t1 lv pv0 pv1 l bs0 bs1 h h40 W hl hb0 hb1
    · exact crash_long x y z a0 t0 a1 t1 lv pv0 pv1 l h (by omega) W hl
  · exact crash_bad x y z a0 t0 a1 t1 lv pv0 pv1 l h W hl
end Go.Proofs.YtopebghandojbaaGreat
