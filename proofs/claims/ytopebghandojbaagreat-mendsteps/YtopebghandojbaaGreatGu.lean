import Derived.Test.YtopebghandojbaaGreatGs
namespace Go.Proofs.YtopebghandojbaaGreat
open Go.RowKit Go.Maps

set_option maxRecDepth 100000 in
set_option maxHeartbeats 1500000 in
theorem steps_long (x y z : Nat) (h : Sh.okS x y z) (v sv : Value) (L : List Chg) (h9 : r9 x y (-1) L = true) (S : List (Int × Value × List Chg)) (h200 : 200 < S.length) (W : World) (hL : CLie W v L) (hS : TLie W sv S) :
    Calls Tryz.prog 3 #[.agg #[.int .i64 x, .int .i64 y, .int .i64 z], v, sv] W fun e w' => e = .returned (.bool true) ∧ Below W.heap.size W w' := by
  have HF := hid (fun w' (k : Below W.heap.size W w') => format_yes x y z h v L h9 w' (hL.below k))
  have HR := hid (fun w' (k : Below W.heap.size W w') => rformat_ok x y z h v L h9 w' (hL.below k))
  have HS := hid speaks_any
  have HB := hid (below_alloc W (.cells #[.int .i64 (x : Int), .int .i64 (y : Int), .int .i64 (z : Int)] 23))
  obtain ⟨a0, a1, a2⟩ := three_cells (box_at W (.cells #[.int .i64 (x : Int), .int .i64 (y : Int), .int .i64 (z : Int)] 23))
  have hz : W.heap.size < (W.alloc (.cells #[.int .i64 (x : Int), .int .i64 (y : Int), .int .i64 (z : Int)] 23)).heap.size := by simp
  have HX := hid (box_at W (.cells #[.int .i64 (x : Int), .int .i64 (y : Int), .int .i64 (z : Int)] 23))
  obtain ⟨so, sc, rfl, hs1, hs2, _⟩ := hS
  unfold maxLen at hs2
  clear h hL h9
  go_enter Tryz.func3, Tryz.ntmps3
  go_wp2_with (first
    | (go_at_call 8; refine (HF.out _ HB.out).mono ?_; rintro e w1 ⟨g, fp, N, rfl, hd1, hb1⟩
       have HB1 := hid (HB.out.next hb1)
       obtain ⟨b0, b1, b2⟩ := three_cells ((hb1.block _ hz).trans HX.out))
    | (go_at_call 9; refine (HR.out _ HB1.out).mono ?_; rintro e w2 ⟨d, fpR, rfl, hd2, hb2⟩)
    | (go_at_call 10; refine (HS.out _).mono ?_; rintro e w3 ⟨rfl, hb3⟩))
  go_ret
  exact ⟨rfl, (HB1.out.next hb2).next hb3⟩
theorem steps_walk (x y z : Int) (v sv : Value) (L : List Chg) (S : List (Int × Value × List Chg)) (W : World) (hL : CLie W v L) (hS : TLie W sv S) :
    Calls Tryz.prog 3 #[.agg #[.int .i64 x, .int .i64 y, .int .i64 z], v, sv] W fun e w' => e = .returned (.bool true) ∧ Below W.heap.size W w' := by
  by_cases h : Sh.okS x y z
  · have hx := h.1.1
    have hy := h.1.2.1
    have hz := h.1.2.2
    obtain ⟨x, rfl⟩ : ∃ n : Nat, x = n := ⟨x.toNat, by omega⟩
    obtain ⟨y, rfl⟩ : ∃ n : Nat, y = n := ⟨y.toNat, by omega⟩
    obtain ⟨z, rfl⟩ : ∃ n : Nat, z = n := ⟨z.toNat, by omega⟩
    by_cases h9 : r9 x y (-1) L = true
    · by_cases h200 : S.length ≤ 200
      · exact steps_go x y z h v sv L h9 S h200 W hL hS
      · exact steps_long x y z h v sv L h9 S (by omega) W hL hS
    · rw [Bool.not_eq_true] at h9
      exact steps_bad x y z v sv 70 (by decide) (fun w' k => format_no x y z h v L h9 w' (hL.below k)) (fun w' k => rformat_bad x y z h v L h9 w' (hL.below k))
  · exact steps_bad x y z v sv 60 (by decide) (fun w' _ => format_bad x y z h v w') (fun w' _ => rformat_shape x y z h v w')
end Go.Proofs.YtopebghandojbaaGreat
namespace Go.Proofs.YtopebghandojbaaGreat
open Go.ChangeShapes Go.WideShapes Go.ChangeAt Go.RowKit Go.Joins Go.Deep
theorem cells42c : Tryz.prog.cellsOf 42 = 2 := by kernel_rfl
theorem open_stp {H : Type} {enc : TypeId × Value → H} {W : World} {fuel : Nat} {v0 v1 : Value} {x : DataW H × List MemPlace}
    (h : DataW.trod enc Tryz.prog W 0 (fun _ => true) true fuel 42 [v0, v1] = some x) : ∃ (a : Int) (L : List Chg), v0 = .int .i64 a ∧ CLie W v1 L := by
  obtain ⟨xs, n', _, hxy, hcl, hxl, hf⟩ := DataW.trod_struct Tryz.underlying42 h
  match xs, hxl with
  | [y0, y1], _ =>
    have g0 := hf 0 _ rfl
    have g1 := hf 1 _ rfl
    simp [cells3] at g0
    simp [cells24] at g1
    obtain ⟨a, q0, _, wa⟩ := DataW.trod_int Tryz.underlying3 g0
    simp at q0
    subst q0
    have hs : ∃ ao len cap, v1 = .slice ao len cap := by
      rcases open_slice Tryz.underlying24 g1 with ⟨h0, hx⟩ | ⟨a, len', cap', m, n, D, Pl, hcs, _⟩
      · simp at h0
        exact ⟨_, _, _, h0⟩
      · simp at hcs
        exact ⟨_, _, _, hcs⟩
    obtain ⟨ao, len, cap, rfl⟩ := hs
    obtain ⟨L, hL⟩ := open_changes g1
    exact ⟨a, L, rfl, hL⟩
theorem open_stps {H : Type} {enc : TypeId × Value → H} {W : World} {fuel : Nat} {ao : Option Addr} {len cap : Nat} {x : DataW H × List MemPlace}
    (h : DataW.trod enc Tryz.prog W 0 (fun _ => true) true fuel 25 [.slice ao len cap] = some x) : ∃ l, TLie W (.slice ao len cap) l := by
  rcases open_slice Tryz.underlying25 h with ⟨h0, hx⟩ | ⟨a, len', cap', m, n, D, Pl, hcs, hb, hl, hm, hmm, hx, hel⟩
  · simp at h0
    obtain ⟨rfl, rfl, rfl⟩ := h0
    exact ⟨[], none, 0, rfl, Nat.le_refl _, by decide, fun i hi => by simp at hi⟩
  · simp at hcs
    obtain ⟨rfl, rfl, rfl⟩ := hcs
    have hlm : len ≤ m := by rw [hmm]; split <;> omega
    have each : ∀ i, i < len → ∃ y : Int × Value × List Chg, W.cell? (a.add (i * 2)) = some (.int .i64 y.1) ∧ W.cell? (a.add (i * 2 + 1)) = some y.2.1 ∧ CLie W y.2.1 y.2.2 := by
      intro i hi
      obtain ⟨cs', h1, h2⟩ := hel i (by omega)
      rw [cells42c] at h1
      obtain ⟨_, hlen, hcell⟩ := World.cells?_some h1
      match cs', hlen with
      | [v0, v1], _ =>
        have e0 := hcell 0 (by omega)
        have e1 := hcell 1 (by omega)
        rw [Deep.add_add] at e0 e1
        obtain ⟨k, L, rfl, hL⟩ := open_stp h2
        exact ⟨(k, _, L), by simpa using e0, by simpa using e1, hL⟩
    have : Inhabited (Int × Value × List Chg) := ⟨(0, .slice none 0 0, [])⟩
    obtain ⟨it, hit⟩ := choose_lt each
    refine ⟨(List.range len).map it, some a, cap, by simp, by simpa using hl, hm, fun i hi => ?_⟩
    rw [range_get]
    have hi' : i < len := by simpa using hi
    obtain ⟨a0, a1, a2⟩ := hit i hi'
    have a00 := (hit 0 (by omega)).1
    obtain ⟨b, off, sp⟩ := a
    have hsp : sp = none := by simpa [Addr.add] using World.cell?_spot a00
    subst hsp
    have hadd : ∀ j, (⟨b, off, none⟩ : Addr).add j = ⟨b, off + j, none⟩ := fun j => by unfold Addr.add; split <;> simp_all
    have hblk : b < W.heap.size := by
      obtain ⟨cs', h1, _⟩ := hel i (by omega)
      rw [cells42c, hadd] at h1
      exact World.cells?_block h1 (by decide)
    rw [hadd] at a0 a1
    rw [← Nat.add_assoc] at a1
    exact ⟨b, off, rfl, hblk, a0, a1, a2⟩
end Go.Proofs.YtopebghandojbaaGreat
