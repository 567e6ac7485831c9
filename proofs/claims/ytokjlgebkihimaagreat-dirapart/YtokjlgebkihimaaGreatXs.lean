import Derived.Test.YtokjlgebkihimaaGreatGg
namespace Go.Proofs.YtokjlgebkihimaaGreat
open Go.RowKit Go.Maps Go.Shelf

/-- three numbers in memory -/
def B3 (q : Nat) (w : World) (x y z : Int) : Prop := w.heap[q]? = some (.cells #[.int .i64 x, .int .i64 y, .int .i64 z] 23 (0, 0))
theorem B3.below {q : Nat} {w w' : World} {x y z : Int} (h : B3 q w x y z) (k : Below w.heap.size w w') : B3 q w' x y z := (k.block q (lt_of_block h)).trans h
theorem B3.free {q : Nat} {w : World} {x y z : Int} (h : B3 q w x y z) (i : Nat) : w.frozen? ⟨q, i, none⟩ = false := by
  unfold B3 at h
  simp [World.frozen?, h]
theorem cells_put {q i : Nat} {w : World} {cs : Array Value} {T : TypeId} {v : Value} (h : w.heap[q]? = some (.cells cs T (0, 0))) : (w.setCell ⟨q, i, none⟩ v).heap[q]? = some (.cells (cs.setIfInBounds i v) T (0, 0)) := by
  have hlt := lt_of_block h
  have h' : w.heap[q] = .cells cs T (0, 0) := by simpa [Array.getElem?_eq_getElem hlt] using h
  show (w.heap.modify q _)[q]? = _
  rw [Array.getElem?_eq_getElem (by simpa using hlt), Array.getElem_modify_self, h']
  rfl
theorem B3.three {q : Nat} {w : World} {x y z a b c : Int} (h : B3 q w x y z) : B3 q (((w.setCell ⟨q, 0, none⟩ (.int .i64 a)).setCell ⟨q, 1, none⟩ (.int .i64 b)).setCell ⟨q, 2, none⟩ (.int .i64 c)) a b c := cells_put (cells_put (cells_put h))
theorem only_put {w0 w : World} {q i : Nat} {v : Value} {B : Nat} (hq : B ≤ q) (h : Below B w0 w) : Below B w0 (w.setCell ⟨q, i, none⟩ v) := h.setCell hq v
theorem SRow.put {base q i : Nat} {w : World} {v x : Value} {l : List ByteArray} (h : SRow base w v l) (hq : q < base) : SRow base (w.setCell ⟨q, i, none⟩ x) v l := by
  obtain ⟨e1, e2 | ⟨g, cap, cur, e3, e4, e5, e6⟩⟩ := h
  · exact ⟨e1, .inl e2⟩
  · refine ⟨e1, .inr ⟨g, cap, cur, e3, e4, ?_, e6⟩⟩
    show (w.heap.modify q _)[g]? = _
    rw [Array.getElem?_modify, if_neg (by omega)]
    exact e5
theorem SRow.wide {b c : Nat} {w : World} {v : Value} {l : List ByteArray} (h : SRow c w v l) (hb : b ≤ c) : SRow b w v l := by
  obtain ⟨e1, e2 | ⟨x, cp, cur, e3, e4, e5⟩⟩ := h
  · exact ⟨e1, .inl e2⟩
  · exact ⟨e1, .inr ⟨x, cp, cur, e3, Nat.le_trans hb e4, e5⟩⟩
theorem B3.cells {q : Nat} {w : World} {x y z : Int} (h : B3 q w x y z) : w.cell? ⟨q, 0, none⟩ = some (.int .i64 x) ∧ w.cell? ⟨q, 1, none⟩ = some (.int .i64 y) ∧ w.cell? ⟨q, 2, none⟩ = some (.int .i64 z) := by
  unfold B3 at h
  simp [World.cell?, h]
set_option maxRecDepth 100000 in
theorem B3.load {q : Nat} {w : World} {x y z : Int} (h : B3 q w x y z) : (loadVar 23 ⟨q, 0, none⟩).run Tryz.prog w = .ok (.agg #[.int .i64 x, .int .i64 y, .int .i64 z]) w := by
  obtain ⟨c0, c1, c2⟩ := h.cells
  have a24 := Tryz.isAgg23
  have z24 := Tryz.sizeOf23
  go_simp
set_option maxRecDepth 100000 in
theorem ret58 {a : Act} {w : World} {R : Nat} {x y z : Int} {v : Value} {post : Ending → World → Prop} (hb : B3 R w x y z) (h2 : a.tmps.getD 0 undef = .pointer (some ⟨R, 0, none⟩)) (h3 : a.tmps.getD 1 undef = v) (hd : a.defers = []) (hp : post (.returned (.tuple #[.agg #[.int .i64 x, .int .i64 y, .int .i64 z], v])) w) : bodyPost Tryz.prog Tryz.f58 post .ret a w := by
  refine bodyPost_ret (v := .tuple #[.agg #[.int .i64 x, .int .i64 y, .int .i64 z], v]) ?_ hd hp
  rw [results_cell_tmp (p := 0) (u := 1) (ty := 23) rfl, h2, h3]
  simp [asAddr, Result.andThen, hb.load]
set_option maxRecDepth 100000 in
set_option maxHeartbeats 1000000 in
theorem little_any (w : World) : Calls Tryz.prog 58 #[] w fun e w' => ∃ v, e = .returned (.tuple #[.agg #[.int .i64 40, .int .i64 20, .int .i64 8], v]) ∧ SRow w.heap.size w' v sF ∧ Below w.heap.size w w' := by
  have hmk := mk_n 128 (Nat.le_refl _)
  have HZ0 : Hid (Zs 128 = st (List.replicate 128 0)) := hid rfl
  go_enter Tryz.func58, Tryz.ntmps58
  go_wp2
  obtain ⟨w0, hw0⟩ : ∃ w0, w0 = w.alloc (.cells #[.int .i64 0, .int .i64 0, .int .i64 0] 23) := ⟨_, rfl⟩
  have hA0 : B3 w.heap.size w0 0 0 0 := by rw [hw0]; exact box_at _ _
  have hB0 : Below w.heap.size w w0 := by rw [hw0]; exact below_alloc w _
  have hs0 : w0.heap.size = w.heap.size + 1 := by rw [hw0]; simp
  rw [← hw0]
  obtain ⟨w1, hw1⟩ : ∃ w1, w1 = w0.alloc (.cells #[.int .i64 40, .int .i64 20, .int .i64 8] 23) := ⟨_, rfl⟩
  have hA1 : B3 (w.heap.size + 1) w1 40 20 8 := by rw [hw1, ← hs0]; exact box_at _ _
  have hB1 : Below w0.heap.size w0 w1 := by rw [hw1]; exact below_alloc w0 _
  rw [← hw1]
  have HA0 := hid (hA0.below hB1)
  have HA1 := hid hA1
  have HB1 := hid (hB0.next hB1)
  clear hw0 hA0 hB0 hs0 hw1 hA1 hB1
  go_loopw [3, 4] (fun lv iv wr => ∃ j : Nat, iv = .int .i64 (j : Int) ∧ j ≤ 40 ∧ SRow w1.heap.size wr lv (List.replicate j (Zs 128)) ∧ Below w1.heap.size w1 wr) (fun _ iv _ => 40 - (intOf iv).toNat)
  case atStart => exact ⟨0, rfl, Nat.zero_le _, SRow.nil _ _, Below.refl _ _⟩
  case round =>
    obtain ⟨j, rfl, hj, hR, hB⟩ := hrel
    have HR := hid hR
    have HB := hid hB
    obtain ⟨ao, cl, rfl⟩ := hR.len
    rw [List.length_replicate] at HR ⊢
    have hA0r := HA0.out.below hB
    obtain ⟨a0, a1, a2⟩ := (HA1.out.below hB).cells
    clear hR hB
    by_cases hjl : j < 40
    · have hmk1 := hmk wr
      obtain ⟨wm, hwm⟩ : ∃ wm, wm = wr.alloc (.cells (bc (List.replicate 128 0)).toArray 5) := ⟨_, rfl⟩
      have hcv : (convert 125 9 (.slice (some ⟨wr.heap.size, 0, none⟩) 128 128)).run Tryz.prog wm = .ok (.string (Zs 128)) wm := by rw [hwm]; exact (CIs.made wr (List.replicate 128 0)).conv 128 128 (by rw [List.length_replicate])
      have hBm : Below wr.heap.size wr wm := by rw [hwm]; exact below_alloc wr _
      rw [← hwm] at hmk1
      have HRm := hid (HR.out.below hBm)
      have HBm := hid (HB.out.next hBm)
      have HSm : Hid (w1.heap.size ≤ wm.heap.size) := hid HBm.out.size
      obtain ⟨zz, hzz⟩ : ∃ zz, zz = Zs 128 := ⟨_, rfl⟩
      rw [← hzz] at hcv HRm
      have HRP : Hid (List.replicate (j + 1) zz = List.replicate j zz ++ [zz]) := hid List.replicate_succ'
      have HZZ := hid hzz
      clear hwm hBm hzz hmk hA0r
      have hm0 : (Instr.makeSlice 125 (.int .i64 128) (.int .i64 128)).run Tryz.prog wr = .ok (.slice (some ⟨wr.heap.size, 0, none⟩) 128 128) wm := hmk1
      clear hmk1
      go_wp2_with (first
        | (refine pushS rfl (.tmp 12) (.tmp 15) rfl w1.heap.size wm.heap.size _ (List.replicate j zz) zz rfl rfl rfl HRm.out (by simp; omega) HSm.out ?_
           intro v' w7 hr7 hb7
           have HR7 := hid hr7
           have HB7 := hid (HBm.out.trans hb7)
           clear hr7 hb7))
      go_roundw
      case rel =>
        refine ⟨j + 1, by go_num, by omega, ?_, HB7.out⟩
        have k := HR7.out
        rw [← HRP.out, HZZ.out] at k
        exact k
      case measure => simp only [intOf] at *; omega
    · have hje : j = 40 := by omega
      subst hje
      have HA0r := hid hA0r
      have HAl := hid (lt_of_block hA0r)
      clear hA0r hmk
      obtain ⟨b0, b1, b2⟩ := HA0r.out.cells
      have f0 := HA0r.out.free 0
      have f1 := HA0r.out.free 1
      have f2 := HA0r.out.free 2
      go_wp2
      have hlow := lt_of_block HA0.out
      refine ret58 HA0r.out.three rfl rfl rfl ⟨_, rfl, ?_, ?_⟩
      · exact (((HR.out.put hlow).put hlow).put hlow).wide HB1.out.size
      · exact only_put (Nat.le_refl _) (only_put (Nat.le_refl _) (only_put (Nat.le_refl _) (HB1.out.next HB.out)))
end Go.Proofs.YtokjlgebkihimaaGreat
