import Derived.Test.YtfjoajcfpldniaaCm
namespace Go.Proofs.Ytfjoajcfpldniaa
open Go.RowKit Go.Maps

/-- a change: a block, and what is to stand there -/
structure Chg where
  b : Int
  d : ByteArray
/-- a slice reads as changes -/
def CLie (w : World) (v : Value) (l : List Chg) : Prop :=
  ∃ ao cap, v = .slice ao l.length cap ∧ l.length ≤ cap ∧ cap ≤ maxLen ∧ ∀ i (hi : i < l.length), ∃ gb off cur, ao = some ⟨gb, off, none⟩ ∧ w.heap[gb]? = some (.cells cur 52 (0, 0)) ∧ cur[off + i * 2]? = some (.int .i64 l[i].b) ∧ cur[off + i * 2 + 1]? = some (.string l[i].d)
theorem CLie.below {w w' : World} {v : Value} {l : List Chg} (h : CLie w v l) (k : Below w.heap.size w w') : CLie w' v l := by
  obtain ⟨ao, cap, e, h1, h2, h3⟩ := h
  refine ⟨ao, cap, e, h1, h2, fun i hi => ?_⟩
  obtain ⟨gb, off, cur, e, hg, c⟩ := h3 i hi
  exact ⟨gb, off, cur, e, (k.block gb (lt_of_block hg)).trans hg, c⟩
theorem CLie.cell {w : World} {ao : Option Addr} {n cap : Nat} {l : List Chg} (h : CLie w (.slice ao n cap) l) (i : Nat) (hi : i < l.length) : ∃ gb off, ao = some ⟨gb, off, none⟩ ∧ gb < w.heap.size ∧ w.cell? ⟨gb, off + i * 2, none⟩ = some (.int .i64 l[i].b) ∧ w.cell? ⟨gb, off + i * 2 + 1, none⟩ = some (.string l[i].d) := by
  obtain ⟨ao', cap', e, h1, h2, h3⟩ := h
  injection e with e1 e2 e3
  subst e1
  obtain ⟨gb, off, cur, e, hg, c, c2⟩ := h3 i hi
  exact ⟨gb, off, e, lt_of_block hg, (cell_of hg _).trans c, (cell_of hg _).trans c2⟩
def chg (f : Fr) : Chg := ⟨f.b, f.d⟩
theorem Try.infoD52 : (Try.prog.info? 52).map (fun i => (i.zero, i.size, i.bytes)) = some (some (.agg #[.int .i64 0, .string ⟨#[]⟩]), 2, 24) := by kernel_rfl
/-- changes laid so far -/
def Fil (g n q : Nat) (w : World) (L : List Chg) : Prop :=
  ∃ cur, w.heap[g]? = some (.cells cur 52 (0, 0)) ∧ cur.size = n * 2 ∧ ∀ i (hi : i < L.length), i < q → cur[i * 2]? = some (.int .i64 L[i].b) ∧ cur[i * 2 + 1]? = some (.string L[i].d)
theorem mkD (n : Nat) (hn : n ≤ 100) : ∃ cs, (∀ w : World, (Instr.makeSlice 38 (.int .i64 (n : Int)) (.int .i64 (n : Int))).run Try.prog w = .ok (.slice (some ⟨w.heap.size, 0, none⟩) n n) (w.alloc (.cells cs 52))) ∧ ∀ (w : World) L, Fil w.heap.size n 0 (w.alloc (.cells cs 52)) L := by
  obtain ⟨i0, hi, hz0, hz1, hz2⟩ := info_parts Try.infoD52
  refine ⟨madeCells (Value.agg #[.int .i64 0, .string ⟨#[]⟩]).cells (n * 2), fun w => ?_, fun w L => ⟨_, box_at _ _, by simp [size_madeCells], fun i hi h => by omega⟩⟩
  have := run_makeSlice (P := Try.prog) w 38 52 i0 (.agg #[.int .i64 0, .string ⟨#[]⟩]) Try.underlying38 hi hz0 .i64 .i64 (n : Int) (n : Int) (by omega) (by omega) (by rw [hz1]; omega) (by rw [hz2]; omega) (by omega)
  have e1 : (n : Int).toNat = n := by omega
  rw [e1, hz1] at this
  exact this
theorem Fil.get {g n q : Nat} {w : World} {L : List Chg} (h : Fil g n q w L) (j : Nat) (hj : j < n * 2) : ∃ x, w.cell? ⟨g, j, none⟩ = some x := by
  obtain ⟨cur, h1, h2, _⟩ := h
  exact ⟨cur[j]'(by omega), by simp [World.cell?, h1, h2, hj]⟩
theorem Fil.free {g n q : Nat} {w : World} {L : List Chg} (h : Fil g n q w L) (j : Nat) : w.frozen? ⟨g, j, none⟩ = false := by
  obtain ⟨cur, h1, h2, _⟩ := h
  exact frees h1 j
theorem Fil.lt {g n q : Nat} {w : World} {L : List Chg} (h : Fil g n q w L) : g < w.heap.size := by
  obtain ⟨cur, h1, h2, _⟩ := h
  exact lt_of_block h1
theorem Fil.set {g n q : Nat} {w : World} {L : List Chg} (h : Fil g n q w L) (hL : L.length = n) (hq : q < n) : Fil g n (q + 1) ((w.setCell ⟨g, q * 2, none⟩ (.int .i64 (L[q]'(by omega)).b)).setCell ⟨g, q * 2 + 1, none⟩ (.string (L[q]'(by omega)).d)) L := by
  obtain ⟨cur, h1, h2, h3⟩ := h
  refine ⟨_, cells_set (cells_set h1 _) _, by simpa using h2, fun i hi hlt => ?_⟩
  rw [Array.set!_eq_setIfInBounds, Array.set!_eq_setIfInBounds]
  by_cases hiq : i = q
  · subst hiq
    refine ⟨?_, ?_⟩
    · rw [Array.getElem?_setIfInBounds_ne (by omega), Array.getElem?_setIfInBounds_self_of_lt (by omega)]
    · rw [Array.getElem?_setIfInBounds_self_of_lt (by simp; omega)]
  · obtain ⟨k0, k1⟩ := h3 i hi (by omega)
    refine ⟨?_, ?_⟩
    · rw [Array.getElem?_setIfInBounds_ne (by omega), Array.getElem?_setIfInBounds_ne (by omega)]; exact k0
    · rw [Array.getElem?_setIfInBounds_ne (by omega), Array.getElem?_setIfInBounds_ne (by omega)]; exact k1
theorem Fil.lie {g n : Nat} {w : World} {L : List Chg} (h : Fil g n n w L) (hL : L.length = n) (h2 : n ≤ maxLen) : CLie w (.slice (some ⟨g, 0, none⟩) n n) L := by
  obtain ⟨cur, k1, k2, k3⟩ := h
  refine ⟨_, _, by rw [hL], by omega, h2, fun i hi => ⟨g, 0, cur, rfl, k1, ?_⟩⟩
  rw [Nat.zero_add]
  exact k3 i hi (by omega)
set_option maxRecDepth 100000 in
theorem changes_nil (w : World) : Calls Try.prog 33 #[.slice none 0 0] w fun e w' => e = .returned (.slice (some ⟨w.heap.size, 0, none⟩) 0 0) ∧ Below w.heap.size w w' := by
  obtain ⟨cs, hmk, _⟩ := mkD 0 (by decide)
  have hmk1 := hmk w
  rw [show ((0 : Nat) : Int) = 0 from rfl] at hmk1
  clear hmk
  go_enter Try.func33, Try.ntmps33
  go_wp2
  refine wp_loop_rounds 1 ?_
  rw [rounds_succ]
  go_wp2
  go_ret
  exact ⟨rfl, below_alloc _ _⟩
set_option maxRecDepth 100000 in
set_option maxHeartbeats 2000000 in
theorem changes_go {gb cap : Nat} {T : List Fr} (hT : T.length ≤ 64) (w : World) (hR : PRow w gb cap T) (hF : ∀ f ∈ T, FIs w f) :
    Calls Try.prog 33 #[.slice (some ⟨gb, 0, none⟩) T.length cap] w fun e w' => ∃ v, e = .returned v ∧ CLie w' v (T.map chg) ∧ Below w.heap.size w w' := by
  obtain ⟨cs, hmk, hFil⟩ := mkD T.length (by omega)
  have hmk1 := hmk w
  have hle := hR.le
  have hmx := hR.mx
  unfold maxLen at hmx
  have HR := hid hR
  have HF := hid hF
  have HFi := hid (hFil w (T.map chg))
  have HB0 := hid (below_alloc w (.cells cs 52))
  clear hmk hFil hR hF
  go_enter Try.func33, Try.ntmps33
  go_wp2
  clear hmk1
  obtain ⟨ob, hob⟩ : ∃ ob, ob = w.heap.size := ⟨_, rfl⟩
  rw [← hob] at HFi ⊢
  have HOB := hid hob
  clear hob
  go_loopw [11] (fun i wr => ∃ q : Nat, i = .int .i64 q ∧ q ≤ T.length ∧ Fil ob T.length q wr (T.map chg) ∧ Below w.heap.size w wr) (fun i _ => T.length - (intOf i).toNat)
  case atStart => exact ⟨0, rfl, Nat.zero_le _, HFi.out, HB0.out⟩
  case round =>
    obtain ⟨q, rfl, hq, hFq, hBq⟩ := hrel
    have HFq := hid hFq
    have HBq := hid hBq
    clear hFq hBq HFi HB0
    by_cases hlt : q < T.length
    · have HRq := hid (HR.out.same (HBq.out.block gb HR.out.lt))
      have cq := HRq.out.cell q hlt
      unfold ptr at cq
      have hgl := HRq.out.lt
      have HFr := hid ((HF.out T[q] (List.getElem_mem hlt)).same (HBq.out.block _ (HF.out T[q] (List.getElem_mem hlt)).lt))
      have HSt := hid (HFq.out.set (by simp) hlt)
      have e1 : ((T.map chg)[q]'(by simpa using hlt)) = chg T[q] := by simp
      rw [e1] at HSt
      obtain ⟨f, hf⟩ : ∃ f, f = T[q] := ⟨_, rfl⟩
      rw [← hf] at cq HFr HSt
      clear hf e1
      unfold chg at HSt
      simp only at HSt
      obtain ⟨_, _, _, q3, q4⟩ := HFr.out.cells
      have hfl := HFr.out.lt
      obtain ⟨x0, c0⟩ := HFq.out.get (q * 2) (by omega)
      obtain ⟨x1, c1⟩ := HFq.out.get (q * 2 + 1) (by omega)
      have z0 := HFq.out.free (q * 2)
      have z1 := HFq.out.free (q * 2 + 1)
      have hol := HFq.out.lt
      have HBs : Hid (Below w.heap.size w ((wr.setCell ⟨ob, q * 2, none⟩ (.int .i64 f.b)).setCell ⟨ob, q * 2 + 1, none⟩ (.string f.d))) := by
        have hB := HOB.out
        exact hid ((HBq.out.setCell (by show _ ≤ ob; omega) _).setCell (by show _ ≤ ob; omega) _)
      go_wp2
      go_region
      all_goals
        go_wp2
        go_roundw
        case rel => exact ⟨q + 1, by go_num, by omega, HSt.out, HBs.out.drew⟩
        case measure => simp [intOf]; omega
    · have hqe : q = T.length := by omega
      subst hqe
      go_wp2
      go_ret
      exact ⟨_, rfl, HFq.out.lie (by simp) (by unfold maxLen; omega), HBq.out⟩
end Go.Proofs.Ytfjoajcfpldniaa
