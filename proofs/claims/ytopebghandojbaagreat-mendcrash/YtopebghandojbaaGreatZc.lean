import Derived.Test.YtopebghandojbaaGreatZb
import Derived.Test.YtopebghandojbaaGreatLf
namespace Go.Proofs.YtopebghandojbaaGreat
open Go.RowKit Go.Maps

/-- a row of strings, q of n of them laid -/
def Fis (g n q : Nat) (w : World) (f : Nat → ByteArray) : Prop :=
  ∃ cur, w.heap[g]? = some (.cells cur 9 (0, 0)) ∧ cur.size = n ∧ ∀ i, i < q → cur[i]? = some (.string (f i))
theorem Fis.get {g n q : Nat} {w : World} {f : Nat → ByteArray} (h : Fis g n q w f) (j : Nat) (hj : j < n) : ∃ x, w.cell? ⟨g, j, none⟩ = some x := by
  obtain ⟨cur, h1, h2, _⟩ := h
  exact ⟨cur[j]'(by omega), by simp [World.cell?, h1]⟩
theorem Fis.free {g n q : Nat} {w : World} {f : Nat → ByteArray} (h : Fis g n q w f) (j : Nat) : w.frozen? ⟨g, j, none⟩ = false := by
  obtain ⟨cur, h1, h2, _⟩ := h
  simp [World.frozen?, h1]
theorem Fis.set {g n q : Nat} {w : World} {f : Nat → ByteArray} (h : Fis g n q w f) (hq : q < n) : Fis g n (q + 1) (w.setCell ⟨g, q, none⟩ (.string (f q))) f := by
  obtain ⟨cur, h1, h2, h3⟩ := h
  refine ⟨_, cells_set h1 _, by simp [h2], fun i hi => ?_⟩
  by_cases hiq : i = q
  · subst hiq
    simp [h2, hq]
  · show (cur.setIfInBounds q (.string (f q)))[i]? = _
    rw [Array.getElem?_setIfInBounds, if_neg (by omega)]
    exact h3 i (by omega)
theorem Fis.below {g n q : Nat} {w w' : World} {f : Nat → ByteArray} (h : Fis g n q w f) (k : Below w.heap.size w w') : Fis g n q w' f := by
  obtain ⟨cur, h1, h2⟩ := h
  exact ⟨cur, (k.block g (lt_of_block h1)).trans h1, h2⟩
theorem Fis.lie {g n : Nat} {w : World} {f : Nat → ByteArray} (h : Fis g n n w f) (hn : n ≤ 1000) : SLie w (.slice (some ⟨g, 0, none⟩) n n) ((List.range n).map f) := by
  obtain ⟨cur, h1, h2, h3⟩ := h
  refine ⟨_, n, by simp, by simp, by unfold maxLen; omega, fun i hi => ⟨g, 0, rfl, lt_of_block h1, ?_⟩⟩
  have hi' : i < n := by simpa using hi
  simp [World.cell?, h1, h3 i hi']
set_option maxRecDepth 100000 in
theorem mkSn (n : Nat) (hn : n ≤ 300) : ∃ cs, (∀ w : World, (Instr.makeSlice 55 (.int .i64 (n : Int)) (.int .i64 (n : Int))).run Tryz.prog w = .ok (.slice (some ⟨w.heap.size, 0, none⟩) n n) (w.alloc (.cells cs 9))) ∧ ∀ (w : World) f, Fis w.heap.size n 0 (w.alloc (.cells cs 9)) f := by
  obtain ⟨i0, hi, hz0, hz1, hz2⟩ := info_parts Tryz.infoR9
  refine ⟨madeCells (Value.string ⟨#[]⟩).cells n, fun w => ?_, fun w f => ⟨_, box_at _ _, by simp [size_madeCells], fun i hi => by omega⟩⟩
  have := run_makeSlice (P := Tryz.prog) w 55 9 i0 (.string ⟨#[]⟩) Tryz.underlying55 hi hz0 .i64 .i64 (n : Int) (n : Int) (by omega) (by omega) (by rw [hz1]; omega) (by rw [hz2]; omega) (by omega)
  have e1 : (n : Int).toNat = n := by omega
  rw [e1, hz1, Nat.mul_one] at this
  exact this
set_option maxRecDepth 100000 in
set_option maxHeartbeats 2000000 in
theorem seen_any {base g N : Nat} {S : Dv.DS} {fp : List Nat} (f c : Nat) (hc : c ≤ 300) (hn : f + c ≤ S.n) (w : World) (h : Dv.DIs base g w N S fp) :
    Calls Tryz.prog 53 #[.pointer (some ⟨g, 0, none⟩), .int .i64 (f : Int), .int .i64 (c : Int)] w fun e w' => e = .returned (.slice (some ⟨w.heap.size, 0, none⟩) c c) ∧ SLie w' (.slice (some ⟨w.heap.size, 0, none⟩) c c) ((List.range c).map fun i => (Dv.seen S.L S.Q (f + i)).getD Dv.Z) ∧ Below w.heap.size w w' := by
  have hn2 := h.n2
  have hf : f ≤ 1024 := by omega
  have HRD : Hid (∀ (q : Nat) (w' : World), q < c → Below w.heap.size w w' → Calls Tryz.prog 25 #[.pointer (some ⟨g, 0, none⟩), .int .i64 ((f : Int) + (q : Int))] w' fun e w'' => e = .returned (.tuple #[.string ((Dv.seen S.L S.Q (f + q)).getD Dv.Z), .int .i64 0]) ∧ Below w'.heap.size w' w'') := by
    refine hid (fun q w' hq hb => ?_)
    rw [show (f : Int) + (q : Int) = ((f + q : Nat) : Int) by omega]
    exact Dv.read_any (f + q) (by omega) w' (h.below hb)
  obtain ⟨F, hF⟩ : ∃ F : Nat → ByteArray, F = fun i => (Dv.seen S.L S.Q (f + i)).getD Dv.Z := ⟨_, rfl⟩
  have HRF : Hid (∀ (q : Nat) (w' : World), q < c → Below w.heap.size w w' → Calls Tryz.prog 25 #[.pointer (some ⟨g, 0, none⟩), .int .i64 ((f : Int) + (q : Int))] w' fun e w'' => e = .returned (.tuple #[.string (F q), .int .i64 0]) ∧ Below w'.heap.size w' w'') := by
    rw [hF]; exact HRD
  rw [← hF]
  clear hF HRD h
  obtain ⟨cs, hmk, hmF⟩ := mkSn c hc
  have HM := hid (hmF w F)
  have hmk := hmk w
  clear hmF
  have HBm : Hid (Below w.heap.size w (w.alloc (.cells cs 9))) := hid (below_alloc w _)
  go_enter Tryz.func53, Tryz.ntmps53
  go_wp2
  go_loopw [13] (fun i wr => ∃ q : Nat, i = .int .i64 q ∧ q ≤ c ∧ Fis w.heap.size c q wr F ∧ Below w.heap.size w wr) (fun i _ => c - (intOf i).toNat)
  case atStart => exact ⟨0, rfl, Nat.zero_le _, HM.out, HBm.out⟩
  case round =>
    obtain ⟨q, rfl, hq, hFi, hB⟩ := hrel
    have HFi := hid hFi
    have HB := hid hB
    clear hFi hB
    by_cases hqc : q < c
    · go_wp2_with (first
        | (go_at_call 25; refine (HRF.out q _ hqc HB.out).mono ?_; rintro e w1 ⟨rfl, hb1⟩
           have HF1 := hid (HFi.out.below hb1)
           have HB1 := hid (HB.out.next hb1)
           obtain ⟨x1, hx1⟩ := HF1.out.get q hqc
           have hf1 := HF1.out.free q))
      go_roundw
      case rel => exact ⟨q + 1, by go_num, by omega, HF1.out.set hqc, HB1.out.setCell (Nat.le_refl _) _⟩
      case measure => simp only [intOf] at *; omega
    · have hqe : q = c := by omega
      subst hqe
      go_wp2
      go_ret
      exact ⟨rfl, HFi.out.lie (by omega), HB.out⟩
end Go.Proofs.YtopebghandojbaaGreat
