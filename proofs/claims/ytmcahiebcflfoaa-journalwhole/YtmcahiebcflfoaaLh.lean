import Derived.Test.YtmcahiebcflfoaaLf
import Derived.Test.YtmcahiebcflfoaaLg
namespace Go.Proofs.Ytmcahiebcflfoaa
open Go.RowKit Go.Maps
/-- a slice reads as transactions -/
def VL (w : World) (v : Value) (Ls : List (List Chg)) : Prop :=
  ∃ ao cap, v = .slice ao Ls.length cap ∧ Ls.length ≤ cap ∧ cap ≤ maxLen ∧ ∀ i (hi : i < Ls.length), ∃ gb off u, ao = some ⟨gb, off, none⟩ ∧ gb < w.heap.size ∧ w.cell? ⟨gb, off + i, none⟩ = some u ∧ CLie w u Ls[i]
theorem VL.below {w w' : World} {v : Value} {Ls : List (List Chg)} (h : VL w v Ls) (k : Below w.heap.size w w') : VL w' v Ls := by
  obtain ⟨ao, cap, e, h1, h2, h3⟩ := h
  refine ⟨ao, cap, e, h1, h2, fun i hi => ?_⟩
  obtain ⟨gb, off, u, e, hg, c, hc⟩ := h3 i hi
  exact ⟨gb, off, u, e, Nat.lt_of_lt_of_le hg k.size, (k.cell (p := ⟨gb, _, none⟩) hg).trans c, hc.below k⟩
theorem TR.vl {w : World} {tb : Nat} {vs : List Value} {Ls : List (List Chg)} (h : TR w tb Ls.length vs Ls) (hl : Ls.length ≤ 300) : VL w (.slice (some ⟨tb, 0, none⟩) Ls.length Ls.length) Ls := by
  obtain ⟨cur, h1, h2, h3, h4, h5⟩ := h
  refine ⟨_, _, rfl, Nat.le_refl _, by unfold maxLen; omega, fun i hi => ⟨tb, 0, vs[i]'(by omega), rfl, lt_of_block h1, ?_, h5 i (by omega) hi⟩⟩
  rw [Nat.zero_add, cell_of h1]
  exact h4 i (by omega)
theorem VRow.vl {w : World} {v : Value} {vs : List Value} {Ls : List (List Chg)} (h : VRow w v vs) (hl : vs.length = Ls.length) (hc : ∀ i (hi : i < vs.length) (hj : i < Ls.length), CLie w vs[i] Ls[i]) : VL w v Ls := by
  obtain ⟨ao, cap, rfl, h1, h2⟩ := h.len
  refine ⟨ao, cap, by rw [hl], by omega, h2, fun i hi => ?_⟩
  obtain ⟨b, off, e, hb, c⟩ := h.cell i (by omega)
  exact ⟨b, off, _, e, hb, c, hc i (by omega) hi⟩
theorem sameC_refl (l : List Chg) : sameC l l = true := (sameC_iff l l).2 rfl
set_option maxRecDepth 100000 in
theorem told_same (v v' : Value) (Ls : List (List Chg)) (w : World) (h : VL w v Ls) (h' : VL w v' Ls) : Calls Try.prog 28 #[v, v'] w fun e w' => e = .returned (.bool true) ∧ Below w.heap.size w w' := by
  have HA := hid h
  have HA' := hid h'
  obtain ⟨ao, cap, rfl, hlc, hcm, hcell⟩ := h
  obtain ⟨ao', cap', rfl, hlc', hcm', hcell'⟩ := h'
  clear hcell hcell'
  unfold maxLen at hcm hcm'
  go_enter Try.func28, Try.ntmps28
  go_wp2
  go_loopw [13] (fun i wr => ∃ (q : Nat), i = .int .i64 q ∧ q ≤ Ls.length ∧ Below w.heap.size w wr) (fun i _ => Ls.length - (intOf i).toNat)
  case atStart => exact ⟨0, rfl, Nat.zero_le _, Below.refl _ _⟩
  case round =>
    obtain ⟨q, rfl, hq, hB⟩ := hrel
    have HB := hid hB
    clear hB
    by_cases hqk : q < Ls.length
    · obtain ⟨_, _, e, _, _, hc⟩ := HA.out.below HB.out
      injection e with e1 e2 e3
      subst e1
      obtain ⟨gb, off, u, rfl, hgl, c0, hu⟩ := hc q hqk
      obtain ⟨_, _, e', _, _, hc'⟩ := HA'.out.below HB.out
      injection e' with e1' e2' e3'
      subst e1'
      obtain ⟨gb', off', u', rfl, hgl', c0', hu'⟩ := hc' q hqk
      have HU := hid hu
      have HU' := hid hu'
      obtain ⟨ua, uc, rfl, _, _, _⟩ := hu
      obtain ⟨ua', uc', rfl, _, _, _⟩ := hu'
      obtain ⟨L, hL⟩ : ∃ L, L = Ls[q] := ⟨_, rfl⟩
      rw [← hL] at HU HU' c0 c0'
      have HS := hid (fun w h h' => changes_any (.slice ua L.length uc) (.slice ua' L.length uc') L L w h h')
      rw [sameC_refl] at HS
      clear hc hc' e2 e3 e2' e3' hL
      go_wp2
      go_region_held3 (fun w' => w'.cell? ⟨gb, off + q, none⟩ = some (.slice ua L.length uc) ∧ w'.cell? ⟨gb', off' + q, none⟩ = some (.slice ua' L.length uc')) (first | exact ⟨c0, c0'⟩ | exact d1 | go_keep) (first
        | (go_at_call 52; refine (HS.out _ (by exact HU.out.below ⟨rfl, rfl, rfl, Nat.le_refl _, fun _ _ => rfl⟩) (by exact HU'.out.below ⟨rfl, rfl, rfl, Nat.le_refl _, fun _ _ => rfl⟩)).mono ?_; rintro e wa ⟨rfl, hba⟩; have d1 : wa.cell? ⟨gb, off + q, none⟩ = some (.slice ua L.length uc) ∧ wa.cell? ⟨gb', off' + q, none⟩ = some (.slice ua' L.length uc') := ⟨(hba.cell (p := ⟨gb, off + q, none⟩) hgl).trans c0, (hba.cell (p := ⟨gb', off' + q, none⟩) hgl').trans c0'⟩; have HBa : Hid (Below w.heap.size w wa) := hid (HB.out.next ⟨hba.os, hba.tape, hba.output, hba.size, hba.block⟩); clear hba))
      all_goals
        go_wp2
        go_roundw
        case rel => exact ⟨q + 1, by go_num, by omega, HBa.out⟩
        case measure => simp [intOf]; omega
    · go_wp2
      go_ret
      exact ⟨rfl, HB.out⟩
/-- a region in memory -/
def RG (w : World) (rb : Nat) (X : List ByteArray) : Prop := ∃ cur, w.heap[rb]? = some (.cells cur 9 (0, 0)) ∧ cur.size = X.length ∧ ∀ i (hi : i < X.length), cur[i]? = some (.string X[i])
theorem RG.cell {w : World} {rb : Nat} {X : List ByteArray} (h : RG w rb X) (i : Nat) (hi : i < X.length) : w.cell? ⟨rb, i, none⟩ = some (.string X[i]) := by
  obtain ⟨cur, h1, h2, h3⟩ := h
  rw [cell_of h1]
  exact h3 i hi
theorem RG.free {w : World} {rb : Nat} {X : List ByteArray} (h : RG w rb X) (i : Nat) : w.frozen? ⟨rb, i, none⟩ = false := by
  obtain ⟨cur, h1, _⟩ := h
  exact frees h1 i
theorem RG.lt {w : World} {rb : Nat} {X : List ByteArray} (h : RG w rb X) : rb < w.heap.size := by
  obtain ⟨cur, h1, _⟩ := h
  exact lt_of_block h1
theorem RG.same {w w' : World} {rb : Nat} {X : List ByteArray} (h : RG w rb X) (k : w'.heap[rb]? = w.heap[rb]?) : RG w' rb X := by
  obtain ⟨cur, h1, h2⟩ := h
  exact ⟨cur, k.trans h1, h2⟩
theorem RG.set {w : World} {rb : Nat} {X : List ByteArray} (h : RG w rb X) {i : Nat} (hi : i < X.length) (x : ByteArray) : RG (w.setCell ⟨rb, i, none⟩ (.string x)) rb (X.set i x) := by
  obtain ⟨cur, h1, h2, h3⟩ := h
  refine ⟨_, cells_set h1 _, by simp [h2], fun j hj => ?_⟩
  rw [Array.set!_eq_setIfInBounds, List.getElem_set]
  rw [List.length_set] at hj
  by_cases hij : i = j
  · subst hij
    rw [if_pos rfl, Array.getElem?_setIfInBounds_self_of_lt (by omega)]
  · rw [if_neg hij, Array.getElem?_setIfInBounds_ne hij]
    exact h3 j hj
theorem RG.lie {w : World} {rb : Nat} {X : List ByteArray} (h : RG w rb X) (hl : X.length ≤ 1000) : SLie w (.slice (some ⟨rb, 0, none⟩) X.length X.length) X := by
  refine ⟨_, _, rfl, Nat.le_refl _, by unfold maxLen; omega, fun i hi => ⟨rb, 0, rfl, h.lt, ?_⟩⟩
  rw [Nat.zero_add]
  exact h.cell i hi
theorem mkR (n : Nat) (hn : n ≤ 300) : ∃ cs, (∀ w : World, (Instr.makeSlice 58 (.int .i64 (n : Int)) (.int .i64 (n : Int))).run Try.prog w = .ok (.slice (some ⟨w.heap.size, 0, none⟩) n n) (w.alloc (.cells cs 9))) ∧ ∀ w : World, RG (w.alloc (.cells cs 9)) w.heap.size (List.replicate n ⟨#[]⟩) := by
  obtain ⟨i0, hi, hz0, hz1, hz2⟩ := info_parts Try.infoR9
  refine ⟨madeCells (Value.string ⟨#[]⟩).cells n, fun w => ?_, fun w => ⟨_, box_at _ _, by simp [size_madeCells], fun i hi => ?_⟩⟩
  · have := run_makeSlice (P := Try.prog) w 58 9 i0 (.string ⟨#[]⟩) Try.underlying58 hi hz0 .i64 .i64 (n : Int) (n : Int) (by omega) (by omega) (by rw [hz1]; omega) (by rw [hz2]; omega) (by omega)
    have e1 : (n : Int).toNat = n := by omega
    rw [e1, hz1, Nat.mul_one] at this
    exact this
  · rw [List.length_replicate] at hi
    simp [madeCells, Value.cells, hi, Nat.mod_one]
end Go.Proofs.Ytmcahiebcflfoaa
