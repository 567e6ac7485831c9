import Derived.Test.YtfjoajcfpldniaaCj
import Derived.Lib.SliceRun
namespace Go.Proofs.Ytfjoajcfpldniaa
open Go.RowKit Go.Maps

/-- a slice reads as numbers -/
def ILie (w : World) (v : Value) (l : List Int) : Prop :=
  ∃ ao cap, v = .slice ao l.length cap ∧ l.length ≤ cap ∧ cap ≤ maxLen ∧ ∀ i (hi : i < l.length), ∃ gb off cur, ao = some ⟨gb, off, none⟩ ∧ w.heap[gb]? = some (.cells cur 3 (0, 0)) ∧ cur[off + i]? = some (.int .i64 l[i])
theorem ILie.below {w w' : World} {v : Value} {l : List Int} (h : ILie w v l) (k : Below w.heap.size w w') : ILie w' v l := by
  obtain ⟨ao, cap, e, h1, h2, h3⟩ := h
  refine ⟨ao, cap, e, h1, h2, fun i hi => ?_⟩
  obtain ⟨gb, off, cur, e, hg, c⟩ := h3 i hi
  exact ⟨gb, off, cur, e, (k.block gb (lt_of_block hg)).trans hg, c⟩
theorem ILie.cell {w : World} {ao : Option Addr} {n cap : Nat} {l : List Int} (h : ILie w (.slice ao n cap) l) (i : Nat) (hi : i < l.length) : ∃ gb off, ao = some ⟨gb, off, none⟩ ∧ gb < w.heap.size ∧ w.cell? ⟨gb, off + i, none⟩ = some (.int .i64 l[i]) := by
  obtain ⟨ao', cap', e, h1, h2, h3⟩ := h
  injection e with e1 e2 e3
  subst e1
  obtain ⟨gb, off, cur, e, hg, c⟩ := h3 i hi
  exact ⟨gb, off, e, lt_of_block hg, (cell_of hg _).trans c⟩
/-- a row of the call's own: numbers -/
def IRow (base : Nat) (w : World) (v : Value) (l : List Int) : Prop := w.ownsRow base 3 1 v l.length (l.map (Value.int .i64))
theorem Try.infoR3 : (Try.prog.info? 3).map (fun i => (i.zero, i.size, i.bytes)) = some (some (.int .i64 0), 1, 8) := by kernel_rfl
theorem IRow.below {base : Nat} {w w' : World} {v : Value} {l : List Int} (h : IRow base w v l) (k : Below w.heap.size w w') : IRow base w' v l := by
  obtain ⟨e1, e2 | ⟨x, cap, cur, e3, e4, e5, e6⟩⟩ := h
  · exact ⟨e1, .inl e2⟩
  · exact ⟨e1, .inr ⟨x, cap, cur, e3, e4, (k.block x (lt_of_block e5)).trans e5, e6⟩⟩
theorem IRow.own {base : Nat} {w : World} {v : Value} {l : List Int} (h : IRow base w v l) : ∀ x, v.ownBlock = some x → base ≤ x ∧ ∃ cur, w.heap[x]? = some (.cells cur 3 (0, 0)) := by
  obtain ⟨e1, ⟨rfl, _⟩ | ⟨x, cap, cur, rfl, e4, e5, e6⟩⟩ := h
  · intro x hx; cases hx
  · intro y hy; cases hy; exact ⟨e4, _, e5⟩
theorem IRow.len {base : Nat} {w : World} {v : Value} {l : List Int} (h : IRow base w v l) : ∃ ao cap, v = .slice ao l.length cap ∧ l.length ≤ cap ∧ cap ≤ maxLen := by
  rcases h.2 with ⟨rfl, hz⟩ | ⟨gb, cap, cur, rfl, _, _, r1, r2, _⟩
  · exact ⟨none, 0, by rw [hz], by omega, by decide⟩
  · exact ⟨_, cap, rfl, r1, r2⟩
theorem IRow.lie {base : Nat} {w : World} {v : Value} {l : List Int} (h : IRow base w v l) : ILie w v l := by
  rcases h.2 with ⟨rfl, hz⟩ | ⟨gb, cap, cur, rfl, hbase, hgb, r1, r2, r3, r4⟩
  · have : l = [] := List.eq_nil_of_length_eq_zero hz
    subst this
    exact ⟨none, 0, rfl, Nat.le_refl _, by decide, fun i hi => by simp at hi⟩
  · refine ⟨_, cap, rfl, r1, r2, fun i hi => ⟨gb, 0, cur, rfl, hgb, ?_⟩⟩
    have e1 : cur.toList[i]? = (l.map (Value.int .i64))[i]? := by rw [← r4, List.getElem?_take_of_lt (by omega)]
    rw [Array.getElem?_toList, List.getElem?_map, List.getElem?_eq_getElem hi] at e1
    rw [Nat.zero_add, e1]
    rfl
theorem IRow.empty (base : Nat) (w : World) (hb : base ≤ w.heap.size) : IRow base (w.alloc (.cells #[] 3)) (.slice (some ⟨w.heap.size, 0, none⟩) 0 0) [] :=
  ⟨rfl, .inr ⟨w.heap.size, 0, #[], rfl, hb, box_at _ _, Nat.le_refl _, by decide, rfl, rfl⟩⟩
theorem pushI {ops : Array Oper} {rest : List Oper} {o : Oper} {a : Act} {Q : Exit → Act → World → Prop} {w0 : World} (hgd : o.guard = none) (s x : Operand)
    (ho : o.op = .call { callee := .builtin .append, args := #[s, x], argTypes := #[35, 35] }) (B1 bb : Nat) (v : Value) (T : List Int) (y : Int)
    (hs : a.eval s = v) (hx : a.eval x = .slice (some ⟨bb, 0, none⟩) 1 1) (hbb : bb = w0.heap.size) (hA : IRow B1 w0 v T) (hn : T.length ≤ 2000) (hbase : B1 ≤ w0.heap.size)
    (h : ∀ v' w', IRow B1 w' v' (T ++ [y]) → Below B1 w0 w' → (∀ k, k < w0.heap.size → some k ≠ v.ownBlock → w'.heap[k]? = w0.heap[k]?) → wpList Try.prog ops Q rest (a.put o.dst v') w') :
    wpList Try.prog ops Q (o :: rest) a (w0.alloc (.cells #[.int .i64 y] 3)) := by
  subst hbb
  obtain ⟨i0, hi, hz0, hz1, hz2⟩ := info_parts Try.infoR3
  have ho2 := hA.own
  refine wpList_append_own _ hgd s x 35 ho B1 3 i0 (.int .i64 0) 1 8 Try.underlying35 hi hz0 hz1 hz2 rfl (by decide) v T.length (T.map (Value.int .i64)) hs (World.ownsRow.alloc hA _) ⟨w0.heap.size, 0, none⟩ 1 1 [.int .i64 y] hx rfl (by
      intro j u hu
      match j, hu with
      | 0, hu => simp at hu; subst hu; simp [Addr.add]
      | j + 1, hu => simp at hu) (by intro u hu; simp at hu; subst hu; rfl) (by unfold maxLen; omega) (by omega) (by simp; omega) ?_
  intro v' w' hown hg _
  refine h v' w' ?_ ?_ (fun k hk hne => (hg.block k (by simp; omega) hne).trans (Below.heap_alloc _ _ k hk))
  · unfold IRow
    rw [List.map_append, List.length_append]
    exact hown
  · refine (below_alloc w0 (.cells #[.int .i64 y] 3)).mono hbase |>.trans ⟨hg.os, hg.tape, hg.output, hg.size, fun k hk => hg.block k ?_ ?_⟩
    · simp; omega
    · intro e
      have := (ho2 k e.symm).1
      omega
theorem held_nil (w : World) : Calls Try.prog 13 #[.pointer none] w fun e w' => e = .returned (.slice (some ⟨w.heap.size, 0, none⟩) 0 0) ∧ Below w.heap.size w w' := by
  go_enter Try.func13, Try.ntmps13
  go_wp2_with (first | (go_at_call 31; refine (sorted_nil _ _).mono ?_; rintro e w1 ⟨rfl, hw⟩; have hw := hw.symm; subst hw))
  refine wp_loop_rounds 1 ?_
  rw [rounds_succ]
  go_wp2
  go_ret
  exact ⟨rfl, below_alloc _ _⟩
theorem take_map_b (L : List Fr) (q : Nat) (hq : q < L.length) : (L.take (q + 1)).map (·.b) = (L.take q).map (·.b) ++ [L[q].b] := by
  rw [List.take_succ_eq_append_getElem hq, List.map_append]; rfl
section
variable {B g m N J U : Nat} {L : List Fr}
set_option maxRecDepth 100000 in
set_option maxHeartbeats 2000000 in
theorem held_go (w : World) (h : CS B g m w N J L U) : Calls Try.prog 13 #[.pointer (some ⟨g, 0, none⟩)] w fun e w' => ∃ v, e = .returned v ∧ ILie w' v (L.map (·.b)) ∧ Below w.heap.size w w' := by
  have hN := h.n1
  have hlN := h.len
  have HB0 := hid (below_alloc w (.cells #[] 3))
  have HS := hid (sorted_go by_use (List.Perm.refl L) h.us _ (h.below HB0.out))
  have HI0 := hid (IRow.empty w.heap.size w (Nat.le_refl _))
  have HC := hid h
  clear h
  go_enter Try.func13, Try.ntmps13
  go_wp2_with (go_at_call 31; fail)
  refine (HS.out).mono ?_
  rintro e w1 ⟨v1, rfl, hv1, hb1⟩
  have HI1 := hid (HI0.out.below hb1)
  have HB1 := hid (HB0.out.next hb1)
  rcases hv1 with ⟨rfl, hL0⟩ | ⟨gb, cap, rfl, hgb, hR⟩
  · subst hL0
    go_wp2
    refine wp_loop_rounds 1 ?_
    rw [rounds_succ]
    go_wp2
    go_ret
    exact ⟨_, rfl, HI1.out.lie, HB1.out⟩
  · have hle := hR.le
    have hmx := hR.mx
    unfold maxLen at hmx
    have HR := hid hR
    clear hR hb1
    go_wp2
    go_loopw [3, 10] (fun lv i wr => ∃ q : Nat, i = .int .i64 q ∧ q ≤ L.length ∧ IRow w.heap.size wr lv ((L.take q).map (·.b)) ∧ PRow wr gb cap L ∧ Below w.heap.size w wr) (fun _ i _ => L.length - (intOf i).toNat)
    case atStart => exact ⟨0, rfl, Nat.zero_le _, HI1.out, HR.out, HB1.out⟩
    case round =>
      obtain ⟨q, rfl, hq, hI, hRq, hBq⟩ := hrel
      have HI := hid hI
      have HRq := hid hRq
      have HBq := hid hBq
      clear hI hRq hBq HI1 HR HB1
      obtain ⟨lo, lc, rfl, hlc1, hlc2⟩ := HI.out.len
      have hTl : ((L.take q).map (·.b)).length = q := by rw [List.length_map, List.length_take]; omega
      by_cases hlt : q < L.length
      · have cq := HRq.out.cell q hlt
        unfold ptr at cq
        have hgl := HRq.out.lt
        have HFq := hid ((HC.out.below HBq.out).fr L[q] (List.getElem_mem hlt))
        have HT := hid (take_map_b L q hlt)
        obtain ⟨f, hf⟩ : ∃ f, f = L[q] := ⟨_, rfl⟩
        rw [← hf] at cq HFq HT
        clear hf
        obtain ⟨T, hT⟩ : ∃ T, T = (L.take q).map (·.b) := ⟨_, rfl⟩
        rw [← hT] at HI HT hTl ⊢
        clear hT
        obtain ⟨_, _, _, q3, _⟩ := HFq.out.cells
        have hfl := HFq.out.lt
        have hgo : some gb ≠ (Value.slice lo T.length lc).ownBlock := by
          intro e
          obtain ⟨_, cur, hc⟩ := HI.out.own gb e.symm
          obtain ⟨cur2, hc2, _⟩ := HRq.out.ex
          rw [hc] at hc2
          cases hc2
        go_wp2_with (first
          | (at_builtin; refine pushI (w0 := wr) rfl (.tmp 14) (.tmp 19) rfl w.heap.size wr.heap.size _ T f.b rfl rfl rfl HI.out (by omega) (by have := HBq.out.size; omega) ?_
             intro v6 w6 hI6 hb6 hk6))
        go_roundw
        case rel => exact ⟨q + 1, by go_num, by omega, by rw [HT.out]; exact hI6, HRq.out.same (hk6 gb HRq.out.lt hgo), HBq.out.trans hb6⟩
        case measure => simp [intOf]; omega
      · have hqe : q = L.length := by omega
        subst hqe
        go_wp2
        go_ret
        refine ⟨.slice lo ((L.take L.length).map (·.b)).length lc, rfl, ?_, HBq.out⟩
        have := HI.out.lie
        rw [List.take_length] at this ⊢
        exact this
end
end Go.Proofs.Ytfjoajcfpldniaa
