import Derived.Test.YtecfibabeimjoaaBr
namespace Go.Proofs.Ytecfibabeimjoaa
open Go.RowKit Go.Maps Go.Sort Go.Shelf

theorem mc_cons (x : Msg) (l : List Msg) : mc (x :: l) = encM x ++ mc l := by simp [mc]
/-- a message's cells, one by one -/
theorem mc_get : ∀ (l : List Msg) (t : Nat), t < l.length * 3 → (mc l)[t]? = (encM l[t / 3]!)[t % 3]?
  | [], t, h => by simp at h
  | x :: l, t, h => by
    rw [mc_cons]
    by_cases h3 : t < 3
    · rw [List.getElem?_append_left (by simp [encM]; omega)]
      have e1 : t / 3 = 0 := by omega
      have e2 : t % 3 = t := by omega
      rw [e1, e2]
      rfl
    · rw [List.getElem?_append_right (by simp [encM]; omega)]
      have hl : (encM x).length = 3 := rfl
      rw [hl, mc_get l (t - 3) (by simp at h; omega)]
      have e1 : t / 3 = (t - 3) / 3 + 1 := by omega
      have e2 : t % 3 = (t - 3) % 3 := by omega
      rw [e1, e2]
      rfl
theorem flat_mc (l : List Msg) : (flatK encM 3 l.toArray).toList = mc l := by
  apply List.ext_getElem?
  intro t
  by_cases h : t < l.length * 3
  · rw [mc_get l t h]
    have hz : t < (flatK encM 3 l.toArray).size := by simpa using h
    have e := get_flatK encM 3 l.toArray t (by simpa using h)
    rw [getElem!_pos _ t hz] at e
    rw [Array.getElem?_toList, Array.getElem?_eq_getElem hz, e]
    have hm : t % 3 < 3 := Nat.mod_lt _ (by decide)
    have hl : (encM l.toArray[t / 3]!).length = 3 := rfl
    have he : l.toArray[t / 3]! = l[t / 3]! := by simp
    rw [he]
    rw [getElem!_pos (encM l[t / 3]!) (t % 3) hm, List.getElem?_eq_getElem (l := encM l[t / 3]!) hm]
  · rw [List.getElem?_eq_none (by rw [Array.length_toList, size_flatK]; simp; omega), List.getElem?_eq_none (by rw [mc_len]; omega)]
theorem holds_mc {w : World} {g : Nat} {cur : Array Value} {e : TypeId} {ss : List Msg} (hb : w.heap[g]? = some (.cells cur e (0, 0))) (ht : cur.toList.take (ss.length * 3) = mc ss) : HoldsK encM 3 w g 0 ss.toArray := by
  intro j hj
  rw [size_flatK] at hj
  have hj' : j < ss.length * 3 := by simpa using hj
  have e1 : cur.toList[j]? = (mc ss)[j]? := by rw [← ht, List.getElem?_take_of_lt hj']
  have hz : j < (flatK encM 3 ss.toArray).size := by simpa using hj'
  have e2 : (mc ss)[j]? = some (flatK encM 3 ss.toArray)[j]! := by
    rw [← flat_mc, Array.getElem?_toList, Array.getElem?_eq_getElem hz, getElem!_pos _ j hz]
  rw [e2, Array.getElem?_toList] at e1
  constructor
  · rw [Nat.zero_add]
    simp [World.cell?, hb, e1]
  · simp [World.frozen?, hb]
theorem heap_sortedK {w : World} {g n : Nat} {os : Array Obj} {cur : Array Value} {e : TypeId} (d : Array Msg) (hb : w.heap[g]? = some (.cells cur e (0, 0))) :
    (sortWorldK encM 3 w g 0 n d os).heap[g]? = some (.cells (putCells id 0 (flatK encM 3 d) cur) e (0, 0)) := by
  have hg : g < w.heap.size := (Array.getElem?_eq_some_iff.1 hb).1
  unfold sortWorldK putRowK
  rw [heap_grow_old _ _ (by simpa using hg)]
  simp [putRow, mapBlock, Sort.ahead, Array.getElem?_modify, hb, onCells]
theorem grownBy_sortedK {w : World} {g n : Nat} {os : Array Obj} (d : Array Msg) : w.grownBy (sortWorldK encM 3 w g 0 n d os) (some g) := by
  unfold sortWorldK putRowK
  refine ⟨rfl, rfl, rfl, by simp, fun k hk hne => ?_⟩
  rw [heap_grow_old _ _ (by simpa using hk)]
  have : g ≠ k := fun e => hne (by rw [e])
  simp [putRow, mapBlock, Sort.ahead, Array.getElem?_modify, this]
theorem take_mc (cur : Array Value) (ts : List Msg) (h : ts.length * 3 ≤ cur.size) : (putCells id 0 (flatK encM 3 ts.toArray) cur).toList.take (ts.length * 3) = mc ts := by
  apply List.ext_getElem?
  intro j
  by_cases hj : j < ts.length * 3
  · have hz : j < (flatK encM 3 ts.toArray).size := by simpa using hj
    rw [List.getElem?_take_of_lt hj, ← flat_mc, Array.getElem?_toList, Array.getElem?_toList, Array.getElem?_eq_getElem hz]
    simp [putCells, hj, show j < cur.size by omega]
  · rw [List.getElem?_take_eq_none (by omega), List.getElem?_eq_none (by rw [mc_len]; omega)]
theorem ownsRow_sortedK {w : World} {base g cap n : Nat} {os : Array Obj} {cur : Array Value} {ss ts : List Msg} (hl : ts.length = ss.length) (hbase : base ≤ g) (hb : w.heap[g]? = some (.cells cur 32 (0, 0)))
    (h1 : ss.length ≤ cap) (h2 : cap ≤ maxLen) (h3 : cur.size = cap * 3) :
    (sortWorldK encM 3 w g 0 n ts.toArray os).ownsRow base 32 3 (.slice (some ⟨g, 0, none⟩) ss.length cap) ss.length (mc ts) :=
  ⟨by rw [mc_len, hl], .inr ⟨g, cap, _, rfl, hbase, heap_sortedK _ hb, h1, h2, by simp [putCells, h3], by rw [← hl]; exact take_mc cur ts (by rw [h3, hl]; exact Nat.mul_le_mul_right 3 h1)⟩⟩
set_option maxRecDepth 100000 in
set_option maxHeartbeats 2000000 in
/-- **slices.AppendSeq(nil, seq)** -/
theorem appendSeq (F : Fence) (n : Nat) (h39 : F.fn 39) (hro : F.round = none) (hn : 2 ≤ n) (g : Nat) (lb : Array Value) (hFg : F.fn g) (eg : ∀ args w, (callFunc g args).run Try.prog w = .ok (.enter g args) w)
    (S : List Msg → Prop) (N : Nat) (hN : N ≤ 100000000) (w : World) (hseq : SeqGives F (n - 1) Try.prog g lb valM S N w) :
    CallsIn F n Try.prog 39 #[.slice none 0 0, .func (.func g) #[] lb] w fun e w' => ∃ (v : Value) (ss : List Msg), e = .returned v ∧ S ss ∧ w'.ownsRow w.heap.size 32 3 v ss.length (mc ss) ∧ (v = .slice none 0 0 ↔ ss = []) ∧ Below w.heap.size w w' := by
  have h1 : 1 ≤ n := by omega
  refine callsIn_of_wp_marks Try.func39 rfl h39 ?_ hro
  simp only [Try.ntmps39, List.size_toArray, List.length_cons, List.length_nil, Nat.reduceAdd, Nat.reduceSub, Array.replicate_succ, Array.replicate_zero, List.push_toArray, List.append_toArray, List.nil_append, List.cons_append]
  gi_wp2
  refine wpIn_rangeFunc ?_
  intro fn hfn
  rw [hro]
  obtain ⟨W0, hW0⟩ : ∃ W0, w.alloc (.cells #[.slice none 0 0] 46) = W0 := ⟨_, rfl⟩
  have hs0 : W0.heap.size = w.heap.size + 1 := by rw [← hW0]; simp
  have hv0 : W0.heap[w.heap.size]? = some (.cells #[.slice none 0 0] 46 (0, 0)) := by rw [← hW0]; exact World.alloc_heap_new w _
  have hb0 : Below w.heap.size w W0 := by rw [← hW0]; exact (Below.refl _ w).alloc (Nat.le_refl _) _
  rw [hW0]
  obtain ⟨W1, hW1⟩ : ∃ W1, (W0.alloc (.deferred (some []))).alloc (.loop (apRec fn (.func (.func g) #[] lb) w.heap.size W0.heap.size .ready)) = W1 := ⟨_, rfl⟩
  have hold : ∀ k, k < W0.heap.size → W1.heap[k]? = W0.heap[k]? := fun k hk => by
    rw [← hW1]; exact (Below.heap_alloc _ _ k (by simp; omega)).trans (Below.heap_alloc _ _ k hk)
  have hb1 : Below w.heap.size w W1 := by rw [← hW1]; exact (hb0.alloc hb0.size _).alloc (by have := hb0.size; simp; omega) _
  have hs1 : W1.heap.size = W0.heap.size + 2 := by rw [← hW1]; simp
  have hM : ApAt w fn (.func (.func g) #[] lb) w.heap.size (W0.heap.size + 1) W0.heap.size [] W1 :=
    ⟨⟨_, (hold w.heap.size (by omega)).trans hv0, ⟨rfl, .inl ⟨rfl, rfl⟩⟩, by simp⟩,
     by rw [← hW1]; have := World.alloc_heap_new (W0.alloc (.deferred (some []))) (.loop (apRec fn (.func (.func g) #[] lb) w.heap.size W0.heap.size .ready)); rwa [World.size_alloc] at this,
     by rw [← hW1]; exact (Below.heap_alloc _ _ _ (by simp)).trans (World.alloc_heap_new W0 _), hb1⟩
  refine ⟨W0.heap.size + 1, [{ target := .collected W0.heap.size, args := #[] }], W1, { target := .fn (.func g) lb, args := #[.func (.yield (W0.heap.size + 1)) #[] #[]] }, W1, g,
    #[.func (.yield (W0.heap.size + 1)) #[] #[]] ++ lb, W1, ?_, ?_, ?_, ?_, fun _ => h1, ?_⟩
  · rw [← hW1]; exact run_enterLoop_outer _ _ _ _ _
  · simp [resolve, go_sem]
  · intro f' hf'; simp [Target.leads] at hf'; subst hf'; exact hFg
  · simp [invoke, go_sem, eg]
  · refine (hseq (W0.heap.size + 1) (ApAt w fn (.func (.func g) #[] lb) w.heap.size (W0.heap.size + 1) W0.heap.size) W1 hb1 (ap_abides _ _ _ _ _ _ _ hb1.size)
      (fun pre x W hJ hl => apYield F (n - 1 - 1) w fn hfn _ w.heap.size (W0.heap.size + 1) W0.heap.size (by omega) (by omega) (by omega) (Nat.le_refl _) (by omega) N hN pre x W hJ hl) hM).mono ?_
    rintro e W2 ⟨⟨v0, rfl⟩, ss, hS, h2⟩
    obtain ⟨v, hv, hrow, hnil⟩ := h2.box
    have hend := run_endLoop (P := Try.prog) h2.L (by simp [apRec])
    obtain ⟨W3, hW3⟩ : ∃ W3, W2.putObj (W0.heap.size + 1) (.loop { apRec fn (.func (.func g) #[] lb) w.heap.size W0.heap.size .ready with state := .exhausted }) = W3 := ⟨_, rfl⟩
    rw [hW3] at hend
    have hg3 : W2.grownBy W3 (some (W0.heap.size + 1)) := by rw [← hW3]; exact grownBy_putObj_a _ _ _
    have hv3 : W3.heap[w.heap.size]? = some (.cells #[v] 46 (0, 0)) := by rw [← hW3]; exact (World.putObj_heap_other (by omega)).trans hv
    have hK3 : W3.heap[W0.heap.size]? = some (.deferred (some [])) := by rw [← hW3]; exact (World.putObj_heap_other (by omega)).trans h2.K
    have hrow3 := hrow.kept hg3 (ownsRow_ne_a hrow h2.L (fun cur e => by cases e))
    have hb3 : Below w.heap.size w W3 := h2.below.grown hg3 h2.below.size (fun k e => by cases e; omega)
    obtain ⟨hc3, hf3⟩ := cell_of_box_a hv3
    clear hW3
    refine ⟨none, W3, hend, ?_⟩
    gi_wp2
    rw [← hs0]
    refine ⟨by simp, .inl ⟨_, _, rfl, run_takeDeferred hK3, ?_⟩⟩
    exact ⟨_, results_tmp rfl _ _ _, v, ss, rfl, hS, hrow3.kept (grownBy_putObj_a _ _ _) (ownsRow_ne_a hrow3 hK3 (fun cur e => by cases e)), hnil, hb3.grown (grownBy_putObj_a _ _ _) hb3.size (fun k e => by cases e; omega)⟩
end Go.Proofs.Ytecfibabeimjoaa
