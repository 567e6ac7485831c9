import Derived.Test.YtfjoajcfpldniaaRd
namespace Go.Proofs.Ytfjoajcfpldniaa
open Go.RowKit Go.Maps

def encC (c : Chg) : List Value := [.int .i64 c.b, .string c.d]
def ccg (l : List Chg) : List Value := l.flatMap encC
theorem ccg_append (a b : List Chg) : ccg (a ++ b) = ccg a ++ ccg b := by simp [ccg]
theorem ccg_one (x : Chg) : ccg [x] = encC x := by simp [ccg]
theorem ccg_cons (x : Chg) (l : List Chg) : ccg (x :: l) = encC x ++ ccg l := by simp [ccg]
theorem ccg_len : ∀ l : List Chg, (ccg l).length = l.length * 2
  | [] => rfl
  | x :: l => by
    rw [ccg_cons, List.length_append, ccg_len l]
    simp [encC]
    omega
theorem ccg_get : ∀ (l : List Chg) (i : Nat) (hi : i < l.length), (ccg l)[i * 2]? = some (.int .i64 l[i].b) ∧ (ccg l)[i * 2 + 1]? = some (.string l[i].d)
  | [], i, hi => by simp at hi
  | x :: l, 0, _ => ⟨rfl, rfl⟩
  | x :: l, i + 1, hi => by
    have ih := ccg_get l i (by simpa using hi)
    rw [ccg_cons]
    have e : ∀ t, (encC x ++ ccg l)[t + 2]? = (ccg l)[t]? := fun t => rfl
    rw [show (i + 1) * 2 = i * 2 + 2 by omega, show i * 2 + 2 + 1 = i * 2 + 1 + 2 by omega, e, e]
    exact ih
/-- a row of changes, the reference's own -/
def VRw (base : Nat) (w : World) (v : Value) (l : List Chg) : Prop := w.ownsRow base 52 2 v l.length (ccg l)
theorem VRw.nil (base : Nat) (w : World) : VRw base w (.slice none 0 0) [] := ⟨rfl, .inl ⟨rfl, rfl⟩⟩
section
variable {base : Nat} {w w' : World} {v : Value} {l : List Chg}
theorem VRw.own (h : VRw base w v l) : ∀ x, v.ownBlock = some x → base ≤ x ∧ ∃ cur, w.heap[x]? = some (.cells cur 52 (0, 0)) := by
  obtain ⟨e1, ⟨rfl, _⟩ | ⟨x, cap, cur, rfl, e4, e5, e6⟩⟩ := h
  · intro x hx; cases hx
  · intro y hy; cases hy; exact ⟨e4, _, e5⟩
theorem VRw.below (h : VRw base w v l) (k : Below w.heap.size w w') : VRw base w' v l := by
  obtain ⟨e1, e2 | ⟨x, cap, cur, rfl, e4, e5, e6⟩⟩ := h
  · exact ⟨e1, .inl e2⟩
  · exact ⟨e1, .inr ⟨x, cap, cur, rfl, e4, (k.block x (lt_of_block e5)).trans e5, e6⟩⟩
theorem VRw.len (h : VRw base w v l) : ∃ ao cap, v = .slice ao l.length cap ∧ l.length ≤ cap ∧ cap ≤ maxLen := by
  rcases h.2 with ⟨rfl, hz⟩ | ⟨gb, cap, cur, rfl, _, _, r1, r2, _⟩
  · exact ⟨none, 0, by rw [hz], by omega, by decide⟩
  · exact ⟨_, cap, rfl, r1, r2⟩
theorem VRw.lie (h : VRw base w v l) : CLie w v l := by
  rcases h.2 with ⟨rfl, hz⟩ | ⟨gb, cap, cur, rfl, _, e5, r1, r2, r3, r4⟩
  · exact ⟨none, 0, by rw [hz], by omega, by decide, fun i hi => by omega⟩
  · refine ⟨_, cap, rfl, r1, r2, fun i hi => ?_⟩
    have ce : ∀ t, t < l.length * 2 → cur[t]? = (ccg l)[t]? := fun t ht => by
      rw [← Array.getElem?_toList, ← r4, List.getElem?_take_of_lt ht]
    obtain ⟨q0, q1⟩ := ccg_get l i hi
    exact ⟨gb, 0, cur, rfl, e5, by rw [Nat.zero_add]; exact (ce _ (by omega)).trans q0, by rw [Nat.zero_add]; exact (ce _ (by omega)).trans q1⟩
end
theorem pushW {ops : Array Oper} {rest : List Oper} {o : Oper} {a : Act} {Q : Exit → Act → World → Prop} {w0 : World} (hgd : o.guard = none) (s x : Operand)
    (ho : o.op = .call { callee := .builtin .append, args := #[s, x], argTypes := #[38, 38] }) (B1 bb : Nat) (v : Value) (T : List Chg) (y : Chg)
    (hs : a.eval s = v) (hx : a.eval x = .slice (some ⟨bb, 0, none⟩) 1 1) (hbb : bb = w0.heap.size) (hA : VRw B1 w0 v T) (hn : T.length ≤ 2000) (hbase : B1 ≤ w0.heap.size)
    (h : ∀ v' w', VRw B1 w' v' (T ++ [y]) → Below B1 w0 w' → wpList Try.prog ops Q rest (a.put o.dst v') w') :
    wpList Try.prog ops Q (o :: rest) a (w0.alloc (.cells #[.int .i64 y.b, .string y.d] 52)) := by
  subst hbb
  obtain ⟨i0, hi, hz0, hz1, hz2⟩ := info_parts Try.infoD52
  have ho2 := hA.own
  refine wpList_append_own _ hgd s x 38 ho B1 52 i0 (.agg #[.int .i64 0, .string ⟨#[]⟩]) 2 24 Try.underlying38 hi hz0 hz1 hz2 rfl (by decide) v T.length (ccg T) hs (World.ownsRow.alloc hA _) ⟨w0.heap.size, 0, none⟩ 1 1 (encC y) hx rfl (by
      intro j u hu
      match j, hu with
      | 0, hu => simp [encC] at hu; subst hu; simp [Addr.add]
      | 1, hu => simp [encC] at hu; subst hu; simp [Addr.add]
      | j + 2, hu => simp [encC] at hu) (by intro u hu; simp [encC] at hu; rcases hu with rfl | rfl <;> rfl) (by unfold maxLen; omega) (by omega) (by simp; omega) ?_
  intro v' w' hown hg _
  have hk : ∀ k, k < w0.heap.size → some k ≠ v.ownBlock → w'.heap[k]? = w0.heap[k]? := fun k hk hne => (hg.block k (by simp; omega) hne).trans (Below.heap_alloc _ _ k hk)
  have hsz : w0.heap.size ≤ w'.heap.size := by have := hg.size; simp at this; omega
  refine h v' w' ?_ ?_
  · unfold VRw
    rw [ccg_append, ccg_one, List.length_append]
    exact hown
  · exact ⟨hg.os, hg.tape, hg.output, hsz, fun k hk' => hk k (by omega) (fun e => by have := (ho2 k e.symm).1; omega)⟩
/-- what the reference's walk over the blocks below n gives -/
def dW (P : List Fm) (j : Nat) : Option Chg := match findP P (j : Int) with
  | some f => if f.y then some ⟨(j : Int), f.d⟩ else none
  | none => none
def dU (P : List Fm) (n : Nat) : List Chg := (List.range n).filterMap (dW P)
theorem dU_none {P : List Fm} {n : Nat} (h : dW P n = none) : dU P (n + 1) = dU P n := by
  unfold dU
  rw [List.range_succ, List.filterMap_append, List.filterMap_cons_none h]
  simp
theorem dU_some {P : List Fm} {n : Nat} {c : Chg} (h : dW P n = some c) : dU P (n + 1) = dU P n ++ [c] := by
  unfold dU
  rw [List.range_succ, List.filterMap_append, List.filterMap_cons_some h]
  simp
theorem dU_len (P : List Fm) (n : Nat) : (dU P n).length ≤ n := by
  have := List.length_filterMap_le (dW P) (List.range n)
  rw [List.length_range] at this
  exact this
theorem chg_ext : ∀ (a b : List Chg), a.Pairwise (fun x y => x.b < y.b) → b.Pairwise (fun x y => x.b < y.b) → (∀ x, x ∈ a ↔ x ∈ b) → a = b
  | [], [], _, _, _ => rfl
  | [], y :: b, _, _, h => by have := (h y).2 (by simp); simp at this
  | x :: a, [], _, _, h => by have := (h x).1 (by simp); simp at this
  | x :: a, y :: b, ha, hb, h => by
    rw [List.pairwise_cons] at ha hb
    have e : x = y := by
      rcases List.mem_cons.1 ((h x).1 (by simp)) with e | hx
      · exact e
      · rcases List.mem_cons.1 ((h y).2 (by simp)) with e | hy
        · exact e.symm
        · have h1 := hb.1 x hx
          have h2 := ha.1 y hy
          omega
    subst e
    rw [chg_ext a b ha.2 hb.2 (fun z => ?_)]
    constructor
    · intro hz
      rcases List.mem_cons.1 ((h z).1 (List.mem_cons_of_mem _ hz)) with e | hz2
      · subst e
        have := ha.1 z hz
        omega
      · exact hz2
    · intro hz
      rcases List.mem_cons.1 ((h z).2 (List.mem_cons_of_mem _ hz)) with e | hz2
      · subst e
        have := hb.1 z hz
        omega
      · exact hz2
theorem dW_b {P : List Fm} {j : Nat} {c : Chg} (h : dW P j = some c) : c.b = (j : Int) := by
  unfold dW at h
  split at h
  · split at h
    · injection h with h; subst h; rfl
    · cases h
  · cases h
theorem dU_sorted (P : List Fm) : ∀ n, (dU P n).Pairwise (fun x y => x.b < y.b) ∧ ∀ x ∈ dU P n, x.b < (n : Int)
  | 0 => ⟨List.Pairwise.nil, fun x hx => by cases hx⟩
  | n + 1 => by
    obtain ⟨i1, i2⟩ := dU_sorted P n
    rcases h : dW P n with _ | c
    · rw [dU_none h]
      exact ⟨i1, fun x hx => by have := i2 x hx; omega⟩
    · rw [dU_some h]
      have hc := dW_b h
      refine ⟨List.pairwise_append.2 ⟨i1, List.pairwise_singleton _ _, fun x hx y hy => ?_⟩, fun x hx => ?_⟩
      · rw [List.mem_singleton.1 hy, hc]
        exact i2 x hx
      · rcases List.mem_append.1 hx with hx | hx
        · have := i2 x hx; omega
        · rw [List.mem_singleton.1 hx, hc]
          omega
theorem dirty_sorted {P : List Fm} (hn : (P.map (·.b)).Nodup) : ((dirtyP P).map chP).Pairwise (fun x y => x.b < y.b) := by
  have h1 : (P.mergeSort (fun x y => decide (x.b ≤ y.b))).Pairwise (fun x y => x.b ≤ y.b) := by
    have := List.pairwise_mergeSort (le := fun (x y : Fm) => decide (x.b ≤ y.b)) (fun a b c h1 h2 => by simp at *; omega) (fun a b => by simp; omega) P
    exact this.imp (fun h => by simpa using h)
  have h2 : (dirtyP P).Pairwise (fun x y => x.b ≤ y.b) := by unfold dirtyP; exact h1.sublist List.filter_sublist
  have h3 := dirtyP_nd hn
  rw [List.pairwise_map]
  have h4 := List.pairwise_map.1 h3
  refine (h2.and h4).imp (fun h => ?_)
  show (chP _).b < (chP _).b
  unfold chP
  have := h.1
  have := h.2
  simp only
  omega
theorem dU_dirty {P : List Fm} (hn : (P.map (·.b)).Nodup) (hr : ∀ f ∈ P, 0 ≤ f.b ∧ f.b < 1024) : dU P 1024 = (dirtyP P).map chP := by
  refine chg_ext _ _ (dU_sorted P 1024).1 (dirty_sorted hn) (fun x => ?_)
  unfold dU
  rw [List.mem_filterMap, List.mem_map]
  constructor
  · rintro ⟨j, hj, e⟩
    unfold dW at e
    split at e
    · rename_i f hf
      split at e
      · rename_i hy
        injection e with e
        subst e
        obtain ⟨hm, hb⟩ := find_mem hf
        exact ⟨f, dirtyP_mem.2 ⟨hm, hy⟩, by unfold chP; rw [hb]⟩
      · cases e
    · cases e
  · rintro ⟨f, hf, rfl⟩
    obtain ⟨hm, hy⟩ := dirtyP_mem.1 hf
    have hb := hr f hm
    refine ⟨f.b.toNat, by rw [List.mem_range]; omega, ?_⟩
    have e : ((f.b.toNat : Nat) : Int) = f.b := by omega
    unfold dW
    rw [e, find_in hn hm]
    simp only
    rw [if_pos hy]
    rfl
section
variable {B g : Nat} {N : Nat} {P : List Fm} {lv : Value}
set_option maxRecDepth 100000 in
theorem rdirty (w : World) (h : RC B g w N P lv) (hn : (P.map (·.b)).Nodup) (hr : ∀ f ∈ P, 0 ≤ f.b ∧ f.b < 1024) : Calls Try.prog 17 #[.pointer (some ⟨g, 0, none⟩)] w fun e w' => ∃ v, e = .returned v ∧ VRw w.heap.size w' v ((dirtyP P).map chP) ∧ Below w.heap.size w w' := by
  have HH := hid h
  have HD := hid (dU_dirty hn hr)
  rw [← HD.out]
  clear h hn hr HD
  go_enter Try.func17, Try.ntmps17
  go_wp2
  go_loopw [3, 4] (fun ov iv wr => ∃ q : Nat, iv = .int .i64 q ∧ q ≤ 1024 ∧ VRw w.heap.size wr ov (dU P q) ∧ Below w.heap.size w wr) (fun _ iv _ => 1024 - (intOf iv).toNat)
  case atStart => exact ⟨0, rfl, by omega, VRw.nil _ _, Below.refl _ _⟩
  case round =>
    obtain ⟨q, rfl, hq, hF, hB⟩ := hrel
    have HF := hid hF
    have HB := hid hB
    clear hF hB
    obtain ⟨ot, oc, rfl, ho1, ho2⟩ := HF.out.len
    unfold maxLen at ho2
    by_cases hlt : q < 1024
    · have HFi := hid (rfind (q : Int) wr (HH.out.below HB.out))
      have htl := dU_len P q
      rcases idx_cases P (q : Int) with ⟨e1, e2⟩ | ⟨i, hi, e1, e2, e3⟩
      · rw [e1] at HFi
        have HW := hid (dU_none (P := P) (n := q) (by unfold dW; rw [e2]))
        obtain ⟨T, hT⟩ : ∃ T, T = dU P q := ⟨_, rfl⟩
        rw [← hT] at HF HW htl ho1 ⊢
        clear hT e1 e2
        go_wp2_with (first
          | (go_at_call 35; refine (HFi.out).mono ?_; rintro e w2 ⟨rfl, hb2⟩))
        go_roundw
        case rel => exact ⟨q + 1, by go_num, by omega, by rw [HW.out]; exact HF.out.below hb2, HB.out.next hb2⟩
        case measure => simp [intOf]; omega
      · rw [e1] at HFi
        have HWn := hid (fun (hy : P[i].y = false) => dU_none (P := P) (n := q) (by unfold dW; rw [e3]; simp only; rw [hy]; rfl))
        have HWs := hid (fun (hy : P[i].y = true) => dU_some (P := P) (n := q) (c := ⟨(q : Int), P[i].d⟩) (by unfold dW; rw [e3]; simp only; rw [if_pos hy]))
        obtain ⟨T, hT⟩ : ∃ T, T = dU P q := ⟨_, rfl⟩
        rw [← hT] at HF HWn HWs htl ho1 ⊢
        have HFe : Hid (∃ f, f = P[i]) := hid ⟨_, rfl⟩
        obtain ⟨f, hf⟩ := HFe.out
        clear HFe
        have HFe := hid hf
        rw [← hf] at HWn HWs
        clear hT e1 e2 e3 hf
        go_wp2_with (go_at_call 35; fail)
        refine (HFi.out).mono ?_
        rintro e w2 ⟨rfl, hb2⟩
        have HB2 := hid (HB.out.next hb2)
        have HF2 := hid (HF.out.below hb2)
        have HR := hid (HH.out.below HB2.out)
        obtain ⟨c0, c1⟩ := HR.out.cells
        obtain ⟨ao, cap, rfl, hlc, hcm⟩ := HR.out.r.len
        unfold maxLen at hcm
        obtain ⟨gb, rfl, hgl2, _, m0, m1, m2, m3, _⟩ := HR.out.r.cell i hi
        have hgl := HR.out.lt
        rw [← HFe.out] at m0 m1 m2 m3
        have hbs := HB2.out.size
        clear hb2 HFi HF HB HFe
        obtain ⟨fb, fp, fy, fd⟩ := f
        simp only at m0 m1 m2 m3 HWn HWs
        cases fy
        · have HW := hid (HWn.out rfl)
          clear HWn HWs
          go_wp2
          go_roundw
          case rel => exact ⟨q + 1, by go_num, by omega, by rw [HW.out]; exact HF2.out, HB2.out⟩
          case measure => simp [intOf]; omega
        · have HW := hid (HWs.out rfl)
          clear HWn HWs
          go_wp2_with (first
            | (at_builtin; refine pushW (w0 := w2) rfl (.tmp 25) (.tmp 36) rfl w.heap.size w2.heap.size _ T ⟨(q : Int), fd⟩ rfl rfl rfl HF2.out (by omega) hbs ?_
               intro v6 w6 hI6 hb6))
          go_roundw
          case rel => exact ⟨q + 1, by go_num, by omega, by rw [HW.out]; exact hI6, HB2.out.trans hb6⟩
          case measure => simp [intOf]; omega
    · have hqe : q = 1024 := by omega
      subst hqe
      go_wp2
      go_ret
      exact ⟨_, rfl, HF.out, HB.out⟩
end
end Go.Proofs.Ytfjoajcfpldniaa
