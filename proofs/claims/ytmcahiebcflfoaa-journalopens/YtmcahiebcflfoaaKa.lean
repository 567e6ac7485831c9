import Derived.Test.YtmcahiebcflfoaaJr
import Derived.Deep.RegionHeld3
namespace Go.Proofs.Ytmcahiebcflfoaa
open Go.RowKit Go.Maps
/-- the reference's journal in memory -/
def RI (g : Nat) (w : World) (P T F S : Int) (Lv : Value) : Prop := w.heap[g]? = some (.cells #[.int .i64 P, .int .i64 T, .int .i64 F, .int .i64 S, Lv] 56 (0, 0))
theorem RI.cells {g : Nat} {w : World} {P T F S : Int} {sv : Value} (h : RI g w P T F S sv) : w.cell? ⟨g, 0, none⟩ = some (.int .i64 P) ∧ w.cell? ⟨g, 1, none⟩ = some (.int .i64 T) ∧ w.cell? ⟨g, 2, none⟩ = some (.int .i64 F) ∧ w.cell? ⟨g, 3, none⟩ = some (.int .i64 S) ∧ w.cell? ⟨g, 4, none⟩ = some sv := by
  unfold RI at h
  refine ⟨?_, ?_, ?_, ?_, ?_⟩ <;> simp [World.cell?, h]
theorem RI.lt {g : Nat} {w : World} {P T F S : Int} {sv : Value} (h : RI g w P T F S sv) : g < w.heap.size := lt_of_block h
theorem RI.below {g : Nat} {w w' : World} {P T F S : Int} {sv : Value} (h : RI g w P T F S sv) (k : Below w.heap.size w w') : RI g w' P T F S sv := (k.block g h.lt).trans h
theorem RI.set1 {g : Nat} {w : World} {P T F S : Int} {sv : Value} (h : RI g w P T F S sv) (T' : Int) : RI g (w.setCell ⟨g, 1, none⟩ (.int .i64 T')) P T' F S sv := by
  unfold RI at *
  simp [World.setCell, Array.getElem?_modify, h]
theorem RI.set2 {g : Nat} {w : World} {P T F S : Int} {sv : Value} (h : RI g w P T F S sv) (F' : Int) : RI g (w.setCell ⟨g, 2, none⟩ (.int .i64 F')) P T F' S sv := by
  unfold RI at *
  simp [World.setCell, Array.getElem?_modify, h]
theorem RI.set3 {g : Nat} {w : World} {P T F S : Int} {sv : Value} (h : RI g w P T F S sv) (S' : Int) : RI g (w.setCell ⟨g, 3, none⟩ (.int .i64 S')) P T F S' sv := by
  unfold RI at *
  simp [World.setCell, Array.getElem?_modify, h]
theorem RI.set4 {g : Nat} {w : World} {P T F S : Int} {sv : Value} (h : RI g w P T F S sv) (sv' : Value) : RI g (w.setCell ⟨g, 4, none⟩ sv') P T F S sv' := by
  unfold RI at *
  simp [World.setCell, Array.getElem?_modify, h]
/-- a row of slices, maybe cut at its front -/
def VRow (w : World) (v : Value) (l : List Value) : Prop :=
  (v = .slice none 0 0 ∧ l = []) ∨ ∃ b off cap cur, v = .slice (some ⟨b, off, none⟩) l.length cap ∧ w.heap[b]? = some (.cells cur 31 (0, 0)) ∧ l.length ≤ cap ∧ cap ≤ maxLen ∧ off + cap ≤ cur.size ∧ ∀ i (hi : i < l.length), cur[off + i]? = some l[i]
theorem VRow.nil (w : World) : VRow w (.slice none 0 0) [] := .inl ⟨rfl, rfl⟩
theorem VRow.same {w w' : World} {v : Value} {l : List Value} (h : VRow w v l) (k : ∀ x, v.ownBlock = some x → w'.heap[x]? = w.heap[x]?) : VRow w' v l := by
  obtain h | ⟨b, off, cap, cur, rfl, h1, h2⟩ := h
  · exact .inl h
  · exact .inr ⟨b, off, cap, cur, rfl, (k b rfl).trans h1, h2⟩
theorem VRow.own {w : World} {v : Value} {l : List Value} (h : VRow w v l) : ∀ x, v.ownBlock = some x → ∃ cur, w.heap[x]? = some (.cells cur 31 (0, 0)) := by
  obtain ⟨rfl, _⟩ | ⟨b, off, cap, cur, rfl, h1, h2⟩ := h
  · intro x hx; cases hx
  · intro x hx; cases hx; exact ⟨_, h1⟩
theorem VRow.len {w : World} {v : Value} {l : List Value} (h : VRow w v l) : ∃ ao cap, v = .slice ao l.length cap ∧ l.length ≤ cap ∧ cap ≤ maxLen := by
  obtain ⟨rfl, rfl⟩ | ⟨b, off, cap, cur, rfl, h1, h2, h3, _⟩ := h
  · exact ⟨none, 0, rfl, by simp, by decide⟩
  · exact ⟨_, cap, rfl, h2, h3⟩
theorem VRow.cell {w : World} {ao : Option Addr} {n cap : Nat} {l : List Value} (h : VRow w (.slice ao n cap) l) (i : Nat) (hi : i < l.length) : ∃ b off, ao = some ⟨b, off, none⟩ ∧ b < w.heap.size ∧ w.cell? ⟨b, off + i, none⟩ = some l[i] := by
  obtain ⟨_, rfl⟩ | ⟨b, off, cap, cur, e, h1, h2, h3, _, h4⟩ := h
  · simp at hi
  · injection e with e1
    exact ⟨b, off, e1, lt_of_block h1, by simp [World.cell?, h1, h4 i hi]⟩
theorem Try.infoV31 : (Try.prog.info? 31).map (fun i => (i.zero, i.size, i.bytes)) = some (some (.slice none 0 0), 1, 24) := by kernel_rfl
theorem run_size31 (w : World) : (sizeOf (Try.prog.elem 54)).run Try.prog w = .ok 1 w := by
  obtain ⟨i0, hi, hz0, hz1, hz2⟩ := info_parts Try.infoV31
  have e : Try.prog.elem 54 = 31 := by simp [Program.elem, Try.underlying54]
  rw [e]
  simp [sizeOf, typeInfo, hi, hz1]
theorem under54 : Try.prog.underlying 54 = some (.slice (Try.prog.elem 54)) := by
  have e : Try.prog.elem 54 = 31 := by simp [Program.elem, Try.underlying54]
  rw [e]
  exact Try.underlying54
theorem VRow.cut {w0 : World} {ao : Option Addr} {cap k : Nat} {l : List Value} (h0 : VRow w0 (.slice ao l.length cap) l) (hlc : l.length ≤ cap) (hcm : cap ≤ maxLen) (hk : k ≤ l.length) :
    ∃ ao' m m', (∀ w : World, (Instr.slice 54 (.slice ao l.length cap) (some (.int .i64 (k : Int))) none none).run Try.prog w = .ok (.slice ao' m m') w) ∧ (Value.slice ao' m m').ownBlock = (Value.slice ao l.length cap).ownBlock ∧ ∀ w : World, VRow w (.slice ao l.length cap) l → VRow w (.slice ao' m m') (l.drop k) := by
  refine ⟨(if cap = k then ao else ao.map (·.add (k * 1))), l.length - k, cap - k, fun w => ?_, ?_, fun w h => ?_⟩
  · have := run_slice_l (P := Try.prog) w 54 ao l.length cap under54 .i64 (k : Int) (by omega) (by omega)
    rw [this, run_size31]
    simp [Result.andThen, sliced]
  · by_cases h : cap = k
    · rw [if_pos h]; cases ao <;> rfl
    · rw [if_neg h]
      obtain ⟨e, _⟩ | ⟨b, off, cap', cur, e, _⟩ := h0
      · injection e with e0 e1 e3
        rw [e0]; rfl
      · injection e with e0 e1 e3
        rw [e0]; simp only [Option.map_some, Value.ownBlock, Addr.add]; split <;> rfl
  · have hl : (l.drop k).length = l.length - k := List.length_drop
    obtain ⟨e, e2⟩ | ⟨b, off, cap', cur, e, h1, h2, h3, h4, h5⟩ := h
    · injection e with e0 e1 e3
      subst e0
      subst e2
      have : k = 0 := by simpa using hk
      subst this
      subst e3
      exact .inl ⟨rfl, rfl⟩
    · injection e with e0 e1 e3
      subst e0 e3
      by_cases hkl : cap = k
      · rw [if_pos hkl]
        refine .inr ⟨b, off, cap - k, cur, by rw [hl], h1, by omega, by omega, by omega, fun i hi => by omega⟩
      · rw [if_neg hkl]
        refine .inr ⟨b, off + k, cap - k, cur, by rw [hl]; simp [Addr.add], h1, by omega, by omega, by omega, fun i hi => ?_⟩
        rw [List.getElem_drop, show off + k + i = off + (k + i) by omega]
        exact h5 (k + i) (by omega)
theorem VRow.of {base : Nat} {w : World} {v : Value} {l : List Value} (h : w.ownsRow base 31 1 v l.length l) : VRow w v l := by
  obtain ⟨e1, ⟨rfl, hz⟩ | ⟨x, cap, cur, rfl, e4, e5, r1, r2, r3, r4⟩⟩ := h
  · exact .inl ⟨rfl, List.eq_nil_of_length_eq_zero hz⟩
  · refine .inr ⟨x, 0, cap, cur, rfl, e5, r1, r2, by omega, fun i hi => ?_⟩
    have e1 : cur.toList[i]? = l[i]? := by rw [← r4, List.getElem?_take_of_lt (by omega)]
    rw [Array.getElem?_toList, List.getElem?_eq_getElem hi] at e1
    rw [Nat.zero_add, e1]
set_option maxRecDepth 100000 in
theorem pushV {ops : Array Oper} {rest : List Oper} {o : Oper} {a : Act} {Q : Exit → Act → World → Prop} {w0 : World} (hgd : o.guard = none) (s x : Operand)
    (ho : o.op = .call { callee := .builtin .append, args := #[s, x], argTypes := #[54, 54] }) (bb : Nat) (v : Value) (T : List Value) (y : Value) (hy : y.oneCell' = true)
    (hs : a.eval s = v) (hx : a.eval x = .slice (some ⟨bb, 0, none⟩) 1 1) (hbb : bb = w0.heap.size) (hA : VRow w0 v T) (hn : T.length ≤ 2000)
    (h : ∀ v' w', VRow w' v' (T ++ [y]) → w0.grownBy w' v.ownBlock → (v'.ownBlock = v.ownBlock ∨ ∃ k, v'.ownBlock = some k ∧ w0.heap.size ≤ k) → wpList Try.prog ops Q rest (a.put o.dst v') w') :
    wpList Try.prog ops Q (o :: rest) a (w0.alloc (.cells #[y] 31)) := by
  subst hbb
  obtain ⟨i0, hi, hz0, hz1, hz2⟩ := info_parts Try.infoV31
  have hnew : ∀ j u, [y][j]? = some u → (w0.alloc (.cells #[y] 31)).cell? ((⟨w0.heap.size, 0, none⟩ : Addr).add j) = some u := cell_one_new w0 y 31
  have grow : ∀ {row : Option Nat} {w'}, (w0.alloc (.cells #[y] 31)).grownBy w' row → w0.grownBy w' row := fun hg => ⟨hg.os, hg.tape, hg.output, by have := hg.size; simp at this; omega, fun k hk hne => (hg.block k (by simp; omega) hne).trans (Below.heap_alloc _ _ k hk)⟩
  have back : ∀ {base : Nat} {w' v'}, w'.ownsRow base 31 1 v' (T.length + 1) (T ++ [y]) → VRow w' v' (T ++ [y]) := by
    intro base w' v' hown
    refine VRow.of (base := base) ?_
    rw [List.length_append]
    exact hown
  rcases hA with ⟨rfl, rfl⟩ | ⟨b, off, cap, cur, rfl, h1, h2, h3, h4, h5⟩
  · refine wpList_append_own_at _ hgd s x 54 ho 0 31 i0 (.slice none 0 0) 1 24 Try.underlying54 hi hz0 hz1 hz2 rfl (by decide) _ 0 [] hs (World.ownsRow_nil _ _ _ _) ⟨w0.heap.size, 0, none⟩ 1 1 [y] hx rfl hnew (by intro u hu; simp at hu; subst hu; exact hy) (by decide) (by decide) (Nat.zero_le _) ?_
    intro v' w' hown hg _ hat
    refine h v' w' (back hown) (grow hg) ?_
    rcases hat with e | e
    · exact .inl e
    · exact .inr ⟨_, e, by simp⟩
  · have hb := lt_of_block h1
    have hb1 : (w0.alloc (.cells #[y] 31)).heap[b]? = some (.cells cur 31 (0, 0)) := (Below.heap_alloc _ _ b hb).trans h1
    have hcell : ∀ j, (w0.alloc (.cells #[y] 31)).cell? ⟨b, j, none⟩ = cur[j]? := fun j => cell_of hb1 j
    refine wpList_append_arg _ hgd s x 54 ho 31 i0 (.slice none 0 0) 1 24 Try.underlying54 hi hz0 hz1 hz2 rfl (by decide) b off T.length cap T hs (by simp) ?_ ⟨w0.heap.size, 0, none⟩ 1 1 [y] hx rfl hnew (by intro u hu; simp at hu; subst hu; exact hy) ?_ (by unfold maxLen; omega) (by omega) ?_ ?_
    · intro j u hu
      by_cases hj : j < T.length
      · rw [List.getElem?_eq_getElem hj] at hu
        injection hu with hu
        subst hu
        rw [hcell]
        exact h5 j hj
      · rw [List.getElem?_eq_none (by omega)] at hu; cases hu
    · intro hr j hj
      have hj0 : j = 0 := by simp at hj; exact hj
      subst hj0
      refine ⟨?_, frees hb1 _⟩
      rw [hcell, Array.getElem?_eq_getElem (show off + T.length * 1 + 0 < cur.size by omega)]
      rfl
    · intro hr
      refine h _ _ ?_ ?_ (.inl rfl)
      · refine .inr ⟨b, off, cap, cur.set! (off + T.length * 1) y, by simp, cells_set hb1 _, by simp; omega, h3, by simp; omega, fun i hi => ?_⟩
        rw [Nat.mul_one, Array.set!_eq_setIfInBounds]
        by_cases hit : i < T.length
        · rw [Array.getElem?_setIfInBounds_ne (by omega), List.getElem_append_left hit]
          exact h5 i hit
        · have hie : i = T.length := by simp at hi; omega
          subst hie
          rw [Array.getElem?_setIfInBounds_self_of_lt (by omega)]
          simp
      · refine ⟨rfl, rfl, rfl, by simp [World.setCells], fun k hk hne => ?_⟩
        show ((w0.alloc (.cells #[y] 31)).setCell ⟨b, off + T.length * 1, none⟩ y).heap[k]? = _
        rw [Below.heap_setCell _ _ _ _ (by rintro rfl; exact hne rfl)]
        exact Below.heap_alloc _ _ k hk
    · intro hr v' w' hown hg
      have hg2 := grow hg
      refine h v' w' (back hown) ⟨hg2.os, hg2.tape, hg2.output, hg2.size, fun k hk _ => hg2.block k hk (by simp)⟩ ?_
      rcases hown.2 with ⟨_, hz⟩ | ⟨k, _, _, rfl, hk, _⟩
      · omega
      · exact .inr ⟨k, rfl, by simp at hk; omega⟩
/-- how many places a transaction needs -/
def szOf : Value → Int
  | .slice _ n _ => (n : Int) + 1
  | _ => 1
def Slc (v : Value) : Prop := ∃ a n c, v = .slice a n c ∧ n ≤ 48
/-- the reference's journal: its transactions' slices, the block of their row -/
def RK (g : Nat) (r : Option Nat) (w : World) (P : Int) (T F S : Nat) (vs : List Value) : Prop := ∃ Lv, Lv.ownBlock = r ∧ RI g w P T F S Lv ∧ VRow w Lv vs ∧ ∀ v ∈ vs, Slc v
theorem RK.lt {g : Nat} {r : Option Nat} {w : World} {P : Int} {T F S : Nat} {l : List Value} (h : RK g r w P T F S l) : g < w.heap.size ∧ ∀ x, r = some x → x < w.heap.size ∧ x ≠ g := by
  obtain ⟨sv, rfl, h1, h2, _⟩ := h
  refine ⟨h1.lt, fun x hx => ?_⟩
  obtain ⟨cur, hc⟩ := h2.own x hx
  refine ⟨lt_of_block hc, ?_⟩
  rintro rfl
  unfold RI at h1
  rw [h1] at hc
  simp at hc
theorem RK.same {g : Nat} {r : Option Nat} {w w' : World} {P : Int} {T F S : Nat} {l : List Value} (h : RK g r w P T F S l) (k : w'.heap[g]? = w.heap[g]?) (kr : ∀ x, r = some x → w'.heap[x]? = w.heap[x]?) : RK g r w' P T F S l := by
  obtain ⟨sv, h0, h1, h2, h3⟩ := h
  exact ⟨sv, h0, k.trans h1, h2.same fun x hx => kr x (h0.symm.trans hx), h3⟩
theorem RK.below {g : Nat} {r : Option Nat} {w w' : World} {P : Int} {T F S : Nat} {l : List Value} (h : RK g r w P T F S l) (k : Below w.heap.size w w') : RK g r w' P T F S l :=
  h.same (k.block g h.lt.1) (fun x hx => k.block x (h.lt.2 x hx).1)
theorem RK.drew {g : Nat} {r : Option Nat} {w : World} {P : Int} {T F S : Nat} {l : List Value} (h : RK g r w P T F S l) (q : Nat) : RK g r (w.drewN q) P T F S l := h
theorem refNew_j (n : Int) (w : World) (h : 8 ≤ n ∧ n ≤ 256) : Calls Try.prog 10 #[.int .i64 n] w fun e w' => e = .returned (.tuple #[.pointer (some ⟨w.heap.size, 0, none⟩), .int .i64 0]) ∧ RK w.heap.size none w' (n - 1) 0 1 0 [] ∧ Below w.heap.size w w' := by
  obtain ⟨h1, h2⟩ := h
  go_enter Try.func10, Try.ntmps10
  go_wp2
  go_ret2
  exact ⟨rfl, ⟨_, rfl, box_at _ _, VRow.nil _, by simp⟩, below_alloc _ _⟩
theorem refNew_jno (n : Int) (w : World) (h : ¬ (8 ≤ n ∧ n ≤ 256)) : Calls Try.prog 10 #[.int .i64 n] w fun e w' => e = .returned (.tuple #[.pointer none, .int .i64 1]) ∧ w' = w := by
  by_cases h1 : n < 8
  · clear h
    go_enter Try.func10, Try.ntmps10
    go_wp2
    go_ret2
    exact ⟨rfl, rfl⟩
  · have h2 : 256 < n := by omega
    clear h
    go_enter Try.func10, Try.ntmps10
    go_wp2
    go_ret2
    exact ⟨rfl, rfl⟩
theorem refNext_j (g : Nat) (r : Option Nat) (P : Int) (T F S : Nat) (vs : List Value) (hl : vs.length ≤ 300) (hF : F ≤ 1099511628000) (w : World) (h : RK g r w P T F S vs) : Calls Try.prog 25 #[.pointer (some ⟨g, 0, none⟩)] w fun e w' => e = .returned (.int .i64 ((F : Int) + vs.length)) ∧ ∃ q, w' = w.drewN q := by
  obtain ⟨Lv, hr, h1, h2, h3⟩ := h
  obtain ⟨ao, cap, rfl, hlc, hcm⟩ := h2.len
  obtain ⟨c0, c1, c2, c3, c4⟩ := h1.cells
  clear h3 h2
  go_enter Try.func25, Try.ntmps25
  go_wp2
  go_quiet ((fail))
  go_wp2
  go_ret
  exact ⟨rfl, _, rfl⟩
set_option maxRecDepth 100000 in
theorem refFree_j (g : Nat) (r : Option Nat) (P : Int) (T F S : Nat) (vs : List Value) (hP : 0 ≤ P) (hP2 : P ≤ 300) (hs : sumI (vs.map szOf) ≤ P) (w : World) (h : RK g r w P T F S vs) : Calls Try.prog 23 #[.pointer (some ⟨g, 0, none⟩)] w fun e w' => e = .returned (.int .i64 (P - sumI (vs.map szOf))) ∧ w' = w := by
  obtain ⟨Lv, hr, h1, h2, h3⟩ := h
  obtain ⟨ao, cap, rfl, hlc, hcm⟩ := h2.len
  obtain ⟨c0, c1, c2, c3, c4⟩ := h1.cells
  unfold maxLen at hcm
  have hnn : ∀ x ∈ vs.map szOf, 0 ≤ x := by
    intro x hx
    obtain ⟨v, hv, rfl⟩ := List.mem_map.1 hx
    obtain ⟨a, n, c, rfl, _⟩ := h3 v hv
    show (0 : Int) ≤ (n : Int) + 1
    omega
  have HNN := hid hnn
  have H3 := hid h3
  have H2 := hid h2
  clear hnn h3 h2
  obtain ⟨A, hA⟩ : ∃ A, A = sumI (vs.map szOf) := ⟨_, rfl⟩
  rw [← hA] at hs ⊢
  have HA := hid hA
  clear hA
  have hgl := h1.lt
  go_enter Try.func23, Try.ntmps23
  go_wp2
  go_loopw [3, 15] (fun s i wr => ∃ (q : Nat) (t : Int), i = .int .i64 q ∧ q ≤ vs.length ∧ s = .int .i64 (P - t) ∧ t = sumI ((vs.map szOf).take q) ∧ wr = w) (fun _ i _ => vs.length - (intOf i).toNat)
  case atStart => exact ⟨0, 0, rfl, Nat.zero_le _, by simp, rfl, rfl⟩
  case round =>
    obtain ⟨q, t, rfl, hq, rfl, ht, hw⟩ := hrel
    subst hw
    have HTt := hid ht
    have hb := sumI_take HNN.out q
    rw [← ht, ← HA.out] at hb
    clear ht
    by_cases hqk : q < vs.length
    · obtain ⟨gb, off, e, hgb, d0⟩ := H2.out.cell q hqk
      subst e
      have hb2 := sumI_take HNN.out (q + 1)
      have HS : Hid (sumI ((vs.map szOf).take (q + 1)) = t + szOf vs[q]) := by
        show _ = _
        rw [List.take_succ_eq_append_getElem (by rw [List.length_map]; exact hqk), sumI_snoc, HTt.out, List.getElem_map]
      obtain ⟨a, n, c, e, hn⟩ := H3.out vs[q] (List.getElem_mem hqk)
      rw [e] at d0 HS
      have HS2 : Hid (sumI ((vs.map szOf).take (q + 1)) = t + ((n : Int) + 1)) := HS
      rw [HS2.out, ← HA.out] at hb2
      clear e HS
      go_wp2
      go_roundw
      case rel => exact ⟨q + 1, t + ((n : Int) + 1), by go_num, by omega, by congr 1; omega, HS2.out.symm, trivial⟩
      case measure => simp [intOf]; omega
    · have hqe : q = vs.length := by omega
      subst hqe
      rw [show (vs.map szOf).take vs.length = vs.map szOf from by rw [List.take_of_length_le (by rw [List.length_map]; exact Nat.le_refl _)]] at HTt
      have e : t = A := by rw [HTt.out, HA.out]
      subst e
      go_wp2
      go_ret
      exact ⟨rfl, rfl⟩
end Go.Proofs.Ytmcahiebcflfoaa
