import Derived.Test.YtnoocgodnpjnoaaDoorRc
namespace Go.Proofs.YtnoocgodnpjnoaaDoor
open Go.RowKit

/-- all that are open -/
def opens (D : Nat → Dsc) : Nat → List Int
  | 0 => []
  | n + 1 => opens D n ++ (if (D n).o then [(n : Int)] else [])
def cnt (D : Nat → Dsc) (n : Nat) : Nat := (opens D n).length
theorem cnt_succ (D : Nat → Dsc) (n : Nat) : cnt D (n + 1) = cnt D n + (if (D n).o then 1 else 0) := by
  unfold cnt
  rw [opens, List.length_append]
  split <;> simp
theorem cnt_le (D : Nat → Dsc) : ∀ n, cnt D n ≤ n
  | 0 => Nat.le_refl _
  | n + 1 => by
    have := cnt_le D n
    rw [cnt_succ]
    split <;> omega
theorem cnt_all (D : Nat → Dsc) : ∀ n, (∀ j, j < n → (D j).o = true) → cnt D n = n
  | 0, _ => rfl
  | n + 1, h => by
    rw [cnt_succ, cnt_all D n (fun j hj => h j (by omega)), h n (by omega)]
    rfl
theorem cnt_same {D E : Nat → Dsc} : ∀ n, (∀ j, j < n → (D j).o = (E j).o) → cnt D n = cnt E n
  | 0, _ => rfl
  | n + 1, h => by rw [cnt_succ, cnt_succ, cnt_same n (fun j hj => h j (by omega)), h n (by omega)]
theorem cnt_upd {D : Nat → Dsc} {k : Nat} {x : Dsc} : ∀ n, k < n → cnt (upd D k x) n + (if (D k).o then 1 else 0) = cnt D n + (if x.o then 1 else 0)
  | 0, h => by omega
  | n + 1, h => by
    rw [cnt_succ, cnt_succ]
    by_cases hk : k = n
    · subst hk
      rw [upd_same, cnt_same (D := upd D k x) (E := D) k (fun j hj => by rw [upd_other _ _ _ _ (by omega)])]
      omega
    · have := cnt_upd (D := D) (k := k) (x := x) n (by omega)
      rw [upd_other _ _ _ _ (Ne.symm hk)]
      omega
theorem cnt_open {D : Nat → Dsc} {k : Nat} {x : Dsc} (hk : k < 16) (h0 : (D k).o = false) (hx : x.o = true) : cnt (upd D k x) 16 = cnt D 16 + 1 := by
  have := cnt_upd (D := D) (x := x) 16 hk
  rw [h0, hx] at this
  simpa using this
theorem cnt_shut {D : Nat → Dsc} {k : Nat} {x : Dsc} (hk : k < 16) (h0 : (D k).o = true) (hx : x.o = false) : cnt (upd D k x) 16 + 1 = cnt D 16 := by
  have := cnt_upd (D := D) (x := x) 16 hk
  rw [h0, hx] at this
  simpa using this
/-- a row of the call's own: numbers -/
def IRow (base : Nat) (w : World) (v : Value) (l : List Int) : Prop := w.ownsRow base 3 1 v l.length (l.map (Value.int .i64))
theorem Tryd.infoR3 : (Tryd.prog.info? 3).map (fun i => (i.zero, i.size, i.bytes)) = some (some (.int .i64 0), 1, 8) := by kernel_rfl
theorem IRow.nil (base : Nat) (w : World) : IRow base w (.slice none 0 0) [] := ⟨rfl, .inl ⟨rfl, rfl⟩⟩
theorem IRow.new (w : World) : IRow w.heap.size (w.alloc (.cells #[] 3)) (.slice (some ⟨w.heap.size, 0, none⟩) 0 0) [] := ⟨rfl, .inr ⟨w.heap.size, 0, #[], rfl, Nat.le_refl _, box_at _ _, Nat.le_refl _, by decide, rfl, rfl⟩⟩
theorem IRow.own {base : Nat} {w : World} {v : Value} {l : List Int} (h : IRow base w v l) : ∀ x, v.ownBlock = some x → base ≤ x ∧ ∃ cur, w.heap[x]? = some (.cells cur 3 (0, 0)) := by
  obtain ⟨e1, ⟨rfl, _⟩ | ⟨x, cap, cur, rfl, e4, e5, e6⟩⟩ := h
  · intro x hx; cases hx
  · intro y hy; cases hy; exact ⟨e4, _, e5⟩
theorem IRow.len {base : Nat} {w : World} {v : Value} {l : List Int} (h : IRow base w v l) : ∃ ao cap, v = .slice ao l.length cap ∧ l.length ≤ cap ∧ cap ≤ maxLen := by
  rcases h.2 with ⟨rfl, hz⟩ | ⟨gb, cap, cur, rfl, _, _, r1, r2, _⟩
  · exact ⟨none, 0, by rw [hz], by omega, by decide⟩
  · exact ⟨_, cap, rfl, r1, r2⟩
theorem pushI {ops : Array Oper} {rest : List Oper} {o : Oper} {a : Act} {Q : Exit → Act → World → Prop} {w0 : World} (hgd : o.guard = none) (s x : Operand)
    (ho : o.op = .call { callee := .builtin .append, args := #[s, x], argTypes := #[32, 32] }) (B1 bb : Nat) (v : Value) (T : List Int) (y : Int)
    (hs : a.eval s = v) (hx : a.eval x = .slice (some ⟨bb, 0, none⟩) 1 1) (hbb : bb = w0.heap.size) (hA : IRow B1 w0 v T) (hn : T.length ≤ 2000000) (hbase : B1 ≤ w0.heap.size)
    (h : ∀ v' w', IRow B1 w' v' (T ++ [y]) → Below B1 w0 w' → wpList Tryd.prog ops Q rest (a.put o.dst v') w') :
    wpList Tryd.prog ops Q (o :: rest) a (w0.alloc (.cells #[.int .i64 y] 3)) := by
  subst hbb
  obtain ⟨i0, hi, hz0, hz1, hz2⟩ := info_parts Tryd.infoR3
  have ho2 := hA.own
  refine wpList_append_own _ hgd s x 32 ho B1 3 i0 (.int .i64 0) 1 8 Tryd.underlying32 hi hz0 hz1 hz2 rfl (by decide) v T.length (T.map (Value.int .i64)) hs (World.ownsRow.alloc hA _) ⟨w0.heap.size, 0, none⟩ 1 1 [.int .i64 y] hx rfl (by
      intro j u hu
      match j, hu with
      | 0, hu => simp at hu; subst hu; simp [Addr.add]
      | j + 1, hu => simp at hu) (by intro u hu; simp at hu; subst hu; rfl) (by unfold maxLen; omega) (by omega) (by simp; omega) ?_
  intro v' w' hown hg _
  refine h v' w' ?_ ?_
  · unfold IRow
    rw [List.map_append, List.length_append]
    exact hown
  · refine (below_alloc w0 (.cells #[.int .i64 y] 3)).mono hbase |>.trans ⟨hg.os, hg.tape, hg.output, hg.size, fun k hk => hg.block k ?_ ?_⟩
    · simp; omega
    · intro e
      have := (ho2 k e.symm).1
      omega
set_option maxRecDepth 100000 in
set_option maxHeartbeats 1000000 in
theorem list_any {g : Nat} {w : World} {D : Nat → Dsc} (h : TI g w D) : Calls Tryd.prog 12 #[.pointer (some ⟨g, 0, none⟩)] w fun e w' => ∃ v, e = .returned v ∧ IRow w.heap.size w' v (opens D 16) ∧ Below w.heap.size w w' := by
  have HH := hid h
  have HR0 := hid (IRow.new w)
  clear h
  go_enter Tryd.func12, Tryd.ntmps12
  go_wp2
  go_loopw [3, 6] (fun s i wr => ∃ j : Nat, i = .int .i64 j ∧ j ≤ 16 ∧ Hid (IRow w.heap.size wr s (opens D j)) ∧ Hid (Below w.heap.size w wr)) (fun _ i _ => 16 - (intOf i).toNat)
  case atStart => exact ⟨0, rfl, by decide, HR0, hid (below_alloc w _)⟩
  case round =>
    obtain ⟨j, rfl, hj, HR, HB⟩ := hrel
    rename World => wr
    by_cases hlt : j < 16
    · cases ho : (D j).o with
      | true =>
        have HF := hid (find_yes j (HH.out.below HB.out) hlt ho)
        have HO : Hid (opens D (j + 1) = opens D j ++ [(j : Int)]) := hid (by rw [opens, ho]; rfl)
        have hll : (opens D j).length ≤ 2000000 := Nat.le_trans (cnt_le D j) (by omega)
        clear ho
        go_wp2_with (first
          | (go_at_call 26; refine (HF.out).mono ?_; rintro e w1 ⟨rfl, hw⟩; subst hw)
          | (at_builtin; refine pushI rfl (.tmp 13) (.tmp 15) rfl w.heap.size _ _ (opens D j) (j : Int) rfl rfl rfl HR.out hll HB.out.size ?_; intro v2 w2 hr2 hb2; have HR2 := hid hr2; have HB2 : Hid (Below w.heap.size w w2) := hid (HB.out.trans hb2); clear hr2 hb2))
        go_roundw
        case rel => exact ⟨j + 1, by go_num, by omega, by rw [HO.out]; exact HR2, HB2⟩
        case measure => simp [intOf]; omega
      | false =>
        have HF := hid (find_no (j : Int) (HH.out.below HB.out) (by rw [opn_nat hlt]; exact ho))
        have HO : Hid (opens D (j + 1) = opens D j) := hid (by rw [opens, ho]; simp)
        clear ho
        go_wp2_with (first
          | (go_at_call 26; refine (HF.out).mono ?_; rintro e w1 ⟨rfl, hw⟩; subst hw))
        go_roundw
        case rel => exact ⟨j + 1, by go_num, by omega, by rw [HO.out]; exact HR, HB⟩
        case measure => simp [intOf]; omega
    · have hjn : j = 16 := by omega
      have HS : Hid (opens D j = opens D 16) := hid (by rw [hjn])
      rw [HS.out] at HR
      clear hjn
      go_wp2
      go_ret
      exact ⟨_, rfl, HR.out, HB.out⟩
end Go.Proofs.YtnoocgodnpjnoaaDoor
