import Derived.Test.YtopebghandojbaaGreatNa
import Derived.Deep.CutBlock
import Derived.Deep.DeepCutAuto
namespace Go.Proofs.YtopebghandojbaaGreat
open Go.RowKit Go.Maps

/-- blocks with one put -/
def putF (st : Nat → ByteArray) (c : Chg) : Nat → ByteArray := fun i => if i = c.b.toNat then c.d else st i
theorem put_hom : ∀ (M : List Chg) (st : Nat → ByteArray), Rise M → (∀ c ∈ M, 0 ≤ c.b) → M.foldl putF st = stU st M
  | [], _, _, _ => rfl
  | c :: M, st, hr, hm => by
    unfold Rise at hr
    rw [List.pairwise_cons] at hr
    have c0 := hm c (List.mem_cons_self ..)
    rw [List.foldl_cons, put_hom M (putF st c) hr.2 (fun x hx => hm x (List.mem_cons_of_mem _ hx))]
    funext k
    unfold stU hom Um.lookL
    rw [List.find?_cons]
    by_cases e : c.b = (k : Int)
    · have e1 : (c.b == (k : Int)) = true := by simp [e]
      rw [e1]
      have hn : M.find? (fun x => x.b == (k : Int)) = none := by
        rw [List.find?_eq_none]
        intro x hx h2
        have := hr.1 x hx
        have h3 : x.b = (k : Int) := by simpa using h2
        omega
      rw [hn]
      show putF st c k = c.d
      exact if_pos (by omega)
    · have e1 : (c.b == (k : Int)) = false := by simp [e]
      rw [e1]
      cases hl : M.find? (fun x => x.b == (k : Int)) with
      | some _ => rfl
      | none => exact if_neg (by omega)
/-- the blocks behind so many commits -/
def stD (D : List (List Chg)) : Nat → ByteArray := D.foldl stU fun _ => Dv.Z
theorem stD_snoc (D : List (List Chg)) (X : List Chg) : stD (D ++ [X]) = stU (stD D) X := by unfold stD; rw [List.foldl_append]; rfl
theorem stD_take (D : List (List Chg)) (q : Nat) (h : q < D.length) : stD (D.take (q + 1)) = stU (stD (D.take q)) D[q] := by
  rw [List.take_succ_eq_append_getElem h, stD_snoc]
theorem Fis.put {g n : Nat} {w : World} {st : Nat → ByteArray} (h : Fis g n n w st) (c : Chg) (_ : c.b.toNat < n) : Fis g n n (w.setCell ⟨g, c.b.toNat, none⟩ (.string c.d)) (putF st c) := by
  obtain ⟨cur, h1, h2, h3⟩ := h
  refine ⟨_, cells_set h1 _, by simp [h2], fun i hi => ?_⟩
  show (cur.setIfInBounds c.b.toNat (.string c.d))[i]? = some (.string (if i = c.b.toNat then c.d else st i))
  rw [Array.getElem?_setIfInBounds]
  by_cases e : c.b.toNat = i
  · rw [if_pos e, if_pos e.symm, if_pos (by omega)]
  · rw [if_neg e, if_neg (fun e2 => e e2.symm)]
    exact h3 i hi
set_option maxRecDepth 100000 in
theorem mkSk (n : Nat) (hn : n ≤ 1024) : ∃ cs, (∀ w : World, (Instr.makeSlice 55 (.int .i64 (n : Int)) (.int .i64 (n : Int))).run Tryz.prog w = .ok (.slice (some ⟨w.heap.size, 0, none⟩) n n) (w.alloc (.cells cs 9))) ∧ ∀ (w : World) f, Fis w.heap.size n 0 (w.alloc (.cells cs 9)) f := by
  obtain ⟨i0, hi, hz0, hz1, hz2⟩ := info_parts Tryz.infoR9
  refine ⟨madeCells (Value.string ⟨#[]⟩).cells n, fun w => ?_, fun w f => ⟨_, box_at _ _, by simp [size_madeCells], fun i hi => by omega⟩⟩
  have := run_makeSlice (P := Tryz.prog) w 55 9 i0 (.string ⟨#[]⟩) Tryz.underlying55 hi hz0 .i64 .i64 (n : Int) (n : Int) (by omega) (by omega) (by rw [hz1]; omega) (by rw [hz2]; omega) (by omega)
  have e1 : (n : Int).toNat = n := by omega
  rw [e1, hz1, Nat.mul_one] at this
  exact this
theorem Z_eq : Dv.B 0 = Dv.Z := rfl
/-- may transactions change a block? -/
theorem home_any (x y z k : Int) (w : World) : Calls Tryz.prog 60 #[.agg #[.int .i64 x, .int .i64 y, .int .i64 z], .int .i64 k] w fun e w' => e = .returned (.bool (decide (y < k) && decide (k < x))) ∧ Below w.heap.size w w' := by
  obtain ⟨A, hA⟩ : ∃ A, A = (decide (y < k) && decide (k < x)) := ⟨_, rfl⟩
  rw [← hA]
  have HA := hid hA
  clear hA
  by_cases h1 : y < k
  · by_cases h2 : k < x
    · go_enter Tryz.func60, Tryz.ntmps60
      go_wp2
      go_ret
      exact ⟨by rw [HA.out, decide_eq_true (show y < k by omega), decide_eq_true (show k < x by omega)]; rfl, below_alloc _ _⟩
    · go_enter Tryz.func60, Tryz.ntmps60
      go_wp2
      go_ret
      exact ⟨by rw [HA.out, decide_eq_true (show y < k by omega), decide_eq_false (show ¬ k < x by omega)]; rfl, below_alloc _ _⟩
  · go_enter Tryz.func60, Tryz.ntmps60
    go_wp2
    go_ret
    exact ⟨by rw [HA.out, decide_eq_false (show ¬ y < k by omega)]; rfl, below_alloc _ _⟩
/-- are changes right, one by one, and of blocks that transactions may change? -/
def r9 (x y : Nat) : Int → List Chg → Bool
  | _, [] => true
  | last, c :: l => (decide ((y : Int) < c.b) && decide (c.b < (x : Int))) && (decide (c.d.size = 128) && (decide (last < c.b) && r9 x y c.b l))
theorem r9_within (x y : Nat) : ∀ (l : List Chg) (last : Int), r9 x y last l = true → withinB (1 + (y : Int)) x l = true
  | [], _, _ => rfl
  | c :: l, last, h => by
    simp only [r9, Bool.and_eq_true, decide_eq_true_eq] at h
    obtain ⟨⟨h1, h2⟩, _, _, h3⟩ := h
    have := r9_within x y l c.b h3
    unfold withinB at this ⊢
    rw [List.all_cons, this]
    simp
    omega
set_option maxRecDepth 100000 in
set_option maxHeartbeats 4000000 in
theorem right9_any (x y z : Nat) (v : Value) (l : List Chg) (w : World) (h : CLie w v l) : Calls Tryz.prog 34 #[.agg #[.int .i64 x, .int .i64 y, .int .i64 z], v] w fun e w' => e = .returned (.bool (r9 x y (-1) l)) ∧ Below w.heap.size w w' := by
  obtain ⟨ao, cap, rfl, hlc, hcm, hcell⟩ := h
  have HC := hid hcell
  have HH := hid home_any
  clear hcell
  unfold maxLen at hcm
  obtain ⟨A, hA⟩ : ∃ A, A = r9 x y (-1) l := ⟨_, rfl⟩
  rw [← hA]
  have HA := hid hA
  clear hA
  go_enter Tryz.func34, Tryz.ntmps34
  go_wp2
  go_loopw [5, 10] (fun la i wr => ∃ (q : Nat) (last : Int), i = .int .i64 q ∧ q ≤ l.length ∧ la = .int .i64 last ∧ r9 x y (-1) l = r9 x y last (l.drop q) ∧ Below w.heap.size w wr ∧ wr.heap[w.heap.size]? = some (.cells #[.int .i64 (x : Int), .int .i64 (y : Int), .int .i64 (z : Int)] 23 (0, 0))) (fun _ i _ => l.length - (intOf i).toNat)
  case atStart => exact ⟨0, -1, rfl, Nat.zero_le _, rfl, rfl, below_alloc _ _, box_at _ _⟩
  case round =>
    obtain ⟨q, last, rfl, hq, rfl, hr, hB, hX⟩ := hrel
    have HB := hid hB
    have HRR := hid hr
    have HX := hid hX
    obtain ⟨d0, d1, d2⟩ := three_cells hX
    clear hr hB hX
    have hXl := lt_of_block HX.out
    by_cases hqk : q < l.length
    · obtain ⟨gb, off, e, hgl, c0, c1⟩ := HC.out q hqk
      subst e
      have HD := hid (drop_at l q hqk)
      obtain ⟨c, hc⟩ : ∃ c, c = l[q] := ⟨_, rfl⟩
      rw [← hc] at c0 c1 HD
      clear hc
      replace c0 := (HB.out.cell (p := ⟨gb, off + q * 2, none⟩) hgl).trans c0
      replace c1 := (HB.out.cell (p := ⟨gb, off + q * 2 + 1, none⟩) hgl).trans c1
      have hgr : gb < wr.heap.size := Nat.lt_of_lt_of_le hgl HB.out.size
      have HN : Hid (r9 x y (-1) l = ((decide ((y : Int) < c.b) && decide (c.b < (x : Int))) && (decide (c.d.size = 128) && (decide (last < c.b) && r9 x y c.b (l.drop (q + 1)))))) := by
        show _ = _
        rw [HRR.out, HD.out]; rfl
      have HB2 := hid (HB.out.next (below_alloc wr (.cells #[.int .i64 c.b, .string c.d] 94)))
      have HV := hid (box_at wr (.cells #[.int .i64 c.b, .string c.d] 94))
      have HX2 := hid ((Below.heap_alloc wr (.cells #[.int .i64 c.b, .string c.d] 94) _ hXl).trans HX.out)
      obtain ⟨hm, hhm⟩ : ∃ hm, hm = (decide ((y : Int) < c.b) && decide (c.b < (x : Int))) := ⟨_, rfl⟩
      have HM : Hid (∀ w, Calls Tryz.prog 60 #[.agg #[.int .i64 x, .int .i64 y, .int .i64 z], .int .i64 c.b] w fun e w' => e = .returned (.bool hm) ∧ Below w.heap.size w w') := hid (fun w => by rw [hhm]; exact HH.out x y z c.b w)
      rw [← hhm] at HN
      clear hhm
      cases hm
      · go_wp2_with (first
          | (go_at_call 60; refine (HM.out _).mono ?_; rintro e w2 ⟨rfl, hb2⟩
             have HB3 := hid hb2
             clear hb2))
        go_ret
        exact ⟨by rw [HA.out, HN.out]; rfl, HB2.out.next HB3.out⟩
      · by_cases hd : c.d.size = 128
        · by_cases h3 : last < c.b
          · go_wp2_with (first
              | (go_at_call 60; refine (HM.out _).mono ?_; rintro e w2 ⟨rfl, hb2⟩
                 have HB3 := hid hb2
                 obtain ⟨e0, e1⟩ := two_cells ((hb2.block _ (lt_of_block HV.out)).trans HV.out)
                 clear hb2))
            go_roundw
            case rel => exact ⟨q + 1, c.b, by go_num, by omega, rfl, by rw [HN.out, decide_eq_true (show c.d.size = 128 by omega), decide_eq_true (show last < c.b by omega)]; rfl, HB2.out.next HB3.out, (HB3.out.block _ (lt_of_block HX2.out)).trans HX2.out⟩
            case measure => simp only [intOf] at *; omega
          · go_wp2_with (first
              | (go_at_call 60; refine (HM.out _).mono ?_; rintro e w2 ⟨rfl, hb2⟩
                 have HB3 := hid hb2
                 obtain ⟨e0, e1⟩ := two_cells ((hb2.block _ (lt_of_block HV.out)).trans HV.out)
                 clear hb2))
            go_ret
            exact ⟨by rw [HA.out, HN.out, decide_eq_true (show c.d.size = 128 by omega), decide_eq_false (show ¬ last < c.b by omega)]; rfl, HB2.out.next HB3.out⟩
        · have hdb : (((c.d.size : Nat) : Int) != 128) = true := by simp; omega
          go_wp2_with (first
            | (go_at_call 60; refine (HM.out _).mono ?_; rintro e w2 ⟨rfl, hb2⟩
               have HB3 := hid hb2
               obtain ⟨e0, e1⟩ := two_cells ((hb2.block _ (lt_of_block HV.out)).trans HV.out)
               clear hb2))
          go_ret
          exact ⟨by rw [HA.out, HN.out, decide_eq_false (show ¬ c.d.size = 128 by omega)]; rfl, HB2.out.next HB3.out⟩
    · have hqe : q = l.length := by omega
      subst hqe
      go_wp2
      go_ret
      refine ⟨?_, HB.out⟩
      rw [HA.out, HRR.out, List.drop_length]; rfl
end Go.Proofs.YtopebghandojbaaGreat
