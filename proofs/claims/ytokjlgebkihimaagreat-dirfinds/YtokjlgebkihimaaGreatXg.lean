import Derived.Test.YtokjlgebkihimaaGreatXe
namespace Go.Proofs.YtokjlgebkihimaaGreat
open Go.RowKit Go.Maps

set_option maxRecDepth 100000 in
theorem run_cut32 (s : ByteArray) (hs : 32 ≤ s.size) (w : World) : (Instr.slice 9 (.string s) (some (.int .i64 32)) none none).run Tryz.prog w = .ok (.string (s.extract 32 s.size)) w := by
  have := run_slice_string_l (P := Tryz.prog) w 9 s Tryz.underlying9 .i64 32 (by omega) (by omega)
  rw [this]
  rfl
theorem st_drop (h : List UInt8) (k : Nat) : (st h).extract k (st h).size = st (h.drop k) := by
  apply ByteArray.ext
  simp [st, ByteArray.size]
  rw [List.take_of_length_le (by rw [List.length_drop]; omega)]
theorem st_sz (h : List UInt8) : (st h).size = h.length := by simp [st, ByteArray.size]
/-- the first 32 bytes laid into a blank slot -/
theorem lov_all : ∀ (bs l a : List UInt8), lov (a ++ l) a.length bs = a ++ (bs.take l.length ++ l.drop bs.length) ∨ l.length < bs.length
  | [], l, a => .inl (by simp [lov])
  | b :: bs, [], a => .inr (by simp)
  | b :: bs, x :: l, a => by
    have h := lov_all bs l (a ++ [b])
    rcases h with h | h
    · refine .inl ?_
      unfold lov
      rw [List.set_append_right _ _ (Nat.le_refl _), Nat.sub_self]
      simp only [List.set_cons_zero]
      rw [show a ++ b :: l = (a ++ [b]) ++ l by simp, show a.length + 1 = (a ++ [b]).length by simp, h]
      simp
    · exact .inr (by simp only [List.length_cons]; omega)
theorem lov_whole (bs : List UInt8) (h : bs.length = 32) : lov Z32 0 bs = bs := by
  rcases lov_all bs Z32 [] with e | e
  · have hz : Z32.length = 32 := rfl
    rw [List.nil_append, List.length_nil, List.nil_append, List.take_of_length_le (by omega), List.drop_of_length_le (by omega), List.append_nil] at e
    exact e
  · have hz : Z32.length = 32 := rfl
    omega
theorem take_st (h : List UInt8) (hl : 32 ≤ h.length) : (st h).data.toList.take (min (st h).size 32) = h.take 32 := by
  have e1 : (st h).data.toList = h := by simp [st]
  have e2 : (st h).size = h.length := by simp [st, ByteArray.size]
  rw [e1, e2, Nat.min_eq_right hl]
/-- all slots of a directory's bytes -/
theorem chop_split (h : List UInt8) (k : Nat) (hk : k * 32 ≤ h.length) : chopN (h.length / 32) h = chopN k h ++ chopN ((h.length - k * 32) / 32) (h.drop (k * 32)) := by
  induction k with
  | zero => simp [chopN]
  | succ k ih =>
    rw [ih (by omega)]
    have e : (h.length - k * 32) / 32 = (h.length - (k + 1) * 32) / 32 + 1 := by omega
    rw [e, chopN, chopN_snoc, List.append_assoc]
    congr 1
    rw [List.drop_drop]
    have e2 : k * 32 + 32 = (k + 1) * 32 := by omega
    rw [e2]
    rfl
set_option maxRecDepth 100000 in
theorem build87 (w : World) : (Instr.build 87 #[]).run Tryz.prog w = .ok (sv Z32) w := by kernel_rfl
theorem LRow.wide {b c : Nat} {w : World} {v : Value} {S : List (List UInt8)} (h : LRow c w v S) (hb : b ≤ c) : LRow b w v S := by
  obtain ⟨h0, e1, e2 | ⟨x, cap, cur, e3, e4, e5⟩⟩ := h
  · exact ⟨h0, e1, .inl e2⟩
  · exact ⟨h0, e1, .inr ⟨x, cap, cur, e3, Nat.le_trans hb e4, e5⟩⟩
theorem fold_set (l : List Value) : ∀ (k : Nat) (A : Array Value), k + l.length ≤ A.size → (l.zipIdx k).foldl (fun cs x => cs.setIfInBounds x.snd x.fst) A = (A.toList.take k ++ l ++ A.toList.drop (k + l.length)).toArray := by
  induction l with
  | nil => intro k A _; simp
  | cons v l ih =>
    intro k A hk
    simp only [List.length_cons] at hk
    rw [List.zipIdx_cons, List.foldl_cons, ih (k + 1) _ (by rw [Array.size_setIfInBounds]; omega)]
    congr 1
    rw [Array.toList_setIfInBounds]
    have h1 : k < A.toList.length := by simp; omega
    rw [List.take_set, List.drop_set_of_lt (by omega)]
    rw [List.take_add_one, List.getElem?_eq_getElem h1]
    simp only [Option.toList_some]
    rw [List.set_append_right _ _ (by rw [List.length_take]; omega)]
    have h2 : k - (A.toList.take k).length = 0 := by rw [List.length_take]; omega
    rw [h2, List.set_cons_zero]
    simp only [List.length_cons, List.append_assoc, List.cons_append, List.nil_append]
    rw [show k + 1 + l.length = k + (l.length + 1) by omega]
theorem fold_whole (l : List Value) (A : Array Value) (h : A.size = l.length) : l.zipIdx.foldl (fun cs x => cs.setIfInBounds x.snd x.fst) A = l.toArray := by
  have := fold_set l 0 A (by omega)
  rw [this]
  simp [h]
set_option maxRecDepth 100000 in
theorem run_buildS (y : List UInt8) (hy : y.length = 32) (w : World) : (Instr.buildSlice 81 1 #[(0, .agg (bc y).toArray)]).run Tryz.prog w = .ok (.slice (some ⟨w.heap.size, 0, none⟩) 1 1) (w.alloc (.cells (bc y).toArray 87)) := by
  have hl : (bc y).length = 32 := by rw [bc_length]; exact hy
  obtain ⟨i0, hi, hz0, hz1, hz2⟩ := info_parts Tryz.infoR87
  have hz : (zeroValue 87).run Tryz.prog w = .ok (sv Z32) w := by kernel_rfl
  have hs := size87 w
  have hc : (sv Z32).cells = #[.int .u8 0, .int .u8 0, .int .u8 0, .int .u8 0, .int .u8 0, .int .u8 0, .int .u8 0, .int .u8 0, .int .u8 0, .int .u8 0, .int .u8 0, .int .u8 0, .int .u8 0, .int .u8 0, .int .u8 0, .int .u8 0, .int .u8 0, .int .u8 0, .int .u8 0, .int .u8 0, .int .u8 0, .int .u8 0, .int .u8 0, .int .u8 0, .int .u8 0, .int .u8 0, .int .u8 0, .int .u8 0, .int .u8 0, .int .u8 0, .int .u8 0, .int .u8 0] := rfl
  simp [Instr.buildSlice, Sem.run_bind, run_underlying Tryz.underlying81, Result.andThen_ok, hs, Instr.fill, Value.cells, hl]
  rw [fold_whole (bc y) _ (by rw [hl]; simp)]
  first
    | rfl
    | simp [newRow, Result.andThen]
theorem at_buildS {ops : Array Oper} {rest : List Oper} {o : Oper} {a : Act} {Q : Exit → Act → World → Prop} {w : World} (hgd : o.guard = none) (x : Operand) (ho : o.op = .buildSlice 81 1 #[(0, x)]) (y : List UInt8) (hy : y.length = 32) (hx : a.eval x = .agg (bc y).toArray)
    (h : wpList Tryz.prog ops Q rest (a.put o.dst (.slice (some ⟨w.heap.size, 0, none⟩) 1 1)) (w.alloc (.cells (bc y).toArray 87))) : wpList Tryz.prog ops Q (o :: rest) a w := by
  refine wpList_plain hgd fun K hK => ?_
  have hr := run_buildS y hy w
  unfold Oper.wp execOp
  simp only [ho, List.map_toArray, List.map_cons, List.map_nil, hx]
  rw [Sem.run_bind, hr]
  simp only [Result.andThen, Sem.run_pure]
  exact hK _ _ h
def strLen : Value → Nat
  | .string s => s.size
  | _ => 0
set_option maxRecDepth 100000 in
theorem at_build0 {ops : Array Oper} {rest : List Oper} {o : Oper} {a : Act} {Q : Exit → Act → World → Prop} {w : World} (hgd : o.guard = none) (ho : o.op = .build 87 #[])
    (h : wpList Tryz.prog ops Q rest (a.put o.dst (sv Z32)) w) : wpList Tryz.prog ops Q (o :: rest) a w := by
  refine wpList_plain hgd fun K hK => ?_
  have hr := build87 w
  unfold Oper.wp execOp
  simp only [ho, List.map_toArray, List.map_nil]
  rw [Sem.run_bind, hr]
  simp only [Result.andThen, Sem.run_pure]
  exact hK _ _ h
theorem SB.atv {ops : Array Oper} {rest : List Oper} {o : Oper} {a : Act} {Q : Exit → Act → World → Prop} {w : World} {g : Nat} {s : List UInt8} (h : SB g w s) (hs : s.length = 32) (hgd : o.guard = none) (x : Operand) (ho : o.op = .load 87 x) (hx : a.eval x = .pointer (some ⟨g, 0, none⟩))
    (k : wpList Tryz.prog ops Q rest (a.put o.dst (.agg (bc s).toArray)) w) : wpList Tryz.prog ops Q (o :: rest) a w := h.at hs hgd x ho hx k
set_option maxRecDepth 100000 in
set_option maxHeartbeats 2000000 in
theorem slots_of {p i : Value} {h : List UInt8} {w : World} (z : Nat) (HZ : Hid (z = h.length)) (hl : z ≤ 30000) (l a b c d e f s t : Int)
    (HI : Hid (Calls Tryz.prog 75 #[p, i] w fun e' w' => e' = .returned (.tuple #[.agg #[.int .i64 2, .int .i64 l, .int .i64 (z : Int), .int .i64 a, .int .i64 b, .int .i64 c, .int .i64 d, .int .i64 e, .int .i64 f, .int .i64 s, .int .i64 t], .int .i64 0]) ∧ Below w.heap.size w w'))
    (HR : Hid (∀ W, Below w.heap.size w W → ∀ x : Nat, x < z → Calls Tryz.prog 76 #[p, i, .int .i64 (x : Int), .int .i64 1024] W fun e' w' => e' = .returned (.tuple #[.string (st ((h.drop x).take 1024)), .int .i64 0]) ∧ Below W.heap.size W w')) :
    Calls Tryz.prog 48 #[p, i] w fun e' w' => ∃ v, e' = .returned (.tuple #[v, .int .i64 0]) ∧ LRow w.heap.size w' v (chop h) ∧ Below w.heap.size w w' := by
  go_enter Tryz.func48, Tryz.ntmps48
  go_wp2_with (go_at_call 75; fail)
  refine (HI.out).mono ?_
  rintro e' w1 ⟨rfl, hb1⟩
  have HB1 := hid hb1
  clear hb1
  go_upto_region 2 with fail
  obtain ⟨w2, hw2⟩ : ∃ w2, w2 = w1.alloc (.cells #[.int .i64 2, .int .i64 l, .int .i64 (z : Int), .int .i64 a, .int .i64 b, .int .i64 c, .int .i64 d, .int .i64 e, .int .i64 f, .int .i64 s, .int .i64 t] 36) := ⟨_, rfl⟩
  obtain ⟨g, hg⟩ : ∃ g, g = w1.heap.size := ⟨_, rfl⟩
  have HX2 : Hid (w2.heap[g]? = some (.cells #[.int .i64 2, .int .i64 l, .int .i64 (z : Int), .int .i64 a, .int .i64 b, .int .i64 c, .int .i64 d, .int .i64 e, .int .i64 f, .int .i64 s, .int .i64 t] 36 (0, 0))) := hid (by rw [hw2, hg]; exact box_at _ _)
  have HB2 : Hid (Below w.heap.size w w2) := hid (by rw [hw2]; exact HB1.out.next (below_alloc _ _))
  rw [← hw2, ← hg]
  have c0 : w2.cell? ⟨g, 0, none⟩ = some (.int .i64 2) := by simp [World.cell?, HX2.out]
  have c2 : w2.cell? ⟨g, 2, none⟩ = some (.int .i64 (z : Int)) := by simp [World.cell?, HX2.out]
  have hgl := lt_of_block HX2.out
  clear hw2 hg HI
  go_upto_region 7 with fail
  obtain ⟨w3, hw3⟩ : ∃ w3, w3 = w2.alloc (.cells #[] 87) := ⟨_, rfl⟩
  have HB3 : Hid (Below w2.heap.size w2 w3) := hid (by rw [hw3]; exact below_alloc _ _)
  have HL3 : Hid (LRow w2.heap.size w3 (.slice (some ⟨w2.heap.size, 0, none⟩) 0 0) []) := hid (by rw [hw3]; exact LRow.empty _ _ (Nat.le_refl _))
  rw [← hw3]
  clear hw3 c0 c2
  go_wp2
  go_loopw [8, 9] (fun sl ix wr => ∃ j : Nat, ix = .int .i64 ((1024 * j : Nat) : Int) ∧ 1024 * j ≤ z + 1023 ∧ Hid (LRow w2.heap.size wr sl (chopN (min (32 * j) (z / 32)) h)) ∧ Hid (Below w2.heap.size w2 wr)) (fun _ ix _ => z + 1024 - (intOf ix).toNat)
  case atStart => exact ⟨0, rfl, by omega, by rw [Nat.mul_zero, Nat.zero_min]; exact HL3, HB3⟩
  case round =>
    obtain ⟨j, rfl, hj, HL, HB⟩ := hrel
    rename World => wr
    clear HL3 HB3
    have c2 : wr.cell? ⟨g, 2, none⟩ = some (.int .i64 (z : Int)) := (HB.out.cell (p := ⟨g, 2, none⟩) hgl).trans (by simp [World.cell?, HX2.out])
    have hgr : g < wr.heap.size := Nat.lt_of_lt_of_le hgl HB.out.size
    obtain ⟨x, hx⟩ : ∃ x, x = 1024 * j := ⟨_, rfl⟩
    have HX := hid hx
    rw [← hx] at hj ⊢
    clear hx
    by_cases hlt : x < z
    · have hd1 : decide ((x : Int) < (z : Int)) = true := decide_eq_true (by omega)
      have hmin : Hid (min (32 * j) (z / 32) = 32 * j) := hid (by have := HX.out; omega)
      rw [hmin.out] at HL
      have CR := hid (HR.out wr (HB2.out.trans (HB.out.mono HB2.out.size)) x hlt)
      obtain ⟨D, hD⟩ : ∃ D, D = (h.drop x).take 1024 := ⟨_, rfl⟩
      rw [← hD] at CR
      have HD := hid hD
      have HDL : Hid (D.length = min 1024 (z - x)) := hid (by rw [hD, List.length_take, List.length_drop, HZ.out])
      clear hD
      go_wp2_with (go_at_call 76; fail)
      refine (CR.out).mono ?_
      rintro e' w4 ⟨rfl, hb4⟩
      have HL4 := hid (HL.out.below hb4)
      have HB4 := hid (HB.out.next hb4)
      clear hb4 CR HL HB c2
      go_wp2
      go_loopw [8, 10] (fun sl dv wr => ∃ q : Nat, dv = .string (st (D.drop (32 * q))) ∧ 32 * q ≤ D.length ∧ Hid (LRow w2.heap.size wr sl (chopN (32 * j + q) h)) ∧ Hid (Below w2.heap.size w2 wr)) (fun _ dv _ => strLen dv)
      case atStart => exact ⟨0, rfl, Nat.zero_le _, HL4, HB4⟩
      case round =>
        obtain ⟨q, rfl, hq, HL, HB⟩ := hrel
        rename World => wy
        clear HL4 HB4
        by_cases hq32 : 32 * (q + 1) ≤ D.length
        · have hsz : (st (D.drop (32 * q))).size = D.length - 32 * q := by rw [st_sz, List.length_drop]
          have hge : decide ((32 : Int) ≤ ((st (D.drop (32 * q))).size : Int)) = true := decide_eq_true (by omega)
          have hcut := run_cut32 (st (D.drop (32 * q))) (by omega)
          rw [st_drop, List.drop_drop] at hcut
          have hcp0 := take_st (D.drop (32 * q)) (by rw [List.length_drop]; omega)
          have HY : Hid (((D.drop (32 * q)).take 32).length = 32) := hid (by rw [List.length_take, List.length_drop]; omega)
          have HE : Hid ((D.drop (32 * q)).take 32 = (h.drop ((32 * j + q) * 32)).take 32) := hid (by
            rw [HD.out, HX.out, List.drop_take, List.take_take, List.drop_drop]
            have e1 : 1024 * j + 32 * q = (32 * j + q) * 32 := by omega
            have e2 : min 32 (1024 - 32 * q) = 32 := by have := HDL.out; omega
            rw [e1, e2])
          have HT : Hid (D.drop (32 * q + 32) = D.drop (32 * (q + 1))) := hid (by rw [show 32 * q + 32 = 32 * (q + 1) by omega])
          have HCL : Hid ((chopN (32 * j + q) h).length ≤ 2000000) := hid (by rw [chopN_len]; have := HX.out; have := HDL.out; omega)
          obtain ⟨y, hy⟩ : ∃ y, y = (D.drop (32 * q)).take 32 := ⟨_, rfl⟩
          rw [← hy] at hcp0 HY HE
          obtain ⟨tx, htx⟩ : ∃ tx, tx = st (D.drop (32 * q)) := ⟨_, rfl⟩
          rw [← htx] at hsz hge hcut hcp0 ⊢
          clear hy htx
          have HZB : Hid (SB wy.heap.size (wy.alloc (.cells #[.int .u8 0, .int .u8 0, .int .u8 0, .int .u8 0, .int .u8 0, .int .u8 0, .int .u8 0, .int .u8 0, .int .u8 0, .int .u8 0, .int .u8 0, .int .u8 0, .int .u8 0, .int .u8 0, .int .u8 0, .int .u8 0, .int .u8 0, .int .u8 0, .int .u8 0, .int .u8 0, .int .u8 0, .int .u8 0, .int .u8 0, .int .u8 0, .int .u8 0, .int .u8 0, .int .u8 0, .int .u8 0, .int .u8 0, .int .u8 0, .int .u8 0, .int .u8 0] 87)) Z32) := hid (by unfold SB; rw [zero_cells]; exact box_at _ _)
          have HBA : Hid (Below w2.heap.size w2 (wy.alloc (.cells #[.int .u8 0, .int .u8 0, .int .u8 0, .int .u8 0, .int .u8 0, .int .u8 0, .int .u8 0, .int .u8 0, .int .u8 0, .int .u8 0, .int .u8 0, .int .u8 0, .int .u8 0, .int .u8 0, .int .u8 0, .int .u8 0, .int .u8 0, .int .u8 0, .int .u8 0, .int .u8 0, .int .u8 0, .int .u8 0, .int .u8 0, .int .u8 0, .int .u8 0, .int .u8 0, .int .u8 0, .int .u8 0, .int .u8 0, .int .u8 0, .int .u8 0, .int .u8 0] 87))) := hid (HB.out.next (below_alloc _ _))
          have HLA : Hid (Below wy.heap.size wy (wy.alloc (.cells #[.int .u8 0, .int .u8 0, .int .u8 0, .int .u8 0, .int .u8 0, .int .u8 0, .int .u8 0, .int .u8 0, .int .u8 0, .int .u8 0, .int .u8 0, .int .u8 0, .int .u8 0, .int .u8 0, .int .u8 0, .int .u8 0, .int .u8 0, .int .u8 0, .int .u8 0, .int .u8 0, .int .u8 0, .int .u8 0, .int .u8 0, .int .u8 0, .int .u8 0, .int .u8 0, .int .u8 0, .int .u8 0, .int .u8 0, .int .u8 0, .int .u8 0, .int .u8 0] 87))) := hid (below_alloc _ _)
          go_upto_region 14 with (first
            | (refine at_build0 rfl rfl ?_)
            | ((with_reducible refine SB.at_store HZB.out rfl (show Z32.length = 32 from rfl) ?_ ?_ ?_); rfl; rfl; intro w5 hS5 hK5))
          have HL5 := hid (HL.out.below (hK5 _ _ (Nat.le_refl _) HLA.out))
          have HB5 := hid (hK5 _ _ HB.out.size HBA.out)
          obtain ⟨r, hr⟩ : ∃ r, r = wy.heap.size := ⟨_, rfl⟩
          have HRQ : Hid (wy.heap.size ≤ r ∧ r = wy.heap.size) := hid ⟨by omega, hr⟩
          have HK5 := hid (hK5 _ _ (Nat.le_refl _) HLA.out)
          rw [← hr] at hS5 ⊢
          have HS5 := hid hS5
          have hcp := hS5.copy rfl 0 (by omega) tx 32 3
          have hsl := slice_a r
          have hrl := hS5.lt
          have hS6 := hS5.over (tx.data.toList.take (min tx.size (32 - 0))) 0
          rw [Nat.sub_zero, hcp0, lov_whole y HY.out] at hS6
          rw [Nat.sub_zero, hcp0] at hcp
          have HB6 := hid (below_setCells (show w2.heap.size ≤ r by have := HB.out.size; have := HRQ.out; omega) (bc y) 0 HB5.out)
          have HK6 := hid (below_setCells (show wy.heap.size ≤ r from HRQ.out.1) (bc y) 0 HK5.out)
          obtain ⟨w6, hw6⟩ : ∃ w6, w6 = w5.setCells r 0 (bc y) := ⟨_, rfl⟩
          rw [← hw6] at hcp hS6 HB6 HK6
          have HS6 := hid hS6
          have HL6 := hid (HL.out.below HK6.out)
          obtain ⟨cn, hcn⟩ : ∃ cn, cn = ((min tx.size 32 : Nat) : Int) := ⟨_, rfl⟩
          rw [← hcn] at hcp
          clear hS5 hS6 hK5 hr hcp0 hw6 hcn
          go_upto_region 15 with fail
          have hby : (bc y).length = 32 := by rw [bc_length]; exact HY.out
          go_wp2_with (first
            | (refine SB.atv (g := r) HS6.out HY.out rfl (.tmp 12) rfl rfl ?_)
            | (refine at_buildS rfl (.tmp 49) rfl y HY.out rfl ?_)
            | (at_builtin; refine pushL rfl (.tmp 48) (.tmp 50) rfl w2.heap.size _ u8 (chopN (32 * j + q) h) y rfl rfl rfl HL6.out HY.out HCL.out HB6.out.size ?_; intro sl' w7 hl7 hb7; have HL7 := hid hl7; have HB7 := hid (HB6.out.trans hb7); clear hl7 hb7))
          go_roundw
          case rel => exact ⟨q + 1, by rw [← HT.out], hq32, by rw [show 32 * j + (q + 1) = (32 * j + q) + 1 by omega, chopN_snoc, ← HE.out]; exact HL7, HB7⟩
          case measure => simp only [strLen, st_sz, List.length_drop]; omega
        · have hsz : (st (D.drop (32 * q))).size = D.length - 32 * q := by rw [st_sz, List.length_drop]
          have hge : decide ((32 : Int) ≤ ((st (D.drop (32 * q))).size : Int)) = false := decide_eq_false (by omega)
          have HMN : Hid (min (32 * (j + 1)) (z / 32) = 32 * j + q) := hid (by have := HX.out; have := HDL.out; omega)
          obtain ⟨tx, htx⟩ : ∃ tx, tx = st (D.drop (32 * q)) := ⟨_, rfl⟩
          rw [← htx] at hsz hge ⊢
          clear htx
          go_wp2
          go_roundw
          case rel => exact ⟨j + 1, by rw [HX.out]; go_num, by have := HX.out; omega, by rw [HMN.out]; exact HL, HB⟩
          case measure => have := HX.out; simp [intOf]; omega
    · have hd1 : decide ((x : Int) < (z : Int)) = false := decide_eq_false (by omega)
      have hmin : Hid (min (32 * j) (z / 32) = z / 32) := hid (by have := HX.out; omega)
      rw [hmin.out] at HL
      have HCH : Hid (chop h = chopN (z / 32) h) := hid (by unfold chop; rw [← HZ.out])
      rw [← HCH.out] at HL
      go_wp2
      go_ret2
      exact ⟨_, rfl, HL.out.wide HB2.out.size, HB2.out.trans (HB.out.mono HB2.out.size)⟩
end Go.Proofs.YtokjlgebkihimaaGreat
namespace Go.Proofs.YtokjlgebkihimaaGreat
open Go.RowKit Go.Maps

/-- slotsOf tells these slots, in whatever world behind w -/
def SlotsAt (p i : Value) (w : World) (S : List (List UInt8)) : Prop := ∀ W, Below w.heap.size w W → Calls Tryz.prog 48 #[p, i] W fun e' w' => ∃ v, e' = .returned (.tuple #[v, .int .i64 0]) ∧ LRow W.heap.size w' v S ∧ Below W.heap.size W w'
def NameAt (t : ByteArray) (n : Int) : Prop := ∀ W, Calls Tryz.prog 68 #[.string t] W fun e' w' => e' = .returned (.int .i64 n) ∧ Below W.heap.size W w'
theorem LRow.sl {b : Nat} {w : World} {v : Value} {S : List (List UInt8)} (h : LRow b w v S) : ∃ ao cap, v = .slice ao S.length cap ∧ S.length ≤ cap ∧ cap ≤ maxLen := by
  obtain ⟨_, ao, cap, e, h1, h2, _⟩ := h.lie
  exact ⟨ao, cap, e, h1, h2⟩
set_option maxRecDepth 100000 in
theorem for_ok {p i : Value} {t : ByteArray} {w : World} {S : List (List UInt8)} (HS : SlotsAt p i w S) (HN : NameAt t 0) : Calls Tryz.prog 34 #[p, i, .string t] w fun e' w' => ∃ v, e' = .returned (.tuple #[v, .int .i64 0]) ∧ LRow w.heap.size w' v S ∧ Below w.heap.size w w' := by
  have H1 := hid (HS w (Below.refl _ _))
  have H2 := hid HN
  clear HS HN
  go_enter Tryz.func34, Tryz.ntmps34
  go_wp2_with (first
    | (go_at_call 48; refine (H1.out).mono ?_; rintro e' w1 ⟨v, rfl, hl, hb⟩; have HL := hid hl; have HB := hid hb; clear hl hb)
    | (go_at_call 68; refine (H2.out _).mono ?_; rintro e' w2 ⟨rfl, b2⟩; have HL2 := hid (HL.out.below b2); have HB2 := hid (HB.out.next b2); clear b2))
  go_ret2
  exact ⟨v, rfl, HL2.out, HB2.out⟩
set_option maxRecDepth 100000 in
theorem for_bad {p i : Value} {t : ByteArray} {w : World} {S : List (List UInt8)} {n : Int} (hn : n ≠ 0) (HS : SlotsAt p i w S) (HN : NameAt t n) : Calls Tryz.prog 34 #[p, i, .string t] w fun e' w' => e' = .returned (.tuple #[.slice none 0 0, .int .i64 n]) ∧ Below w.heap.size w w' := by
  have H1 := hid (HS w (Below.refl _ _))
  have H2 := hid HN
  have hnb : (n != 0) = true := by simpa using hn
  clear HS HN hn
  go_enter Tryz.func34, Tryz.ntmps34
  go_wp2_with (first
    | (go_at_call 48; refine (H1.out).mono ?_; rintro e' w1 ⟨v, rfl, hl, hb⟩; have HL := hid hl; have HB := hid hb; clear hl hb)
    | (go_at_call 68; refine (H2.out _).mono ?_; rintro e' w2 ⟨rfl, b2⟩; have HB2 := hid (HB.out.next b2); clear b2))
  go_ret2
  exact ⟨rfl, HB2.out⟩
/-- how many slots are not free -/
def usedN (S : List (List UInt8)) : Nat := (S.filter fun s => !freeB s).length
theorem usedN_snoc (S : List (List UInt8)) (s : List UInt8) : usedN (S ++ [s]) = usedN S + (if freeB s then 0 else 1) := by
  unfold usedN
  rw [List.filter_append, List.length_append]
  cases h : freeB s <;> simp [h]
theorem usedN_le (S : List (List UInt8)) : usedN S ≤ S.length := List.length_filter_le _ _
set_option maxRecDepth 100000 in
set_option maxHeartbeats 1000000 in
theorem count_dir {p i : Value} {w : World} {S : List (List UInt8)} (HS : SlotsAt p i w S) : Calls Tryz.prog 19 #[p, i] w fun e' w' => e' = .returned (.tuple #[.int .i64 (S.length : Int), .int .i64 (usedN S : Int), .int .i64 0]) ∧ Below w.heap.size w w' := by
  have H1 := hid (HS w (Below.refl _ _))
  clear HS
  go_enter Tryz.func19, Tryz.ntmps19
  go_wp2_with (go_at_call 48; fail)
  refine (H1.out).mono ?_
  rintro e' w1 ⟨v, rfl, hl, hb⟩
  have HB := hid hb
  obtain ⟨hall, ao, cap, rfl, h1, h2, h3⟩ := hl.lie
  have HA := hid hall
  have HC := hid h3
  unfold maxLen at h2
  obtain ⟨n, hn⟩ : ∃ n, n = S.length := ⟨_, rfl⟩
  rw [← hn] at h1 ⊢
  have HN := hid hn
  clear hl hb hall h3 hn H1
  go_wp2
  go_loopw [9, 23] (fun uv ix wr => ∃ j : Nat, uv = .int .i64 (usedN (S.take j) : Int) ∧ ix = .int .i64 (j : Int) ∧ j ≤ n ∧ Hid (Below w.heap.size w wr) ∧ Hid (Below w1.heap.size w1 wr)) (fun _ ix _ => n - (intOf ix).toNat)
  case atStart => exact ⟨0, by rw [List.take_zero]; rfl, rfl, Nat.zero_le _, HB, hid (Below.refl _ _)⟩
  case round =>
    obtain ⟨j, rfl, rfl, hj, HW, HX⟩ := hrel
    rename World => wr
    have huj := usedN_le (S.take j)
    rw [List.length_take] at huj
    by_cases hlt : j < n
    · have hj' : j < S.length := by rw [← HN.out]; exact hlt
      obtain ⟨gb, off, ea, hgb, hat⟩ := HC.out j hj'
      subst ea
      have hlen := HA.out _ (List.getElem_mem hj')
      have HAT := hid (fun k (hk : k < (S[j]'hj').length) => (HX.out.cell (p := ⟨gb, off + j * 32 + k, none⟩) hgb).trans (hat k hk))
      have HF := hid (free_slot (S[j]'hj') hlen)
      have HLE := hid hlen
      have HU : Hid (usedN (S.take (j + 1)) = usedN (S.take j) + (if freeB (S[j]'hj') then 0 else 1)) := hid (by
        rw [List.take_add_one, List.getElem?_eq_getElem hj']
        exact usedN_snoc _ _)
      obtain ⟨s, hs⟩ : ∃ s, s = S[j]'hj' := ⟨_, rfl⟩
      rw [← hs] at HAT HF HLE HU
      obtain ⟨u, hu⟩ : ∃ u, u = usedN (S.take j) := ⟨_, rfl⟩
      rw [← hu] at HU huj ⊢
      clear hs hat hlen hu
      have HZB : Hid (SB wr.heap.size (wr.alloc (.cells #[.int .u8 0, .int .u8 0, .int .u8 0, .int .u8 0, .int .u8 0, .int .u8 0, .int .u8 0, .int .u8 0, .int .u8 0, .int .u8 0, .int .u8 0, .int .u8 0, .int .u8 0, .int .u8 0, .int .u8 0, .int .u8 0, .int .u8 0, .int .u8 0, .int .u8 0, .int .u8 0, .int .u8 0, .int .u8 0, .int .u8 0, .int .u8 0, .int .u8 0, .int .u8 0, .int .u8 0, .int .u8 0, .int .u8 0, .int .u8 0, .int .u8 0, .int .u8 0] 87)) Z32) := hid (by unfold SB; rw [zero_cells]; exact box_at _ _)
      have HLA : Hid (Below wr.heap.size wr (wr.alloc (.cells #[.int .u8 0, .int .u8 0, .int .u8 0, .int .u8 0, .int .u8 0, .int .u8 0, .int .u8 0, .int .u8 0, .int .u8 0, .int .u8 0, .int .u8 0, .int .u8 0, .int .u8 0, .int .u8 0, .int .u8 0, .int .u8 0, .int .u8 0, .int .u8 0, .int .u8 0, .int .u8 0, .int .u8 0, .int .u8 0, .int .u8 0, .int .u8 0, .int .u8 0, .int .u8 0, .int .u8 0, .int .u8 0, .int .u8 0, .int .u8 0, .int .u8 0, .int .u8 0] 87))) := hid (below_alloc _ _)
      go_upto_region 8 with (first
        | (refine at_load87 rfl (.tmp 25) rfl gb (off + j * 32) rfl s HLE.out HAT.out ?_)
        | ((with_reducible refine SB.at_store HZB.out rfl HLE.out ?_ ?_ ?_); rfl; rfl; intro w5 hS5 hK5))
      have HK := hid (hK5 _ _ (Nat.le_refl _) HLA.out)
      have HW5 := hid (HW.out.next HK.out)
      have HX5 := hid (HX.out.next HK.out)
      have HS5 := hid hS5
      clear hS5 hK5
      cases hf : decide (ino s = 0) with
      | true =>
        have e2 : Hid (usedN (S.take (j + 1)) = u) := hid (by rw [HU.out]; unfold freeB; rw [hf]; rfl)
        rw [hf] at HF
        go_wp2_with (first
          | (refine SB.at HS5.out HLE.out rfl (.tmp 11) rfl rfl ?_)
          | (go_at_call 37; refine (HF.out _).mono ?_; rintro e' w6 ⟨rfl, b6⟩; have HW6 := hid (HW5.out.next b6); have HX6 := hid (HX5.out.next b6); clear b6))
        go_roundw
        case rel => exact ⟨j + 1, by rw [e2.out], by go_num, by omega, HW6, HX6⟩
        case measure => simp [intOf]; omega
      | false =>
        have e2 : Hid (usedN (S.take (j + 1)) = u + 1) := hid (by rw [HU.out]; unfold freeB; rw [hf]; rfl)
        rw [hf] at HF
        go_wp2_with (first
          | (refine SB.at HS5.out HLE.out rfl (.tmp 11) rfl rfl ?_)
          | (go_at_call 37; refine (HF.out _).mono ?_; rintro e' w6 ⟨rfl, b6⟩; have HW6 := hid (HW5.out.next b6); have HX6 := hid (HX5.out.next b6); clear b6))
        go_roundw
        case rel => exact ⟨j + 1, by rw [e2.out]; go_num, by go_num, by omega, HW6, HX6⟩
        case measure => simp [intOf]; omega
    · have hjn : S.take j = S := by rw [List.take_of_length_le]; rw [← HN.out]; omega
      rw [hjn]
      rw [hjn] at huj
      obtain ⟨u, hu⟩ : ∃ u, u = usedN S := ⟨_, rfl⟩
      rw [← hu]
      have HU := hid hu
      clear hu hjn huj
      go_wp2
      refine bodyPost_ret (v := .tuple #[.int .i64 (n : Int), .int .i64 (u : Int), .int .i64 0]) (by simp [results, Tryz.results19, go_sem]) rfl ⟨?_, HW.out⟩
      rw [HU.out, HN.out]
end Go.Proofs.YtokjlgebkihimaaGreat
