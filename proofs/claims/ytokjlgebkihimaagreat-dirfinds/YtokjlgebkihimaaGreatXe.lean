import Derived.Test.YtokjlgebkihimaaGreatId
import Derived.Laws.BitsAllLaws
import Derived.Laws.IdiomCopy
import Derived.Laws.ResultCell
import Derived.Maps.AppendAt
namespace Go.Proofs.YtokjlgebkihimaaGreat
open Go.RowKit Go.Maps

/-- a slot as a value, and in memory -/
def sv (s : List UInt8) : Value := .agg (bc s).toArray
def SB (q : Nat) (w : World) (s : List UInt8) : Prop := w.heap[q]? = some (.cells (bc s).toArray 87 (0, 0))
def b0 (s : List UInt8) (i : Nat) : Nat := (s.getD i 0).toNat
theorem b0_lt (s : List UInt8) (i : Nat) : b0 s i < 256 := UInt8.toNat_lt _
theorem SB.lt {q : Nat} {w : World} {s : List UInt8} (h : SB q w s) : q < w.heap.size := lt_of_block h
theorem SB.cell {q : Nat} {w : World} {s : List UInt8} (h : SB q w s) (i : Nat) (hi : i < s.length) : w.cell? ⟨q, i, none⟩ = some (.int .u8 (b0 s i : Int)) := by
  unfold SB at h
  simp only [World.cell?, h]
  unfold b0 bc
  simp [hi]
theorem SB.below {q : Nat} {w w' : World} {s : List UInt8} (h : SB q w s) (k : Below w.heap.size w w') : SB q w' s := (k.block q h.lt).trans h
/-- the inode that a slot names; 0: it is free -/
def ino (s : List UInt8) : Nat := b0 s 0 + 256 * b0 s 1
theorem or_two (x y : Nat) (hx : x < 256) (hy : y < 256) : bits BinOp.or IntKind.i64 (x : Int) ((y : Int) * 256) = ((x + 256 * y : Nat) : Int) := by
  have h1 : (BitVec.ofInt 64 (x : Int)).toNat = x := by
    rw [BitVec.ofInt_natCast, BitVec.toNat_ofNat]; exact Nat.mod_eq_of_lt (by omega)
  have h2 : (BitVec.ofInt 64 ((y : Int) * 256)).toNat = y * 256 := by
    rw [show (y : Int) * 256 = ((y * 256 : Nat) : Int) by omega, BitVec.ofInt_natCast, BitVec.toNat_ofNat]; exact Nat.mod_eq_of_lt (by omega)
  have h3 : x ||| y * 256 = x + 256 * y := by
    have := Nat.shiftLeft_add_eq_or_of_lt (b := x) (i := 8) (by omega) y
    rw [Nat.shiftLeft_eq, show (2 : Nat) ^ 8 = 256 from rfl] at this
    rw [Nat.or_comm]
    omega
  show IntKind.i64.wrap ((BitVec.ofInt 64 (x : Int) ||| BitVec.ofInt 64 ((y : Int) * 256)).toNat : Int) = _
  rw [BitVec.toNat_or, h1, h2, h3, IntKind.wrap_i64]
  omega
set_option maxRecDepth 100000 in
theorem inode_slot (s : List UInt8) (hs : s.length = 32) (w : World) : Calls Tryz.prog 47 #[sv s] w fun e w' => e = .returned (.int .i64 (ino s : Int)) ∧ Below w.heap.size w w' := by
  have hB : SB w.heap.size (w.alloc (.cells (bc s).toArray 87)) s := box_at _ _
  have c0 := hB.cell 0 (by omega)
  have c1 := hB.cell 1 (by omega)
  have h0 := b0_lt s 0
  have h1 := b0_lt s 1
  obtain ⟨x, hx⟩ : ∃ x, x = b0 s 0 := ⟨_, rfl⟩
  obtain ⟨y, hy⟩ : ∃ y, y = b0 s 1 := ⟨_, rfl⟩
  have HI : Hid (ino s = x + 256 * y) := hid (by rw [hx, hy]; rfl)
  rw [← hx] at c0 h0
  rw [← hy] at c1 h1
  rw [HI.out]
  clear hx hy hB
  have ho := or_two x y h0 h1
  unfold sv
  go_enter Tryz.func47, Tryz.ntmps47
  go_wp2
  go_ret
  refine ⟨?_, below_alloc _ _⟩
  show Ending.returned (.int .i64 ((x : Int) + 256 * (y : Int))) = _
  rw [Int.natCast_add, Int.natCast_mul]
  rfl
/-- a whole slot is loaded -/
theorem isAgg87 (w : World) : (isAgg 87).run Tryz.prog w = .ok true w := by kernel_rfl
theorem size87 (w : World) : (sizeOf 87).run Tryz.prog w = .ok 32 w := by kernel_rfl
theorem load_row {w : World} {g o : Nat} (s : List UInt8) (hs : s.length = 32) (hc : ∀ i (hi : i < s.length), w.cell? ⟨g, o + i, none⟩ = some (.int .u8 (s[i].toNat : Int))) : (loadVar 87 ⟨g, o, none⟩).run Tryz.prog w = .ok (sv s) w := by
  have hl : (loadCells ⟨g, o, none⟩ (bc s).length).run Tryz.prog w = .ok (bc s).toArray w :=
    run_loadCells_list (P := Tryz.prog) w ⟨g, o, none⟩ (bc s) (fun j v hv => by
      have hadd : (⟨g, o, none⟩ : Addr).add j = ⟨g, o + j, none⟩ := by unfold Addr.add; split <;> simp_all
      rw [hadd]
      have hj : j < s.length := by
        have := (List.getElem?_eq_some_iff.1 hv).1
        simpa [bc] using this
      rw [hc j hj]
      unfold bc at hv
      rw [List.getElem?_map, List.getElem?_eq_getElem hj] at hv
      exact hv)
  have hlen : (bc s).length = 32 := by simp [bc, hs]
  rw [hlen] at hl
  simp [loadVar, Sem.run_bind, hl, sv]
theorem SB.load {q : Nat} {w : World} {s : List UInt8} (h : SB q w s) (hs : s.length = 32) : (Instr.loadAt 87 (.pointer (some ⟨q, 0, none⟩))).run Tryz.prog w = .ok (sv s) w := by
  have := load_row (w := w) (g := q) (o := 0) s hs (fun i hi => by
    rw [Nat.zero_add, h.cell i hi]
    unfold b0
    simp [hi])
  simp only [Instr.loadAt, Instr.sureAddr, Sem.run_bind, Sem.run_pure, Result.andThen_ok, this]
theorem at_load87 {ops : Array Oper} {rest : List Oper} {o : Oper} {a : Act} {Q : Exit → Act → World → Prop} {w : World} (hgd : o.guard = none) (x : Operand) (ho : o.op = .load 87 x) (g n : Nat) (hx : a.eval x = .pointer (some ⟨g, n, none⟩)) (s : List UInt8) (hs : s.length = 32) (hc : ∀ i (hi : i < s.length), w.cell? ⟨g, n + i, none⟩ = some (.int .u8 (s[i].toNat : Int)))
    (h : wpList Tryz.prog ops Q rest (a.put o.dst (sv s)) w) : wpList Tryz.prog ops Q (o :: rest) a w := by
  refine wpList_plain hgd fun K hK => ?_
  have hl := load_row s hs hc
  unfold Oper.wp execOp
  simp only [ho, hx, Instr.loadAt, Instr.sureAddr, Sem.run_bind, Sem.run_pure, Result.andThen_ok, hl]
  exact hK _ _ h
theorem SB.at {ops : Array Oper} {rest : List Oper} {o : Oper} {a : Act} {Q : Exit → Act → World → Prop} {w : World} {g : Nat} {s : List UInt8} (h : SB g w s) (hs : s.length = 32) (hgd : o.guard = none) (x : Operand) (ho : o.op = .load 87 x) (hx : a.eval x = .pointer (some ⟨g, 0, none⟩))
    (k : wpList Tryz.prog ops Q rest (a.put o.dst (sv s)) w) : wpList Tryz.prog ops Q (o :: rest) a w :=
  at_load87 hgd x ho g 0 hx s hs (fun i hi => by
    rw [Nat.zero_add, h.cell i hi]
    unfold b0
    simp [hi]) k
set_option maxRecDepth 100000 in
theorem free_slot (s : List UInt8) (hs : s.length = 32) (w : World) : Calls Tryz.prog 37 #[sv s] w fun e w' => e = .returned (.bool (decide (ino s = 0))) ∧ Below w.heap.size w w' := by
  have HB : Hid (SB w.heap.size (w.alloc (.cells (bc s).toArray 87)) s) := hid (box_at _ _)
  have HI := hid (inode_slot s hs)
  have hE : ((ino s : Int) == 0) = decide (ino s = 0) := by rw [Bool.eq_iff_iff]; simp
  unfold sv
  go_enter Tryz.func37, Tryz.ntmps37
  go_wp2_with (first
    | (refine HB.out.at hs rfl (.tmp 1) rfl rfl ?_)
    | (go_at_call 47; refine (HI.out _).mono ?_; rintro e w1 ⟨rfl, b1⟩; have HB1 := hid ((below_alloc w (.cells (bc s).toArray 87)).next b1); clear b1))
  go_ret
  exact ⟨rfl, HB1.out⟩
set_option maxRecDepth 100000 in
theorem elem87 : Tryz.prog.elem 87 = 5 := by unfold Program.elem; rw [Tryz.underlying87]
set_option maxRecDepth 100000 in
theorem len87 : Tryz.prog.arrayLen 87 = 32 := by unfold Program.arrayLen; rw [Tryz.underlying87]
set_option maxRecDepth 100000 in
theorem under87 : Tryz.prog.underlying 87 = some (.array (Tryz.prog.arrayLen 87) (Tryz.prog.elem 87)) := by rw [elem87, len87]; exact Tryz.underlying87
set_option maxRecDepth 100000 in
theorem size_e87 (w : World) : (sizeOf (Tryz.prog.elem 87)).run Tryz.prog w = .ok 1 w := by rw [elem87]; kernel_rfl
theorem slice_lh (q n : Nat) (hn : n ≤ 24) (w : World) : (Instr.sliceAt 87 (.pointer (some ⟨q, 0, none⟩)) (some (.int .i64 3)) (some (.int .i64 (3 + (n : Int)))) none).run Tryz.prog w = .ok (.slice (some ⟨q, 3, none⟩) n 29) w := by
  have := run_sliceAt_array_lh (P := Tryz.prog) w 87 ⟨q, 0, none⟩ under87 .i64 .i64 3 (3 + (n : Int)) (by omega) (by omega) (by rw [len87]; omega)
  rw [this, size_e87, len87]
  simp only [Result.andThen, slicedAt]
  rw [if_neg (by decide)]
  have e1 : (3 + (n : Int)).toNat - (3 : Int).toNat = n := by omega
  have e2 : (⟨q, 0, none⟩ : Addr).add ((3 : Int).toNat * 1) = ⟨q, 3, none⟩ := by simp [Addr.add]
  rw [e1, e2]
  rfl
theorem slice_l (q : Nat) (w : World) : (Instr.sliceAt 87 (.pointer (some ⟨q, 0, none⟩)) (some (.int .i64 3)) none none).run Tryz.prog w = .ok (.slice (some ⟨q, 3, none⟩) 29 29) w := by
  have := run_sliceAt_array_l (P := Tryz.prog) w 87 ⟨q, 0, none⟩ under87 .i64 3 (by omega) (by rw [len87]; omega)
  rw [this, size_e87, len87]
  simp only [Result.andThen, slicedAt]
  rw [if_neg (by decide)]
  have e2 : (⟨q, 0, none⟩ : Addr).add ((3 : Int).toNat * 1) = ⟨q, 3, none⟩ := by simp [Addr.add]
  rw [e2]
  rfl
theorem slice_a (q : Nat) (w : World) : (Instr.sliceAt 87 (.pointer (some ⟨q, 0, none⟩)) none none none).run Tryz.prog w = .ok (.slice (some ⟨q, 0, none⟩) 32 32) w := by
  have := run_sliceAt_array_all (P := Tryz.prog) w 87 ⟨q, 0, none⟩ under87
  rw [this, size_e87, len87]
  simp only [Result.andThen, slicedAt]
  rw [if_neg (by decide)]
  have e2 : (⟨q, 0, none⟩ : Addr).add (0 * 1) = ⟨q, 0, none⟩ := by simp [Addr.add]
  rw [e2]
/-- bytes in memory, as a text -/
theorem SB.conv {q : Nat} {w : World} {s : List UInt8} (h : SB q w s) (hs : s.length = 32) (o n cap : Nat) (ho : o + n ≤ 32) : (convert 125 9 (.slice (some ⟨q, o, none⟩) n cap)).run Tryz.prog w = .ok (.string (st ((s.drop o).take n))) w := by
  obtain ⟨l, hl⟩ : ∃ l, l = (s.drop o).take n := ⟨_, rfl⟩
  have e : l.length = n := by rw [hl, List.length_take, List.length_drop]; omega
  have hc : ∀ j (hj : j < l.length), w.cell? ⟨q, o + j, none⟩ = some (.int .u8 (l[j].toNat : Int)) := fun j hj => by
    rw [h.cell (o + j) (by omega)]
    subst hl
    unfold b0
    rw [List.getElem_take, List.getElem_drop, List.getD_eq_getElem?_getD, List.getElem?_eq_getElem (by omega)]
    rfl
  rw [← hl, ← strOf_bytes]
  refine run_convert_bytes_arg w 125 5 Tryz.underlying125 Tryz.underlying5 q o n cap _ (by rw [List.length_map]; exact e) (fun j hj => ?_) 9 Tryz.underlying9
  have hj' : j < l.length := by rw [e]; exact hj
  refine (hc j hj').trans ?_
  rw [List.getD_eq_getElem?_getD, List.getElem?_map, List.getElem?_eq_getElem hj']
  rfl
/-- the name of a slot that has one -/
def nam (s : List UInt8) : List UInt8 := (s.drop 3).take (b0 s 2)
def hasN (s : List UInt8) : Bool := !(decide (ino s = 0)) && decide (b0 s 2 ≤ 24)
set_option maxRecDepth 100000 in
theorem name_free (s : List UInt8) (hs : s.length = 32) (hf : ino s = 0) (w : World) : Calls Tryz.prog 49 #[sv s] w fun e w' => e = .returned (.tuple #[.string ⟨#[]⟩, .bool false]) ∧ Below w.heap.size w w' := by
  have HB : Hid (SB w.heap.size (w.alloc (.cells (bc s).toArray 87)) s) := hid (box_at _ _)
  have HF := hid (free_slot s hs)
  have c2 := HB.out.cell 2 (by omega)
  have h2 := b0_lt s 2
  obtain ⟨n, hn⟩ : ∃ n, n = b0 s 2 := ⟨_, rfl⟩
  rw [← hn] at c2 h2
  have HN := hid hn
  clear hn
  obtain ⟨q, hq⟩ : ∃ q, q = w.heap.size := ⟨_, rfl⟩
  obtain ⟨w1, hw1⟩ : ∃ w1, w1 = w.alloc (.cells (bc s).toArray 87) := ⟨_, rfl⟩
  have HW : Hid (Below w.heap.size w w1) := hid (by rw [hw1]; exact below_alloc _ _)
  rw [← hw1, ← hq] at HB c2
  replace hw1 := hid hw1
  replace hq := hid hq
  unfold sv
  go_enter Tryz.func49, Tryz.ntmps49
  go_upto_region 1 with fail
  rw [← hw1.out, ← hq.out]
  clear hw1 hq
  have hd : decide (ino s = 0) = true := decide_eq_true hf
  rw [hd] at HF
  clear hf
  go_wp2_with (first
    | (refine HB.out.at hs rfl (.tmp 1) rfl rfl ?_)
    | (go_at_call 37; refine (HF.out _).mono ?_; rintro e w2 ⟨rfl, b2⟩; have HB2 := hid (HW.out.next b2); clear b2))
  go_ret2
  exact ⟨rfl, HB2.out⟩
set_option maxRecDepth 100000 in
theorem name_long (s : List UInt8) (hs : s.length = 32) (hf : ¬ ino s = 0) (h24 : ¬ b0 s 2 ≤ 24) (w : World) : Calls Tryz.prog 49 #[sv s] w fun e w' => e = .returned (.tuple #[.string ⟨#[]⟩, .bool false]) ∧ Below w.heap.size w w' := by
  have HB : Hid (SB w.heap.size (w.alloc (.cells (bc s).toArray 87)) s) := hid (box_at _ _)
  have HF := hid (free_slot s hs)
  have c2 := HB.out.cell 2 (by omega)
  have h2 := b0_lt s 2
  obtain ⟨n, hn⟩ : ∃ n, n = b0 s 2 := ⟨_, rfl⟩
  rw [← hn] at c2 h2
  have HN := hid hn
  clear hn
  obtain ⟨q, hq⟩ : ∃ q, q = w.heap.size := ⟨_, rfl⟩
  obtain ⟨w1, hw1⟩ : ∃ w1, w1 = w.alloc (.cells (bc s).toArray 87) := ⟨_, rfl⟩
  have HW : Hid (Below w.heap.size w w1) := hid (by rw [hw1]; exact below_alloc _ _)
  rw [← hw1, ← hq] at HB c2
  replace hw1 := hid hw1
  replace hq := hid hq
  unfold sv
  go_enter Tryz.func49, Tryz.ntmps49
  go_upto_region 1 with fail
  rw [← hw1.out, ← hq.out]
  clear hw1 hq
  have hd : decide (ino s = 0) = false := decide_eq_false hf
  rw [hd] at HF
  rw [← HN.out] at h24
  have hg : decide (24 < (n : Int)) = true := decide_eq_true (by omega)
  clear hf
  go_wp2_with (first
    | (refine HB.out.at hs rfl (.tmp 1) rfl rfl ?_)
    | (go_at_call 37; refine (HF.out _).mono ?_; rintro e w2 ⟨rfl, b2⟩; have HB2 := hid (HW.out.next b2); clear b2))
  go_ret2
  exact ⟨rfl, HB2.out⟩
set_option maxRecDepth 100000 in
theorem name_has (s : List UInt8) (hs : s.length = 32) (hf : ¬ ino s = 0) (h24 : b0 s 2 ≤ 24) (w : World) : Calls Tryz.prog 49 #[sv s] w fun e w' => e = .returned (.tuple #[.string (st (nam s)), .bool true]) ∧ Below w.heap.size w w' := by
  have HB : Hid (SB w.heap.size (w.alloc (.cells (bc s).toArray 87)) s) := hid (box_at _ _)
  have HF := hid (free_slot s hs)
  have c2 := HB.out.cell 2 (by omega)
  have h2 := b0_lt s 2
  obtain ⟨n, hn⟩ : ∃ n, n = b0 s 2 := ⟨_, rfl⟩
  rw [← hn] at c2 h2
  have HN := hid hn
  clear hn
  obtain ⟨q, hq⟩ : ∃ q, q = w.heap.size := ⟨_, rfl⟩
  obtain ⟨w1, hw1⟩ : ∃ w1, w1 = w.alloc (.cells (bc s).toArray 87) := ⟨_, rfl⟩
  have HW : Hid (Below w.heap.size w w1) := hid (by rw [hw1]; exact below_alloc _ _)
  rw [← hw1, ← hq] at HB c2
  replace hw1 := hid hw1
  replace hq := hid hq
  unfold sv
  go_enter Tryz.func49, Tryz.ntmps49
  go_upto_region 1 with fail
  rw [← hw1.out, ← hq.out]
  clear hw1 hq
  have hd : decide (ino s = 0) = false := decide_eq_false hf
  rw [hd] at HF
  rw [← HN.out] at h24
  have hg : decide (24 < (n : Int)) = false := decide_eq_false (by omega)
  clear hf
  go_wp2_with (first
    | (refine HB.out.at hs rfl (.tmp 1) rfl rfl ?_)
    | (go_at_call 37; refine (HF.out _).mono ?_; rintro e w2 ⟨rfl, b2⟩; have HB2 := hid (HW.out.next b2); have hX := HB.out.below b2; have hlt := hX.lt; have hcv := hX.conv hs 3 n 29 (by omega); have hsl := slice_lh q n h24; clear b2 hX))
  go_ret2
  refine ⟨?_, HB2.out⟩
  have e : st (nam s) = st ((s.drop 3).take n) := by unfold nam; rw [HN.out]
  rw [e]
  rfl
theorem name_slot (s : List UInt8) (hs : s.length = 32) (w : World) : Calls Tryz.prog 49 #[sv s] w fun e w' => e = .returned (.tuple #[.string (if hasN s then st (nam s) else ⟨#[]⟩), .bool (hasN s)]) ∧ Below w.heap.size w w' := by
  by_cases hf : ino s = 0
  · have hh : hasN s = false := by unfold hasN; rw [decide_eq_true hf]; rfl
    rw [hh]
    exact name_free s hs hf w
  · by_cases h24 : b0 s 2 ≤ 24
    · have hh : hasN s = true := by unfold hasN; rw [decide_eq_false hf, decide_eq_true h24]; rfl
      rw [hh]
      exact name_has s hs hf h24 w
    · have hh : hasN s = false := by unfold hasN; rw [decide_eq_false hf, decide_eq_false h24]; rfl
      rw [hh]
      exact name_long s hs hf h24 w
/-- has a slot this name? -/
def hsN (s : List UInt8) (t : ByteArray) : Bool := hasN s && ((st (nam s)).toList == t.toList)
set_option maxRecDepth 100000 in
theorem has_slot (s : List UInt8) (hs : s.length = 32) (t : ByteArray) (w : World) : Calls Tryz.prog 70 #[sv s, .string t] w fun e w' => e = .returned (.bool (hsN s t)) ∧ Below w.heap.size w w' := by
  have HB : Hid (SB w.heap.size (w.alloc (.cells (bc s).toArray 87)) s) := hid (box_at _ _)
  have HF := hid (name_slot s hs)
  unfold hsN
  cases hh : hasN s with
  | false =>
    rw [hh] at HF
    simp only [Bool.false_eq_true, if_false] at HF
    clear hh
    unfold sv
    go_enter Tryz.func70, Tryz.ntmps70
    go_wp2_with (first
      | (refine HB.out.at hs rfl (.tmp 2) rfl rfl ?_)
      | (go_at_call 49; refine (HF.out _).mono ?_; rintro e w1 ⟨rfl, b1⟩; have HB1 := hid ((below_alloc w (.cells (bc s).toArray 87)).next b1); clear b1))
    go_ret
    exact ⟨rfl, HB1.out⟩
  | true =>
    rw [hh] at HF
    simp only [if_true] at HF
    clear hh
    obtain ⟨u, hu⟩ : ∃ u, u = st (nam s) := ⟨_, rfl⟩
    rw [← hu] at HF ⊢
    clear hu
    unfold sv
    go_enter Tryz.func70, Tryz.ntmps70
    go_wp2_with (first
      | (refine HB.out.at hs rfl (.tmp 2) rfl rfl ?_)
      | (go_at_call 49; refine (HF.out _).mono ?_; rintro e w1 ⟨rfl, b1⟩; have HB1 := hid ((below_alloc w (.cells (bc s).toArray 87)).next b1); clear b1))
    go_ret
    exact ⟨rfl, HB1.out⟩
end Go.Proofs.YtokjlgebkihimaaGreat
namespace Go.Proofs.YtokjlgebkihimaaGreat
open Go.RowKit Go.Maps

/-- bytes laid over a row from a place on -/
def lov : List UInt8 → Nat → List UInt8 → List UInt8
  | l, _, [] => l
  | l, o, b :: bs => lov (l.set o b) (o + 1) bs
theorem lov_len : ∀ (bs l : List UInt8) (o : Nat), (lov l o bs).length = l.length
  | [], _, _ => rfl
  | b :: bs, l, o => by unfold lov; rw [lov_len bs]; simp
theorem SB.set {q : Nat} {w : World} {s : List UInt8} (h : SB q w s) (i : Nat) (b : UInt8) : SB q (w.setCell ⟨q, i, none⟩ (.int .u8 (b.toNat : Int))) (s.set i b) := by
  have hlt := h.lt
  unfold SB at h ⊢
  have h' : w.heap[q] = .cells (bc s).toArray 87 (0, 0) := by simpa [Array.getElem?_eq_getElem hlt] using h
  show (w.heap.modify q _)[q]? = _
  rw [Array.getElem?_eq_getElem (by simpa using hlt), Array.getElem_modify_self, h']
  simp [bc, List.map_set]
theorem SB.over : ∀ (bs : List UInt8) {q : Nat} {w : World} {s : List UInt8} (o : Nat), SB q w s → SB q (w.setCells q o (bc bs)) (lov s o bs)
  | [], _, _, _, _, h => h
  | b :: bs, q, w, s, o, h => by
    show SB q ((w.setCell ⟨q, o, none⟩ (.int .u8 (b.toNat : Int))).setCells q (o + 1) (bc bs)) (lov (s.set o b) (o + 1) bs)
    exact SB.over bs (o + 1) (h.set o b)
theorem below_setCells {B q : Nat} {w0 : World} (hq : B ≤ q) : ∀ (vs : List Value) (o : Nat) {w : World}, Below B w0 w → Below B w0 (w.setCells q o vs)
  | [], _, _, h => h
  | v :: vs, o, _, h => below_setCells hq vs (o + 1) (h.setCell hq v)
theorem size_setCells (q : Nat) : ∀ (vs : List Value) (o : Nat) (w : World), (w.setCells q o vs).heap.size = w.heap.size
  | [], _, _ => rfl
  | v :: vs, o, w => by
    show ((w.setCell ⟨q, o, none⟩ v).setCells q (o + 1) vs).heap.size = _
    rw [size_setCells q vs (o + 1)]
    simp
theorem SB.free {q : Nat} {w : World} {s : List UInt8} (h : SB q w s) (i : Nat) : w.frozen? ⟨q, i, none⟩ = false := by
  unfold SB at h
  simp [World.frozen?, h]
set_option maxRecDepth 100000 in
theorem SB.copy {q : Nat} {w : World} {s : List UInt8} (h : SB q w s) (hs : s.length = 32) (o : Nat) (ho : o ≤ 32) (t : ByteArray) (cap : Nat) (ty : TypeId) :
    (Builtin.copy_ #[125, 9] ty #[.slice (some ⟨q, o, none⟩) (32 - o) cap, .string t]).run Tryz.prog w = .ok (.int .i64 ((min t.size (32 - o) : Nat) : Int)) (w.setCells q o (bc (t.data.toList.take (min t.size (32 - o))))) := by
  obtain ⟨i0, hi, hz0, hz1, hz2⟩ := info_parts Tryz.info5
  have hmin : Nat.min t.size (32 - o) = min t.size (32 - o) := rfl
  have hl : (bc (t.data.toList.take (min t.size (32 - o)))).length = min t.size (32 - o) := by
    have : t.data.toList.length = t.size := len_list t
    unfold bc
    rw [List.length_map, List.length_take]
    omega
  have hst := run_storeCells_cells (P := Tryz.prog) q o (bc (t.data.toList.take (min t.size (32 - o)))) 0 w (fun j hj => by
      rw [hl] at hj
      rw [Nat.add_zero, h.cell (o + j) (by omega)]
      rfl) (fun j hj => h.free _) (by
      intro v hv
      obtain ⟨x, _, rfl⟩ := List.mem_map.1 hv
      rfl)
  have e : List.take (min t.size (32 - o)) (List.map (fun x : UInt8 => Value.int .u8 (x.toNat : Int)) t.data.toList) = bc (t.data.toList.take (min t.size (32 - o))) := by
    unfold bc
    rw [List.map_take]
  simp [Builtin.copy_, run_underlying Tryz.underlying125, Builtin.lenOf, Builtin.firstCells, sizeOf, typeInfo, hi, hmin]
  rw [e, hst]
  simp [Result.andThen, goInt]
theorem bc_length (s : List UInt8) : (bc s).length = s.length := by unfold bc; rw [List.length_map]
theorem sc_one (s : List UInt8) : ∀ v ∈ bc s, v.oneCell' = true := by
  intro v hv
  obtain ⟨x, _, rfl⟩ := List.mem_map.1 hv
  rfl
set_option maxRecDepth 100000 in
/-- a whole slot is stored -/
theorem SB.store {q : Nat} {w : World} {s u : List UInt8} (h : SB q w s) (hs : s.length = 32) (hu : u.length = 32) : ∃ w', (Instr.storeAt 87 (.pointer (some ⟨q, 0, none⟩)) (sv u)).run Tryz.prog w = .ok () w' ∧ SB q w' u ∧ ∀ B w0, B ≤ q → Below B w0 w → Below B w0 w' := by
  have hlen : (bc u).length = 32 := by rw [bc_length]; exact hu
  have hls : (bc s).length = 32 := by rw [bc_length]; exact hs
  have hst := run_storeCells_at Tryz.prog q 0 87 (bc u) 0 _ w h (by simp [hlen, hls]) (sc_one u)
  simp only [List.take_zero, List.nil_append, Nat.zero_add] at hst
  rw [List.drop_of_length_le (by simp [hlen, hls]), List.append_nil] at hst
  refine ⟨w.setRow q (bc u).toArray, ?_, ?_, ?_⟩
  rotate_left
  · exact setRow_heap w q _ (bc u).toArray 87 (0, 0) h
  · intro B w0 hB k
    refine k.trans ⟨rfl, rfl, rfl, ?_, fun j hj => ?_⟩
    · show w.heap.size ≤ (w.heap.modify q _).size
      rw [Array.size_modify]
      exact Nat.le_refl _
    · show (w.heap.modify q _)[j]? = _
      rw [Array.getElem?_modify, if_neg (fun e => by omega)]
  · have z := size87 w
    have h2 : (Instr.sureAddr (.pointer (some ⟨q, 0, none⟩))).run Tryz.prog w = .ok ⟨q, 0, none⟩ w := by simp [Instr.sureAddr]
    have hcs : (Value.agg (bc u).toArray).cells.size = 32 := by simp [Value.cells, hlen]
    unfold sv
    simp only [Instr.storeAt, Sem.run_bind, h2, Result.andThen_ok, storeVar, z, hcs, ne_eq, not_true_eq_false, if_false]
    simpa [Value.cells] using hst
theorem SB.at_store {ops : Array Oper} {rest : List Oper} {p x : Operand} {ty : TypeId} {pos : String} {aft : Array Edge} {a : Act} {Q : Exit → Act → World → Prop} {w : World} {q : Nat} {s u : List UInt8} (h : SB q w s) (hs : s.length = 32) (hu : u.length = 32) (hp : a.eval p = .pointer (some ⟨q, 0, none⟩)) (hx : a.eval x = sv u)
    (hK : ∀ w', SB q w' u → (∀ B w0, B ≤ q → Below B w0 w → Below B w0 w') → wpList Tryz.prog ops Q rest a w') :
    wpList Tryz.prog ops Q ({ dst := none, op := Op.store 87 p x, type := ty, pos := pos, after := aft, guard := none } :: rest) a w := by
  refine wpList_plain rfl fun K' hK' => ?_
  obtain ⟨w', hrun, r1, r2⟩ := h.store hs hu
  unfold Oper.wp
  simp [execOp, hp, hx, hrun, Result.andThen]
  exact hK' a w' (hK w' r1 r2)
/-- the slot of a name and an inode -/
def Z32 : List UInt8 := List.replicate 32 0
def beg (a c : Nat) : List UInt8 := [UInt8.ofNat a, 0, UInt8.ofNat c] ++ List.replicate 29 0
def newS (t : ByteArray) (n : Nat) : List UInt8 := lov (beg n t.size) 3 (t.data.toList.take (min t.size 29))
theorem newS_len (t : ByteArray) (n : Nat) : (newS t n).length = 32 := by unfold newS; rw [lov_len]; rfl
set_option maxRecDepth 100000 in
theorem zero_cells : (bc Z32).toArray = #[.int .u8 0, .int .u8 0, .int .u8 0, .int .u8 0, .int .u8 0, .int .u8 0, .int .u8 0, .int .u8 0, .int .u8 0, .int .u8 0, .int .u8 0, .int .u8 0, .int .u8 0, .int .u8 0, .int .u8 0, .int .u8 0, .int .u8 0, .int .u8 0, .int .u8 0, .int .u8 0, .int .u8 0, .int .u8 0, .int .u8 0, .int .u8 0, .int .u8 0, .int .u8 0, .int .u8 0, .int .u8 0, .int .u8 0, .int .u8 0, .int .u8 0, .int .u8 0] := rfl
set_option maxRecDepth 100000 in
theorem beg_cells (a c : Nat) (ha : a < 256) (hc : c < 256) : (bc (beg a c)).toArray = #[.int .u8 (a : Int), .int .u8 0, .int .u8 (c : Int), .int .u8 0, .int .u8 0, .int .u8 0, .int .u8 0, .int .u8 0, .int .u8 0, .int .u8 0, .int .u8 0, .int .u8 0, .int .u8 0, .int .u8 0, .int .u8 0, .int .u8 0, .int .u8 0, .int .u8 0, .int .u8 0, .int .u8 0, .int .u8 0, .int .u8 0, .int .u8 0, .int .u8 0, .int .u8 0, .int .u8 0, .int .u8 0, .int .u8 0, .int .u8 0, .int .u8 0, .int .u8 0, .int .u8 0] := by
  have e1 : (UInt8.ofNat a).toNat = a := UInt8.toNat_ofNat_of_lt' ha
  have e2 : (UInt8.ofNat c).toNat = c := UInt8.toNat_ofNat_of_lt' hc
  have e : (bc (beg a c)).toArray = #[.int .u8 ((UInt8.ofNat a).toNat : Int), .int .u8 0, .int .u8 ((UInt8.ofNat c).toNat : Int), .int .u8 0, .int .u8 0, .int .u8 0, .int .u8 0, .int .u8 0, .int .u8 0, .int .u8 0, .int .u8 0, .int .u8 0, .int .u8 0, .int .u8 0, .int .u8 0, .int .u8 0, .int .u8 0, .int .u8 0, .int .u8 0, .int .u8 0, .int .u8 0, .int .u8 0, .int .u8 0, .int .u8 0, .int .u8 0, .int .u8 0, .int .u8 0, .int .u8 0, .int .u8 0, .int .u8 0, .int .u8 0, .int .u8 0] := rfl
  rw [e, e1, e2]
set_option maxRecDepth 100000 in
theorem run_build3 (a c : Int) (w : World) : (Instr.build 87 #[(0, .int .u8 a), (1, .int .u8 0), (2, .int .u8 c)]).run Tryz.prog w = .ok (.agg #[.int .u8 a, .int .u8 0, .int .u8 c, .int .u8 0, .int .u8 0, .int .u8 0, .int .u8 0, .int .u8 0, .int .u8 0, .int .u8 0, .int .u8 0, .int .u8 0, .int .u8 0, .int .u8 0, .int .u8 0, .int .u8 0, .int .u8 0, .int .u8 0, .int .u8 0, .int .u8 0, .int .u8 0, .int .u8 0, .int .u8 0, .int .u8 0, .int .u8 0, .int .u8 0, .int .u8 0, .int .u8 0, .int .u8 0, .int .u8 0, .int .u8 0, .int .u8 0]) w := by kernel_rfl
set_option maxRecDepth 100000 in
theorem at_build3 {ops : Array Oper} {rest : List Oper} {o : Oper} {a : Act} {Q : Exit → Act → World → Prop} {w : World} (hgd : o.guard = none) (x y z : Operand) (ho : o.op = .build 87 #[(0, x), (1, y), (2, z)]) (n c : Nat) (hn : n < 256) (hc : c < 256) (hx : a.eval x = .int .u8 (n : Int)) (hy : a.eval y = .int .u8 0) (hz : a.eval z = .int .u8 (c : Int))
    (h : wpList Tryz.prog ops Q rest (a.put o.dst (sv (beg n c))) w) : wpList Tryz.prog ops Q (o :: rest) a w := by
  refine wpList_plain hgd fun K hK => ?_
  have hr := run_build3 (n : Int) (c : Int) w
  have e : sv (beg n c) = .agg #[.int .u8 (n : Int), .int .u8 0, .int .u8 (c : Int), .int .u8 0, .int .u8 0, .int .u8 0, .int .u8 0, .int .u8 0, .int .u8 0, .int .u8 0, .int .u8 0, .int .u8 0, .int .u8 0, .int .u8 0, .int .u8 0, .int .u8 0, .int .u8 0, .int .u8 0, .int .u8 0, .int .u8 0, .int .u8 0, .int .u8 0, .int .u8 0, .int .u8 0, .int .u8 0, .int .u8 0, .int .u8 0, .int .u8 0, .int .u8 0, .int .u8 0, .int .u8 0, .int .u8 0] := by unfold sv; rw [beg_cells n c hn hc]
  rw [← e] at hr
  unfold Oper.wp execOp
  simp only [ho, List.map_toArray, List.map_cons, List.map_nil, hx, hy, hz]
  rw [Sem.run_bind, hr]
  simp only [Result.andThen, Sem.run_pure]
  exact hK _ _ h
theorem ret39 {a : Act} {w : World} {R : Nat} {s : List UInt8} {post : Ending → World → Prop} (hb : SB R w s) (hs : s.length = 32) (h2 : a.tmps.getD 4 undef = .pointer (some ⟨R, 0, none⟩)) (hd : a.defers = []) (hp : post (.returned (sv s)) w) : bodyPost Tryz.prog Tryz.f39 post .ret a w := by
  refine bodyPost_ret (v := sv s) ?_ hd hp
  have hl := load_row (w := w) (g := R) (o := 0) s hs (fun i hi => by
    rw [Nat.zero_add, hb.cell i hi]
    unfold b0
    simp [hi])
  rw [Array.getD_eq_getD_getElem?] at h2
  simp [results, Tryz.results39, h2, asAddr, hl]
set_option maxRecDepth 100000 in
set_option maxHeartbeats 1000000 in
theorem new_slot (t : ByteArray) (n : Nat) (hn : n < 64) (ht : t.size ≤ 24) (w : World) : Calls Tryz.prog 39 #[.string t, .int .i64 (n : Int)] w fun e w' => e = .returned (sv (newS t n)) ∧ Below w.heap.size w w' := by
  have h1 : IntKind.u8.wrap (n : Int) = (n : Int) := by rw [IntKind.wrap_u8]; omega
  have h2 : (n : Int) / 256 = 0 := by omega
  have h3 : IntKind.u8.wrap (t.size : Int) = (t.size : Int) := by rw [IntKind.wrap_u8]; omega
  go_enter Tryz.func39, Tryz.ntmps39
  go_upto_region 1 with fail
  obtain ⟨w1, hw1⟩ : ∃ w1, w1 = w.alloc (.cells #[.int .u8 0, .int .u8 0, .int .u8 0, .int .u8 0, .int .u8 0, .int .u8 0, .int .u8 0, .int .u8 0, .int .u8 0, .int .u8 0, .int .u8 0, .int .u8 0, .int .u8 0, .int .u8 0, .int .u8 0, .int .u8 0, .int .u8 0, .int .u8 0, .int .u8 0, .int .u8 0, .int .u8 0, .int .u8 0, .int .u8 0, .int .u8 0, .int .u8 0, .int .u8 0, .int .u8 0, .int .u8 0, .int .u8 0, .int .u8 0, .int .u8 0, .int .u8 0] 87) := ⟨_, rfl⟩
  obtain ⟨q, hq⟩ : ∃ q, q = w.heap.size := ⟨_, rfl⟩
  have HB1 : Hid (Below w.heap.size w w1) := hid (by rw [hw1]; exact below_alloc _ _)
  have HS1 : Hid (SB q w1 Z32) := hid (by unfold SB; rw [hw1, hq, zero_cells]; exact box_at _ _)
  rw [← hw1, ← hq]
  have HQ := hid hq
  clear hw1 hq
  obtain ⟨r, hr⟩ : ∃ r, r = w1.heap.size := ⟨_, rfl⟩
  have HZ : Hid (SB r (w1.alloc (.cells #[.int .u8 0, .int .u8 0, .int .u8 0, .int .u8 0, .int .u8 0, .int .u8 0, .int .u8 0, .int .u8 0, .int .u8 0, .int .u8 0, .int .u8 0, .int .u8 0, .int .u8 0, .int .u8 0, .int .u8 0, .int .u8 0, .int .u8 0, .int .u8 0, .int .u8 0, .int .u8 0, .int .u8 0, .int .u8 0, .int .u8 0, .int .u8 0, .int .u8 0, .int .u8 0, .int .u8 0, .int .u8 0, .int .u8 0, .int .u8 0, .int .u8 0, .int .u8 0] 87)) Z32) := hid (by unfold SB; rw [hr, zero_cells]; exact box_at _ _)
  have HR : Hid (q < r ∧ r = w1.heap.size) := hid ⟨by have := HS1.out.lt; omega, hr⟩
  go_upto_region 2 with (first
    | (refine at_build3 rfl (.tmp 7) (.tmp 10) (.tmp 13) rfl n t.size (by omega) (by omega) rfl rfl rfl ?_)
    | ((with_reducible refine SB.at_store (by rw [HR.out.2] at HZ; exact HZ.out) rfl (show (beg n t.size).length = 32 from rfl) ?_ ?_ ?_); rfl; rfl; intro w2 hS2 hK2))
  rw [← hr]
  rw [← hr] at hS2
  have HB2 : Hid (Below w1.heap.size w1 w2) := hid (hK2 _ _ (Nat.le_refl _) (below_alloc _ _))
  clear hr hK2
  have HS2 := hid hS2
  have hcp := hS2.copy rfl 3 (by omega) t 29 3
  have hsl := slice_l r
  have hrl := hS2.lt
  have HS3 := hid (hS2.over (t.data.toList.take (min t.size 29)) 3)
  obtain ⟨w3, hw3⟩ : ∃ w3, w3 = w2.setCells r 3 (bc (t.data.toList.take (min t.size 29))) := ⟨_, rfl⟩
  have HB3 : Hid (Below w1.heap.size w1 w3) := hid (by rw [hw3]; exact below_setCells (by have := HR.out.2; omega) _ _ HB2.out)
  rw [← hw3] at HS3
  rw [show 32 - 3 = 29 from rfl, ← hw3] at hcp
  clear hw3 hS2
  obtain ⟨cn, hcn⟩ : ∃ cn, cn = ((min t.size 29 : Nat) : Int) := ⟨_, rfl⟩
  rw [← hcn] at hcp
  have HS1b := hid (HS1.out.below HB3.out)
  clear hcn h1 h2 h3
  go_upto_region 3 with fail
  go_wp2_with (first
    | (refine SB.at (g := r) HS3.out (newS_len t n) rfl (.tmp 5) rfl rfl ?_)
    | ((with_reducible refine SB.at_store HS1b.out rfl (newS_len t n) ?_ ?_ ?_); rfl; rfl; intro w4 hs4 hk4))
  refine ret39 hs4 (newS_len t n) rfl rfl ⟨rfl, hk4 _ _ (by have := HQ.out; omega) (HB1.out.next HB3.out)⟩
end Go.Proofs.YtokjlgebkihimaaGreat
namespace Go.Proofs.YtokjlgebkihimaaGreat
open Go.RowKit Go.Maps

/-- a slice that reads as slots -/
def LLie (w : World) (v : Value) (S : List (List UInt8)) : Prop :=
  (∀ s ∈ S, s.length = 32) ∧ ∃ ao cap, v = .slice ao S.length cap ∧ S.length ≤ cap ∧ cap ≤ maxLen ∧ ∀ i (hi : i < S.length), ∃ gb off, ao = some ⟨gb, off, none⟩ ∧ gb < w.heap.size ∧ ∀ k (hk : k < S[i].length), w.cell? ⟨gb, off + i * 32 + k, none⟩ = some (.int .u8 (S[i][k].toNat : Int))
theorem LLie.below {w w' : World} {v : Value} {S : List (List UInt8)} (h : LLie w v S) (k : Below w.heap.size w w') : LLie w' v S := by
  obtain ⟨h0, ao, cap, e, h1, h2, h3⟩ := h
  refine ⟨h0, ao, cap, e, h1, h2, fun i hi => ?_⟩
  obtain ⟨gb, off, e1, hg, c0⟩ := h3 i hi
  exact ⟨gb, off, e1, Nat.lt_of_lt_of_le hg k.size, fun j hj => (k.cell (p := ⟨gb, off + i * 32 + j, none⟩) hg).trans (c0 j hj)⟩
/-- the first slot of a kind, or -1 -/
def fst1 (p : List UInt8 → Bool) (S : List (List UInt8)) : Int := match S.findIdx? p with
  | some i => (i : Int)
  | none => -1
theorem fst_at {p : List UInt8 → Bool} {S : List (List UInt8)} {i : Nat} (hi : i < S.length) (h0 : ∀ j (hj : j < S.length), j < i → p S[j] = false) (h1 : p S[i] = true) : fst1 p S = (i : Int) := by
  have : S.findIdx? p = some i := by
    rw [List.findIdx?_eq_some_iff_getElem]
    exact ⟨hi, h1, fun j hj => by rw [h0 j (by omega) hj]; decide⟩
  unfold fst1
  rw [this]
theorem fst_no {p : List UInt8 → Bool} {S : List (List UInt8)} (h0 : ∀ j (hj : j < S.length), p S[j] = false) : fst1 p S = -1 := by
  have : S.findIdx? p = none := by
    rw [List.findIdx?_eq_none_iff]
    intro x hx
    obtain ⟨j, hj, rfl⟩ := List.getElem_of_mem hx
    exact h0 j hj
  unfold fst1
  rw [this]
def freeB (s : List UInt8) : Bool := decide (ino s = 0)
set_option maxRecDepth 100000 in
set_option maxHeartbeats 1000000 in
theorem index_free {v : Value} {S : List (List UInt8)} {w : World} (h : LLie w v S) : Calls Tryz.prog 36 #[v, .func (.func 37) #[] #[]] w fun e w' => e = .returned (.int .i64 (fst1 freeB S)) ∧ Below w.heap.size w w' := by
  obtain ⟨hall, ao, cap, rfl, h1, h2, h3⟩ := h
  have HA := hid hall
  have HC := hid h3
  unfold maxLen at h2
  obtain ⟨n, hn⟩ : ∃ n, n = S.length := ⟨_, rfl⟩
  rw [← hn] at h1 ⊢
  have HN := hid hn
  clear hall h3 hn
  go_enter Tryz.func36, Tryz.ntmps36
  go_wp2
  go_loopw [8] (fun i wr => ∃ j : Nat, i = .int .i64 j ∧ j ≤ n ∧ Hid (∀ i (hi : i < S.length), i < j → freeB S[i] = false) ∧ Hid (Below w.heap.size w wr)) (fun i _ => n - (intOf i).toNat)
  case atStart => exact ⟨0, rfl, Nat.zero_le _, hid (fun i _ h => by omega), hid (Below.refl _ _)⟩
  case round =>
    obtain ⟨j, rfl, hj, H0, HB⟩ := hrel
    rename World => wr
    by_cases hlt : j < n
    · have hj' : j < S.length := by rw [← HN.out]; exact hlt
      obtain ⟨gb, off, ea, hgb, hat⟩ := HC.out j hj'
      subst ea
      have hlen := HA.out _ (List.getElem_mem hj')
      have HAT := hid (fun k (hk : k < (S[j]'hj').length) => (HB.out.cell (p := ⟨gb, off + j * 32 + k, none⟩) hgb).trans (hat k hk))
      have HF := hid (free_slot (S[j]'hj') hlen)
      have HLE := hid hlen
      have H1 : Hid (freeB (S[j]'hj') = true → fst1 freeB S = (j : Int)) := hid (fst_at hj' H0.out)
      have H2 : Hid (freeB (S[j]'hj') = false → ∀ i (hi : i < S.length), i < j + 1 → freeB S[i] = false) := hid (fun h i hi hij => by
        by_cases e : i = j
        · subst e; exact h
        · exact H0.out i hi (by omega))
      obtain ⟨s, hs⟩ : ∃ s, s = S[j]'hj' := ⟨_, rfl⟩
      rw [← hs] at HAT HF HLE H1 H2
      clear hs hat hlen
      cases hf : decide (ino s = 0) with
      | true =>
        have e1 := H1.out hf
        rw [hf] at HF
        go_wp2_with (first
          | (refine at_load87 rfl (.tmp 14) rfl gb (off + j * 32) rfl s HLE.out HAT.out ?_)
          | (go_at_call 37; refine (HF.out _).mono ?_; rintro e w2 ⟨rfl, b2⟩; have HB2 := hid (HB.out.next b2); clear b2))
        go_ret
        exact ⟨by rw [e1]; rfl, HB2.out⟩
      | false =>
        have e2 := hid (H2.out hf)
        rw [hf] at HF
        go_wp2_with (first
          | (refine at_load87 rfl (.tmp 14) rfl gb (off + j * 32) rfl s HLE.out HAT.out ?_)
          | (go_at_call 37; refine (HF.out _).mono ?_; rintro e w2 ⟨rfl, b2⟩; have HB2 := hid (HB.out.next b2); clear b2))
        go_roundw
        case rel => exact ⟨j + 1, by go_num, by omega, e2, HB2⟩
        case measure => simp [intOf]; omega
    · have e1 : fst1 freeB S = -1 := fst_no (fun i hi => H0.out i hi (by have := HN.out; omega))
      have HE := hid e1
      clear e1
      go_wp2
      go_ret
      exact ⟨by rw [HE.out]; rfl, HB.out⟩
end Go.Proofs.YtokjlgebkihimaaGreat
namespace Go.Proofs.YtokjlgebkihimaaGreat
open Go.RowKit Go.Maps

/-- the name that the closure has caught -/
def CB (g : Nat) (w : World) (t : ByteArray) : Prop := w.heap[g]? = some (.cells #[.string t] 9 (0, 0))
theorem CB.below {g : Nat} {w w' : World} {t : ByteArray} (h : CB g w t) (k : Below w.heap.size w w') : CB g w' t := (k.block g (lt_of_block h)).trans h
set_option maxRecDepth 100000 in
theorem clo_has (s : List UInt8) (hs : s.length = 32) (t : ByteArray) {g : Nat} (w : World) (hg : CB g w t) : Calls Tryz.prog 69 #[sv s, .pointer (some ⟨g, 0, none⟩)] w fun e w' => e = .returned (.bool (hsN s t)) ∧ Below w.heap.size w w' := by
  have HB : Hid (SB w.heap.size (w.alloc (.cells (bc s).toArray 87)) s) := hid (box_at _ _)
  have HH := hid (has_slot s hs t)
  have hg2 := hg.below (below_alloc w (.cells (bc s).toArray 87))
  have cg : (w.alloc (.cells (bc s).toArray 87)).cell? ⟨g, 0, none⟩ = some (.string t) := by
    unfold CB at hg2
    simp [World.cell?, hg2]
  have hgl := lt_of_block hg2
  clear hg hg2
  unfold sv
  go_enter Tryz.func69, Tryz.ntmps69
  go_wp2_with (first
    | (refine HB.out.at hs rfl (.tmp 2) rfl rfl ?_)
    | (go_at_call 70; refine (HH.out _).mono ?_; rintro e w1 ⟨rfl, b1⟩; have HB1 := hid ((below_alloc w (.cells (bc s).toArray 87)).next b1); clear b1))
  go_ret
  exact ⟨rfl, HB1.out⟩
set_option maxRecDepth 100000 in
set_option maxHeartbeats 1000000 in
theorem index_has (t : ByteArray) {g : Nat} {v : Value} {S : List (List UInt8)} {w : World} (h : LLie w v S) (hg : CB g w t) : Calls Tryz.prog 36 #[v, .func (.func 69) #[] #[.pointer (some ⟨g, 0, none⟩)]] w fun e w' => e = .returned (.int .i64 (fst1 (hsN · t) S)) ∧ Below w.heap.size w w' := by
  obtain ⟨hall, ao, cap, rfl, h1, h2, h3⟩ := h
  have HG := hid hg
  have HA := hid hall
  have HC := hid h3
  unfold maxLen at h2
  obtain ⟨n, hn⟩ : ∃ n, n = S.length := ⟨_, rfl⟩
  rw [← hn] at h1 ⊢
  have HN := hid hn
  clear hall h3 hn
  go_enter Tryz.func36, Tryz.ntmps36
  go_wp2
  go_loopw [8] (fun i wr => ∃ j : Nat, i = .int .i64 j ∧ j ≤ n ∧ Hid (∀ i (hi : i < S.length), i < j → hsN S[i] t = false) ∧ Hid (Below w.heap.size w wr)) (fun i _ => n - (intOf i).toNat)
  case atStart => exact ⟨0, rfl, Nat.zero_le _, hid (fun i _ h => by omega), hid (Below.refl _ _)⟩
  case round =>
    obtain ⟨j, rfl, hj, H0, HB⟩ := hrel
    rename World => wr
    by_cases hlt : j < n
    · have hj' : j < S.length := by rw [← HN.out]; exact hlt
      obtain ⟨gb, off, ea, hgb, hat⟩ := HC.out j hj'
      subst ea
      have hlen := HA.out _ (List.getElem_mem hj')
      have HAT := hid (fun k (hk : k < (S[j]'hj').length) => (HB.out.cell (p := ⟨gb, off + j * 32 + k, none⟩) hgb).trans (hat k hk))
      have HF := hid (clo_has (S[j]'hj') hlen t (g := g))
      have HLE := hid hlen
      have H1 : Hid (hsN (S[j]'hj') t = true → fst1 (hsN · t) S = (j : Int)) := hid (fst_at (p := fun x => hsN x t) hj' H0.out)
      have H2 : Hid (hsN (S[j]'hj') t = false → ∀ i (hi : i < S.length), i < j + 1 → hsN S[i] t = false) := hid (fun h i hi hij => by
        by_cases e : i = j
        · subst e; exact h
        · exact H0.out i hi (by omega))
      obtain ⟨s, hs⟩ : ∃ s, s = S[j]'hj' := ⟨_, rfl⟩
      rw [← hs] at HAT HF HLE H1 H2
      clear hs hat hlen
      cases hf : hsN s t with
      | true =>
        have e1 := H1.out hf
        rw [hf] at HF
        go_wp2_with (first
          | (refine at_load87 rfl (.tmp 14) rfl gb (off + j * 32) rfl s HLE.out HAT.out ?_)
          | (go_at_call 69; refine (HF.out _ (by exact HG.out.below HB.out)).mono ?_; rintro e w2 ⟨rfl, b2⟩; have HB2 := hid (HB.out.next b2); clear b2))
        go_ret
        exact ⟨by rw [e1]; rfl, HB2.out⟩
      | false =>
        have e2 := hid (H2.out hf)
        rw [hf] at HF
        go_wp2_with (first
          | (refine at_load87 rfl (.tmp 14) rfl gb (off + j * 32) rfl s HLE.out HAT.out ?_)
          | (go_at_call 69; refine (HF.out _ (by exact HG.out.below HB.out)).mono ?_; rintro e w2 ⟨rfl, b2⟩; have HB2 := hid (HB.out.next b2); clear b2))
        go_roundw
        case rel => exact ⟨j + 1, by go_num, by omega, e2, HB2⟩
        case measure => simp [intOf]; omega
    · have e1 : fst1 (hsN · t) S = -1 := fst_no (p := fun x => hsN x t) (fun i hi => H0.out i hi (by have := HN.out; omega))
      have HE := hid e1
      clear e1
      go_wp2
      go_ret
      exact ⟨by rw [HE.out]; rfl, HB.out⟩
set_option maxRecDepth 100000 in
theorem first_of (t : ByteArray) {v : Value} {S : List (List UInt8)} {w : World} (h : LLie w v S) : Calls Tryz.prog 35 #[v, .string t] w fun e w' => e = .returned (.int .i64 (fst1 (hsN · t) S)) ∧ Below w.heap.size w w' := by
  have hC : CB w.heap.size (w.alloc (.cells #[.string t] 9)) t := box_at _ _
  have HI := hid (index_has t (h.below (below_alloc w (.cells #[.string t] 9))) hC)
  obtain ⟨_, ao, cap, rfl, _⟩ := h
  obtain ⟨n, hn⟩ : ∃ n, n = S.length := ⟨_, rfl⟩
  rw [← hn] at HI ⊢
  clear hn hC
  go_enter Tryz.func35, Tryz.ntmps35
  go_wp2_with (first
    | (go_at_call 36; refine (HI.out).mono ?_; rintro e w1 ⟨rfl, b1⟩; have HB1 := hid ((below_alloc w (.cells #[.string t] 9)).next b1); clear b1))
  go_ret
  exact ⟨rfl, HB1.out⟩
end Go.Proofs.YtokjlgebkihimaaGreat
namespace Go.Proofs.YtokjlgebkihimaaGreat
open Go.RowKit Go.Maps

/-- bytes cut into slots -/
def chopN : Nat → List UInt8 → List (List UInt8)
  | 0, _ => []
  | n + 1, h => h.take 32 :: chopN n (h.drop 32)
def chop (h : List UInt8) : List (List UInt8) := chopN (h.length / 32) h
theorem chopN_len : ∀ (n : Nat) (h : List UInt8), (chopN n h).length = n
  | 0, _ => rfl
  | n + 1, h => by rw [chopN, List.length_cons, chopN_len n]
theorem chopN_all : ∀ (n : Nat) (h : List UInt8), n * 32 ≤ h.length → ∀ s ∈ chopN n h, s.length = 32
  | 0, _, _, s, hs => by cases hs
  | n + 1, h, hl, s, hs => by
    rw [chopN, List.mem_cons] at hs
    rcases hs with rfl | hs
    · rw [List.length_take]; omega
    · exact chopN_all n (h.drop 32) (by rw [List.length_drop]; omega) s hs
theorem chopN_snoc : ∀ (n : Nat) (h : List UInt8), chopN (n + 1) h = chopN n h ++ [(h.drop (n * 32)).take 32]
  | 0, h => by simp [chopN]
  | n + 1, h => by
    rw [chopN, chopN_snoc n (h.drop 32), chopN, List.cons_append, List.drop_drop]
    congr 5
    omega
/-- a row of slots of the call's own -/
def LRow (base : Nat) (w : World) (v : Value) (S : List (List UInt8)) : Prop := (∀ s ∈ S, s.length = 32) ∧ w.ownsRow base 87 32 v S.length (S.flatMap bc)
theorem LRow.empty (base : Nat) (w : World) (hb : base ≤ w.heap.size) : LRow base (w.alloc (.cells #[] 87)) (.slice (some ⟨w.heap.size, 0, none⟩) 0 0) [] :=
  ⟨(fun s h => by cases h), rfl, .inr ⟨w.heap.size, 0, #[], rfl, hb, box_at _ _, Nat.le_refl _, by decide, rfl, rfl⟩⟩
theorem LRow.below {base : Nat} {w w' : World} {v : Value} {S : List (List UInt8)} (h : LRow base w v S) (k : Below w.heap.size w w') : LRow base w' v S := by
  obtain ⟨h0, e1, e2 | ⟨x, cap, cur, e3, e4, e5, e6⟩⟩ := h
  · exact ⟨h0, e1, .inl e2⟩
  · exact ⟨h0, e1, .inr ⟨x, cap, cur, e3, e4, (k.block x (lt_of_block e5)).trans e5, e6⟩⟩
theorem fl_len (S : List (List UInt8)) (h : ∀ s ∈ S, s.length = 32) : (S.flatMap bc).length = S.length * 32 := by
  induction S with
  | nil => rfl
  | cons s S ih =>
    rw [List.flatMap_cons, List.length_append, ih (fun x hx => h x (List.mem_cons_of_mem _ hx)), List.length_cons]
    have : (bc s).length = 32 := by rw [bc_length]; exact h s (List.mem_cons_self ..)
    omega
theorem fl_get : ∀ (S : List (List UInt8)) (_ : ∀ s ∈ S, s.length = 32) (i k : Nat) (hi : i < S.length) (hk : k < S[i].length), (S.flatMap bc)[i * 32 + k]? = some (.int .u8 (S[i][k].toNat : Int))
  | s :: S, h, 0, k, hi, hk => by
    have hs : (bc s).length = s.length := bc_length s
    rw [List.flatMap_cons, Nat.zero_mul, Nat.zero_add, List.getElem?_append_left (by rw [hs]; exact hk)]
    unfold bc
    have hk' : k < s.length := hk
    rw [List.getElem?_map, List.getElem?_eq_getElem hk']
    rfl
  | s :: S, h, i + 1, k, hi, hk => by
    have hs : (bc s).length = 32 := by rw [bc_length]; exact h s (List.mem_cons_self ..)
    have ih := fl_get S (fun x hx => h x (List.mem_cons_of_mem _ hx)) i k (by simpa using hi) hk
    rw [List.flatMap_cons, List.getElem?_append_right (by rw [hs]; omega), hs, show (i + 1) * 32 + k - 32 = i * 32 + k by omega]
    exact ih
theorem LRow.lie {base : Nat} {w : World} {v : Value} {S : List (List UInt8)} (h : LRow base w v S) : LLie w v S := by
  obtain ⟨h0, hr⟩ := h
  have hh := hr
  obtain ⟨e1, ⟨rfl, hz⟩ | ⟨x, cap, cur, rfl, e4, e5, r1, r2, r3⟩⟩ := hr
  · have : S = [] := List.eq_nil_of_length_eq_zero hz
    subst this
    exact ⟨h0, none, 0, rfl, Nat.le_refl _, by decide, fun i hi => by simp at hi⟩
  · refine ⟨h0, _, cap, rfl, r1, r2, fun i hi => ⟨x, 0, rfl, lt_of_block e5, fun k hk => ?_⟩⟩
    have hk2 := h0 _ (List.getElem_mem hi)
    rw [Nat.zero_add, World.ownsRow.cellAt hh (i * 32 + k) (by omega)]
    exact fl_get S h0 i k hi hk
theorem Tryz.infoR87 : (Tryz.prog.info? 87).map (fun i => (i.zero, i.size, i.bytes)) = some (some (sv Z32), 32, 32) := by kernel_rfl
theorem pushL {ops : Array Oper} {rest : List Oper} {o : Oper} {a : Act} {Q : Exit → Act → World → Prop} {w0 : World} (hgd : o.guard = none) (s x : Operand)
    (ho : o.op = .call { callee := .builtin .append, args := #[s, x], argTypes := #[81, 81] }) (B1 bb : Nat) (v : Value) (S : List (List UInt8)) (y : List UInt8)
    (hs : a.eval s = v) (hx : a.eval x = .slice (some ⟨bb, 0, none⟩) 1 1) (hbb : bb = w0.heap.size) (hA : LRow B1 w0 v S) (hy : y.length = 32) (hn : S.length ≤ 2000000) (hbase : B1 ≤ w0.heap.size)
    (h : ∀ v' w', LRow B1 w' v' (S ++ [y]) → Below B1 w0 w' → wpList Tryz.prog ops Q rest (a.put o.dst v') w') :
    wpList Tryz.prog ops Q (o :: rest) a (w0.alloc (.cells (bc y).toArray 87)) := by
  subst hbb
  obtain ⟨i0, hi, hz0, hz1, hz2⟩ := info_parts Tryz.infoR87
  have hl : (bc y).length = 32 := by rw [bc_length]; exact hy
  have ho2 : ∀ x, v.ownBlock = some x → B1 ≤ x := by
    obtain ⟨_, e1, ⟨rfl, _⟩ | ⟨x, cap, cur, rfl, e4, e5, e6⟩⟩ := hA
    · intro x hx; cases hx
    · intro y hy; cases hy; exact e4
  refine wpList_append_own_at _ hgd s x 81 ho B1 87 i0 (sv Z32) 32 32 Tryz.underlying81 hi hz0 hz1 hz2 rfl (by decide) v S.length (S.flatMap bc) hs (World.ownsRow.alloc hA.2 _) ⟨w0.heap.size, 0, none⟩ 1 1 (bc y) hx (by rw [hl]) (by
      intro j u hu
      have hadd : (⟨w0.heap.size, 0, none⟩ : Addr).add j = ⟨w0.heap.size, j, none⟩ := by unfold Addr.add; split <;> simp_all
      rw [hadd, World.cell?_alloc_at _ _ _ _ rfl, List.getElem?_toArray]
      exact hu) (sc_one y) (by unfold maxLen; omega) (by omega) (by simp; omega) ?_
  intro v' w' hown hg _ _
  refine h v' w' ⟨fun s hs => ?_, ?_⟩ ?_
  · rcases List.mem_append.1 hs with h1 | h1
    · exact hA.1 s h1
    · rw [List.mem_singleton] at h1; rw [h1]; exact hy
  · rw [List.flatMap_append, List.length_append]
    simpa using hown
  · refine (below_alloc w0 (.cells (bc y).toArray 87)).mono hbase |>.trans ⟨hg.os, hg.tape, hg.output, hg.size, fun k hk => hg.block k ?_ ?_⟩
    · simp; omega
    · intro e
      have := ho2 k e.symm
      omega
end Go.Proofs.YtokjlgebkihimaaGreat
