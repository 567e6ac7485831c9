import Derived.Test.YtfjoajcfpldniaaCo
import Derived.Laws.BytesArg
namespace Go.Proofs.Ytfjoajcfpldniaa
open Go.RowKit Go.Maps

/-- bytes as cells, as a string -/
def bc (bs : List UInt8) : List Value := bs.map fun b => Value.int .u8 (b.toNat : Int)
def st (bs : List UInt8) : ByteArray := ⟨bs.toArray⟩
theorem st_size (bs : List UInt8) : (st bs).size = bs.length := by simp [st, ByteArray.size]
theorem strOf_bytes (bs : List UInt8) : strOfNums (bs.map fun b => (b.toNat : Int)) = st bs := by
  unfold strOfNums st; congr 1; simp [Function.comp_def]
/-- a block of bytes, as cells -/
def CIs (g : Nat) (w : World) (l : List UInt8) : Prop := w.heap[g]? = some (.cells (bc l).toArray 5 (0, 0))
theorem CIs.get {g : Nat} {w : World} {l : List UInt8} (h : CIs g w l) (j : Nat) (hj : j < l.length) : w.cell? ⟨g, j, none⟩ = some (.int .u8 ((l[j]).toNat : Int)) := by
  unfold CIs at h
  simp [World.cell?, h, bc, hj]
theorem CIs.free {g : Nat} {w : World} {l : List UInt8} (h : CIs g w l) (j : Nat) : w.frozen? ⟨g, j, none⟩ = false := by
  unfold CIs at h
  simp [World.frozen?, h]
theorem CIs.set {g : Nat} {w : World} {l : List UInt8} (h : CIs g w l) (j : Nat) (b : UInt8) (x : Int) (hx : x = (b.toNat : Int)) : CIs g (w.setCell ⟨g, j, none⟩ (.int .u8 x)) (l.set j b) := by
  unfold CIs at *
  have hlt := lt_of_block h
  have h' : w.heap[g] = .cells (bc l).toArray 5 (0, 0) := by simpa [Array.getElem?_eq_getElem hlt] using h
  subst hx
  show (w.heap.modify g _)[g]? = _
  rw [Array.getElem?_eq_getElem (by simpa using hlt), Array.getElem_modify_self, h']
  simp [bc, List.map_set]
theorem CIs.conv {g : Nat} {w : World} {l : List UInt8} (h : CIs g w l) (cap : Nat) : (convert 82 9 (.slice (some ⟨g, 0, none⟩) l.length cap)).run Try.prog w = .ok (.string (st l)) w := by
  rw [← strOf_bytes]
  refine run_convert_bytes_arg w 82 5 Try.underlying82 Try.underlying5 g 0 l.length cap _ (by simp) (fun i hi => ?_) 9 Try.underlying9
  have hi' : i < l.length := by simpa using hi
  rw [Nat.zero_add, h.get i hi']
  simp [List.getElem?_eq_getElem hi']
theorem Try.infoB5 : (Try.prog.info? 5).map (fun i => (i.zero, i.size, i.bytes)) = some (some (.int .u8 0), 1, 1) := by kernel_rfl
theorem made128 : madeCells (Value.int .u8 0).cells 128 = (bc (List.replicate 128 0)).toArray := by kernel_rfl
theorem mk128 (w : World) : (Instr.makeSlice 82 (.int .i64 128) (.int .i64 128)).run Try.prog w = .ok (.slice (some ⟨w.heap.size, 0, none⟩) 128 128) (w.alloc (.cells (bc (List.replicate 128 0)).toArray 5)) := by
  obtain ⟨i0, hi, hz0, hz1, hz2⟩ := info_parts Try.infoB5
  have := run_makeSlice (P := Try.prog) w 82 5 i0 (.int .u8 0) Try.underlying82 hi hz0 .i64 .i64 128 128 (by decide) (by decide) (by rw [hz1]; decide) (by rw [hz2]; decide) (by decide)
  rw [hz1] at this
  have e : (128 : Int).toNat * 1 = 128 := rfl
  rw [e, made128] at this
  exact this
theorem CIs.made (w : World) (l : List UInt8) : CIs w.heap.size (w.alloc (.cells (bc l).toArray 5)) l := box_at _ _
/-- a block of one byte -/
def B1 (c : UInt8) : ByteArray := st (List.replicate 128 c)
theorem rep_set (c : UInt8) (j : Nat) (h : j < 128) : (List.replicate j c ++ List.replicate (128 - j) 0).set j c = List.replicate (j + 1) c ++ List.replicate (128 - (j + 1)) 0 := by
  rw [List.set_append_right _ _ (by simp)]
  simp only [List.length_replicate, Nat.sub_self]
  rw [show 128 - j = (128 - (j + 1)) + 1 by omega, List.replicate_succ, List.set_cons_zero, List.replicate_succ', List.append_assoc]
  rfl
set_option maxRecDepth 100000 in
set_option maxHeartbeats 1000000 in
theorem blockC_any (c : UInt8) (w : World) : Calls Try.prog 24 #[.int .u8 (c.toNat : Int)] w fun e w' => e = .returned (.string (B1 c)) ∧ Below w.heap.size w w' := by
  have hmk := mk128 w
  obtain ⟨wm, hwm⟩ : ∃ wm, wm = w.alloc (.cells (bc (List.replicate 128 0)).toArray 5) := ⟨_, rfl⟩
  have hC : CIs w.heap.size wm (List.replicate 128 0) := by rw [hwm]; exact CIs.made w _
  have hB : Below w.heap.size w wm := by rw [hwm]; exact below_alloc w _
  rw [← hwm] at hmk
  clear hwm
  go_enter Try.func24, Try.ntmps24
  go_wp2
  go_loopw [8] (fun i wr => ∃ j : Nat, i = .int .i64 j ∧ j ≤ 128 ∧ CIs w.heap.size wr (List.replicate j c ++ List.replicate (128 - j) 0) ∧ Below w.heap.size w wr) (fun i _ => 128 - (intOf i).toNat)
  case atStart => exact ⟨0, rfl, by decide, hC, hB⟩
  case round =>
    obtain ⟨j, rfl, hj, hC2, hB2⟩ := hrel
    have HC := hid hC2
    have HB := hid hB2
    clear hC2 hB2 hC hB hmk
    by_cases hlt : j < 128
    · have hlen : (List.replicate j c ++ List.replicate (128 - j) 0).length = 128 := by simp; omega
      have hcell := HC.out.get j (by rw [hlen]; exact hlt)
      have hfree := HC.out.free j
      have HC2 := hid (HC.out.set j c _ rfl)
      rw [rep_set c j hlt] at HC2
      obtain ⟨x, hx⟩ : ∃ x, x = ((List.replicate j c ++ List.replicate (128 - j) 0)[j]'(by rw [hlen]; exact hlt)) := ⟨_, rfl⟩
      rw [← hx] at hcell
      clear hx hlen
      go_wp2
      go_roundw
      case rel => exact ⟨j + 1, by go_num, by omega, HC2.out, HB.out.setCell (Nat.le_refl _) _⟩
      case measure => simp [intOf]; omega
    · have hj2 : j = 128 := by omega
      subst hj2
      have hcv := HC.out.conv 128
      have hl2 : (List.replicate 128 c ++ List.replicate (128 - 128) (0 : UInt8)).length = 128 := by simp
      rw [hl2] at hcv
      clear hl2
      have e : st (List.replicate 128 c ++ List.replicate (128 - 128) 0) = B1 c := by unfold B1; simp
      rw [e] at hcv
      obtain ⟨Bc, hBc⟩ : ∃ b, b = B1 c := ⟨_, rfl⟩
      rw [← hBc] at hcv
      have HBc := hid hBc
      clear hBc e
      go_wp2
      go_ret
      exact ⟨by rw [← HBc.out]; rfl, HB.out⟩
/-- a block of one letter, by its number -/
def Bi (n : Int) : ByteArray := B1 (UInt8.ofNat n.toNat)
theorem Bi_size (n : Int) : (Bi n).size = 128 := by unfold Bi B1; rw [st_size]; simp
theorem block_bi (n : Int) (h0 : 0 ≤ n) (h1 : n < 256) (w : World) : Calls Try.prog 24 #[.int .u8 n] w fun e w' => e = .returned (.string (Bi n)) ∧ Below w.heap.size w w' := by
  have := blockC_any (UInt8.ofNat n.toNat) w
  rw [show (((UInt8.ofNat n.toNat).toNat : Nat) : Int) = n by rw [UInt8.toNat_ofNat']; omega] at this
  exact this
/-- a block that is held: its number, pins, whether it is dirty, its content -/
structure Fm where
  b : Int
  p : Int
  y : Bool
  d : ByteArray
def fm (f : Fr) : Fm := ⟨f.b, f.p, f.y, f.d⟩
/-- a cache, as the list of the blocks that it holds, the one used the longest time ago first -/
def CC (B g : Nat) (w : World) (N J : Nat) (P : List Fm) : Prop := ∃ m L U, CS B g m w N J L U ∧ P = L.map fm
/-- nothing of another kind than a cache's memory has changed -/
structure OC (w w' : World) : Prop where
  os : w'.os = w.os
  tape : w'.tape = w.tape
  output : w'.output = w.output
  size : w.heap.size ≤ w'.heap.size
  block : ∀ (k : Nat) (cs : Array Value) (t : TypeId), w.heap[k]? = some (Obj.cells cs t (0, 0)) → t ≠ 57 → t ≠ 73 → w'.heap[k]? = w.heap[k]?
theorem OC.refl (w : World) : OC w w := ⟨rfl, rfl, rfl, Nat.le_refl _, fun _ _ _ _ _ _ => rfl⟩
theorem OC.of_below {w w' : World} (h : Below w.heap.size w w') : OC w w' := ⟨h.os, h.tape, h.output, h.size, fun k _ _ hk _ _ => h.block k (lt_of_block hk)⟩
theorem OC.trans {w w1 w2 : World} (h : OC w w1) (k : OC w1 w2) : OC w w2 :=
  ⟨k.os.trans h.os, k.tape.trans h.tape, k.output.trans h.output, Nat.le_trans h.size k.size, fun x cs t hx h1 h2 => (k.block x cs t ((h.block x cs t hx h1 h2).trans hx) h1 h2).trans (h.block x cs t hx h1 h2)⟩
theorem ILie.oc {w w' : World} {v : Value} {l : List Int} (h : ILie w v l) (k : OC w w') : ILie w' v l := by
  obtain ⟨ao, cap, e, h1, h2, h3⟩ := h
  refine ⟨ao, cap, e, h1, h2, fun i hi => ?_⟩
  obtain ⟨gb, off, cur, e, hg, c⟩ := h3 i hi
  exact ⟨gb, off, cur, e, (k.block gb _ _ hg (by decide) (by decide)).trans hg, c⟩
theorem CLie.oc {w w' : World} {v : Value} {l : List Chg} (h : CLie w v l) (k : OC w w') : CLie w' v l := by
  obtain ⟨ao, cap, e, h1, h2, h3⟩ := h
  refine ⟨ao, cap, e, h1, h2, fun i hi => ?_⟩
  obtain ⟨gb, off, cur, e, hg, c⟩ := h3 i hi
  exact ⟨gb, off, cur, e, (k.block gb _ _ hg (by decide) (by decide)).trans hg, c⟩
theorem CS.oc {B g m N J U : Nat} {L : List Fr} {w w' : World} (h : CS B g m w N J L U) (k : Only (fpC g m L) w w') : OC w w' :=
  ⟨k.os, k.tape, k.output, k.size, fun x _ _ hx h1 h2 => k.block x (lt_of_block hx) (h.apart hx h1 h2)⟩
section
variable {B g : Nat} {w w' : World} {N J : Nat} {P : List Fm}
theorem CC.below (h : CC B g w N J P) (k : Below w.heap.size w w') : CC B g w' N J P := by
  obtain ⟨m, L, U, h, e⟩ := h
  exact ⟨m, L, U, h.below k, e⟩
theorem CC.more {J' : Nat} (h : CC B g w N J P) (hj : J ≤ J') (hj2 : J' ≤ 90000) : CC B g w N J' P := by
  obtain ⟨m, L, U, h, e⟩ := h
  exact ⟨m, L, U, h.more hj hj2, e⟩
theorem CC.j1 (h : CC B g w N J P) : J ≤ 90000 := by obtain ⟨m, L, U, h, e⟩ := h; exact h.j1
theorem CC.lo (h : CC B g w N J P) : B ≤ g ∧ g < w.heap.size := by obtain ⟨m, L, U, h, e⟩ := h; exact ⟨h.b1, h.glt⟩
theorem CC.nd (h : CC B g w N J P) : (P.map (·.b)).Nodup := by
  obtain ⟨m, L, U, h, rfl⟩ := h
  have := h.bnd
  rw [List.map_map]
  exact this
theorem CC.len (h : CC B g w N J P) : P.length ≤ N ∧ 1 ≤ N ∧ N ≤ 64 := by
  obtain ⟨m, L, U, h, rfl⟩ := h
  have := h.len
  have := h.n1
  rw [List.length_map]
  omega
theorem CC.rt (h : CC B g w N J P) : ∀ f ∈ P, (0 ≤ f.b ∧ f.b < 1024) ∧ f.d.size = 128 ∧ 0 ≤ f.p ∧ f.p ≤ J := by
  obtain ⟨m, L, U, h, rfl⟩ := h
  intro f hf
  obtain ⟨x, hx, rfl⟩ := List.mem_map.1 hf
  exact h.rt x hx
end
def findP (P : List Fm) (k : Int) : Option Fm := P.find? (fun x => x.b == k)
def dropP (P : List Fm) (k : Int) : List Fm := P.filter (fun x => x.b != k)
def setP (P : List Fm) (f : Fm) : List Fm := P.map (fun x => if x.b == f.b then f else x)
def idleP (f : Fm) : Bool := f.p == 0 && !f.y
theorem find_fm (L : List Fr) (k : Int) : findP (L.map fm) k = (findF L k).map fm := by
  unfold findP findF
  rw [List.find?_map]
  rfl
theorem drop_fm (L : List Fr) (k : Int) : dropP (L.map fm) k = (dropL L k).map fm := by
  unfold dropP dropL
  rw [List.filter_map]
  rfl
theorem set_fm (L : List Fr) (f : Fr) : setP (L.map fm) (fm f) = (setL L f).map fm := by
  unfold setP setL
  rw [List.map_map, List.map_map]
  apply List.map_congr_left
  intro x _
  show (if x.b == f.b then fm f else fm x) = fm (if x.b == f.b then f else x)
  split <;> rfl
theorem idle_fm (L : List Fr) : (L.map fm).find? idleP = (L.find? idleF).map fm := by
  rw [List.find?_map]
  rfl
/-- what Load answers, and the cache behind it -/
def loadR (N : Nat) (P : List Fm) (k : Int) (d : ByteArray) : Int × Int × List Fm :=
  if isB k d = false then (0, 1, P) else
  match findP P k with
  | some _ => (0, 7, P)
  | none => if P.length < N then (-1, 0, P ++ [⟨k, 0, false, d⟩]) else
    match P.find? idleP with
    | none => (0, 5, P)
    | some f => (f.b, 0, dropP P f.b ++ [⟨k, 0, false, d⟩])
def lookR (P : List Fm) (k : Int) : ByteArray × Bool × List Fm :=
  match findP P k with
  | none => (⟨#[]⟩, false, P)
  | some f => (f.d, true, dropP P k ++ [f])
def storeR (P : List Fm) (k : Int) (d : ByteArray) : Int × List Fm :=
  if isB k d = false then (1, P) else
  match findP P k with
  | none => (6, P)
  | some f => (0, dropP P k ++ [{ f with d := d, y := true }])
def pinR (P : List Fm) (k : Int) : Int × List Fm :=
  match findP P k with
  | none => (6, P)
  | some f => (0, setP P { f with p := f.p + 1 })
def unpinR (P : List Fm) (k : Int) : Int × List Fm :=
  match findP P k with
  | none => (6, P)
  | some f => if f.p = 0 then (7, P) else (0, setP P { f with p := f.p - 1 })
def dirtyP (P : List Fm) : List Fm := (P.mergeSort (fun x y => decide (x.b ≤ y.b))).filter (·.y)
def clearP (P S : List Fm) : List Fm := P.map (fun x => if S.any (fun s => s.b == x.b) then { x with y := false } else x)
def chP (f : Fm) : Chg := ⟨f.b, f.d⟩
theorem dirty_fm (L : List Fr) : dirtyP (L.map fm) = (dirtyL L).map fm := by
  unfold dirtyP dirtyL sortB
  rw [← List.map_mergeSort (r := fun x y => decide (x.b ≤ y.b)) (s := fun x y => decide (x.b ≤ y.b)) (f := fm) (fun _ _ _ _ => rfl), List.filter_map]
  rfl
theorem clear_fm (L S : List Fr) : clearP (L.map fm) (S.map fm) = (clearL L S).map fm := by
  unfold clearP clearL
  rw [List.map_map, List.map_map]
  apply List.map_congr_left
  intro x _
  show (if (S.map fm).any (fun s => s.b == x.b) then _ else _) = fm (if S.any (fun s => s.b == x.b) then _ else _)
  rw [List.any_map]
  show (if S.any (fun s => s.b == x.b) then _ else _) = _
  split <;> rfl
end Go.Proofs.Ytfjoajcfpldniaa
