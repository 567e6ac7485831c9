import Derived.Test.YtglhibmfbbbdiaaRows
import Derived.RowKit
import Derived.OpenShut
import Derived.Lib.AppendStr
import Derived.Lib.Strings
import Derived.OneCell
import Derived.Below
import Derived.Deep.Draws
import Derived.WalkKit
import Derived.ProofKit
import Derived.WalkSpells
import Derived.WalkSmall
import Derived.Deep.QuietTactic
import Derived.BigQuiet
import Derived.Laws.BytesArg
import Derived.Deep.RegionWith
import Derived.Deep.RegionLaw
import Derived.Deep.DeepCutAuto
import Derived.Deep.DeepFit
import Derived.Deep.CutBlock
import Derived.Laws.Bits64
namespace Go.Proofs.Ytglhibmfbbbdiaa
open Go.RowKit

/-- bytes as cells, as a string -/
def bc (bs : List UInt8) : List Value := bs.map fun b => Value.int .u8 (b.toNat : Int)
def st (bs : List UInt8) : ByteArray := ⟨bs.toArray⟩
theorem bc_append (a b : List UInt8) : bc (a ++ b) = bc a ++ bc b := by simp [bc]
theorem bc_len (a : List UInt8) : (bc a).length = a.length := by simp [bc]
theorem st_toList (s : ByteArray) : st s.data.toList = s := by simp [st]
theorem st_list (bs : List UInt8) : (st bs).data.toList = bs := by simp [st]
theorem st_size (bs : List UInt8) : (st bs).size = bs.length := by simp [st, ByteArray.size]
theorem ret_int {k : IntKind} {a b : Int} (h : a = b) : Ending.returned (.int k a) = .returned (.int k b) := by rw [h]
theorem strOf_bytes (bs : List UInt8) : strOfNums (bs.map fun b => (b.toNat : Int)) = st bs := by
  unfold strOfNums st; congr 1; simp [Function.comp_def]
theorem conv_own {base : Nat} {v : Value} {bs : List UInt8} {w : World} (h : w.ownsRow base 5 1 v bs.length (bc bs)) : (convert 60 9 v).run Try.prog w = .ok (.string (st bs)) w := by
  have hh := h
  obtain ⟨e1, ⟨rfl, e2⟩ | ⟨b, cap, cur, rfl, e3, e4, e5⟩⟩ := h
  · rw [run_convert_bytes_nil w 60 5 Try.underlying60 Try.underlying5 0 0 9 Try.underlying9]
    have : bs = [] := List.eq_nil_of_length_eq_zero e2
    subst this; rfl
  · rw [← strOf_bytes]
    refine run_convert_bytes_arg w 60 5 Try.underlying60 Try.underlying5 b 0 bs.length cap _ (by simp) (fun i hi => ?_) 9 Try.underlying9
    rw [Nat.zero_add, hh.cellAt i (by omega)]
    simp [bc, hi]
theorem take_snoc (s : ByteArray) (k : Nat) (h : k < s.size) : s.data.toList.take (k + 1) = s.data.toList.take k ++ [s[k]] := by
  rw [List.take_succ_eq_append_getElem (by simpa using h)]; rfl
theorem drop_cons (s : ByteArray) (k : Nat) (h : k < s.size) : s.data.toList.drop k = s[k] :: s.data.toList.drop (k + 1) := by
  rw [List.drop_eq_getElem_cons (by simpa using h)]; rfl
theorem ret_two {k l : IntKind} {a b c d : Int} (h : a = b) (h' : c = d) : Ending.returned (.tuple #[.int k a, .int l c]) = .returned (.tuple #[.int k b, .int l d]) := by rw [h, h']
theorem below_alloc (w : World) (o : Obj) : Below w.heap.size w (w.alloc o) := (Below.refl _ _).alloc (Nat.le_refl _) o
theorem len_list (s : ByteArray) : s.data.toList.length = s.size := by rw [Array.length_toList]; rfl
theorem hid {p : Prop} (h : p) : Hid p := h
theorem ext_list (s : ByteArray) (a b : Nat) : (s.extract a b).data.toList = (s.data.toList.take b).drop a := by
  simp [ByteArray.data_extract, List.drop_take]
theorem ext_head (s : ByteArray) (n : Nat) : (s.extract 0 n).data.toList = s.data.toList.take n := by rw [ext_list]; rfl
theorem ext_szh (s : ByteArray) (n : Nat) (h : n ≤ s.size) : (s.extract 0 n).size = n := by
  rw [← len_list, ext_head, List.length_take, len_list]; omega
theorem str_ne {a b : ByteArray} (h : ¬ a = b) : (a.toList == b.toList) = false := by
  rw [Lib.toList_data, Lib.toList_data]
  simp only [beq_eq_false_iff_ne, ne_eq]
  intro hh
  exact h (by rw [← st_toList a, ← st_toList b, hh])
theorem below_drewN {B : Nat} {w w' : World} (h : Below B w w') (n : Nat) : Below B w (w'.drewN n) := ⟨h.os, h.tape, h.output, h.size, h.block⟩
theorem _root_.Go.RowKit.Below.next {w w1 w2 : World} (a : Below w.heap.size w w1) (b : Below w1.heap.size w1 w2) : Below w.heap.size w w2 := a.trans (b.mono a.size)
/-- bytes in a row of the call's own, from its first place on -/
def BIs (g : Nat) (w : World) (l : List UInt8) : Prop := ∃ cur fz, w.heap[g]? = some (.cells cur 5 fz) ∧ l.length ≤ fz.1 ∧ cur.toList.take l.length = bc l
theorem BIs.get {g : Nat} {w : World} {l : List UInt8} (h : BIs g w l) (j : Nat) (hj : j < l.length) : w.cell? ⟨g, j, none⟩ = some (.int .u8 ((l[j]).toNat : Int)) := by
  obtain ⟨cur, fz, h1, h2, h3⟩ := h
  have h4 : cur.toList[j]? = (bc l)[j]? := by rw [← h3, List.getElem?_take_of_lt hj]
  simp [World.cell?, h1]
  rw [← Array.getElem?_toList, h4]
  simp [bc, hj]
theorem BIs.free {g : Nat} {w : World} {l : List UInt8} (h : BIs g w l) (j : Nat) (hj : j < l.length) : w.frozen? ⟨g, j, none⟩ = false := by
  obtain ⟨cur, fz, h1, h2, h3⟩ := h
  obtain ⟨lo, hi⟩ := fz
  simp [World.frozen?, h1]
  intro h5
  simp at h2
  omega
theorem BIs.set {g : Nat} {w : World} {l : List UInt8} (h : BIs g w l) (j : Nat) (b : UInt8) (x : Int) (hx : x = (b.toNat : Int)) : BIs g (w.setCell ⟨g, j, none⟩ (.int .u8 x)) (l.set j b) := by
  obtain ⟨cur, fz, h1, h2, h3⟩ := h
  have hlt := lt_of_block h1
  have h' : w.heap[g] = .cells cur 5 fz := by simpa [Array.getElem?_eq_getElem hlt] using h1
  subst hx
  refine ⟨cur.setIfInBounds j (.int .u8 b.toNat), fz, ?_, by rw [List.length_set]; exact h2, ?_⟩
  · show (w.heap.modify g _)[g]? = _
    rw [Array.getElem?_eq_getElem (by simpa using hlt), Array.getElem_modify_self, h']
    rfl
  · rw [List.length_set, Array.toList_setIfInBounds, List.take_set, h3]
    simp [bc, List.map_set]
theorem BIs.conv {g : Nat} {w : World} {l : List UInt8} (h : BIs g w l) (cap : Nat) : (convert 60 9 (.slice (some ⟨g, 0, none⟩) l.length cap)).run Try.prog w = .ok (.string (st l)) w := by
  rw [← strOf_bytes]
  refine run_convert_bytes_arg w 60 5 Try.underlying60 Try.underlying5 g 0 l.length cap _ (by simp) (fun i hi => ?_) 9 Try.underlying9
  have hi' : i < l.length := by simpa using hi
  rw [Nat.zero_add, h.get i hi']
  simp [List.getElem?_eq_getElem hi']
end Go.Proofs.Ytglhibmfbbbdiaa
