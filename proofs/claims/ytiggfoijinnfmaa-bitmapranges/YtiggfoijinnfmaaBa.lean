import Derived.Test.YtiggfoijinnfmaaRows
import Derived.RowKit
import Derived.OpenShut
import Derived.Lib.AppendStr
import Derived.Lib.Strings
import Derived.OneCell
import Derived.Below
import Derived.Deep.Draws
import Derived.WalkKit
import Derived.ProofKit
import Derived.WalkSpells
import Derived.WalkSmall
import Derived.Deep.QuietTactic
import Derived.BigQuiet
import Derived.Laws.BytesArg
import Derived.Deep.RegionWith
import Derived.Deep.RegionLaw
import Derived.Deep.DeepCutAuto
import Derived.Deep.DeepFit
import Derived.Deep.CutBlock
import Derived.Laws.Bits64
import Derived.Lib.ConvBytes
namespace Go.Proofs.Ytiggfoijinnfmaa
open Go.RowKit

/-- bytes as cells, as a string -/
def bc (bs : List UInt8) : List Value := bs.map fun b => Value.int .u8 (b.toNat : Int)
def st (bs : List UInt8) : ByteArray := ⟨bs.toArray⟩
theorem bc_append (a b : List UInt8) : bc (a ++ b) = bc a ++ bc b := by simp [bc]
theorem bc_len (a : List UInt8) : (bc a).length = a.length := by simp [bc]
theorem st_toList (s : ByteArray) : st s.data.toList = s := by simp [st]
theorem st_list (bs : List UInt8) : (st bs).data.toList = bs := by simp [st]
theorem st_size (bs : List UInt8) : (st bs).size = bs.length := by simp [st, ByteArray.size]
theorem ret_int {k : IntKind} {a b : Int} (h : a = b) : Ending.returned (.int k a) = .returned (.int k b) := by rw [h]
theorem strOf_bytes (bs : List UInt8) : strOfNums (bs.map fun b => (b.toNat : Int)) = st bs := by
  unfold strOfNums st; congr 1; simp [Function.comp_def]
theorem conv_own {base : Nat} {v : Value} {bs : List UInt8} {w : World} (h : w.ownsRow base 5 1 v bs.length (bc bs)) : (convert 46 9 v).run Try.prog w = .ok (.string (st bs)) w := by
  have hh := h
  obtain ⟨e1, ⟨rfl, e2⟩ | ⟨b, cap, cur, rfl, e3, e4, e5⟩⟩ := h
  · rw [run_convert_bytes_nil w 46 5 Try.underlying46 Try.underlying5 0 0 9 Try.underlying9]
    have : bs = [] := List.eq_nil_of_length_eq_zero e2
    subst this; rfl
  · rw [← strOf_bytes]
    refine run_convert_bytes_arg w 46 5 Try.underlying46 Try.underlying5 b 0 bs.length cap _ (by simp) (fun i hi => ?_) 9 Try.underlying9
    rw [Nat.zero_add, hh.cellAt i (by omega)]
    simp [bc, hi]
theorem take_snoc (s : ByteArray) (k : Nat) (h : k < s.size) : s.data.toList.take (k + 1) = s.data.toList.take k ++ [s[k]] := by
  rw [List.take_succ_eq_append_getElem (by simpa using h)]; rfl
theorem drop_cons (s : ByteArray) (k : Nat) (h : k < s.size) : s.data.toList.drop k = s[k] :: s.data.toList.drop (k + 1) := by
  rw [List.drop_eq_getElem_cons (by simpa using h)]; rfl
theorem ret_two {k l : IntKind} {a b c d : Int} (h : a = b) (h' : c = d) : Ending.returned (.tuple #[.int k a, .int l c]) = .returned (.tuple #[.int k b, .int l d]) := by rw [h, h']
theorem below_alloc (w : World) (o : Obj) : Below w.heap.size w (w.alloc o) := (Below.refl _ _).alloc (Nat.le_refl _) o
theorem len_list (s : ByteArray) : s.data.toList.length = s.size := by rw [Array.length_toList]; rfl
theorem hid {p : Prop} (h : p) : Hid p := h
theorem ext_list (s : ByteArray) (a b : Nat) : (s.extract a b).data.toList = (s.data.toList.take b).drop a := by
  simp [ByteArray.data_extract, List.drop_take]
theorem ext_head (s : ByteArray) (n : Nat) : (s.extract 0 n).data.toList = s.data.toList.take n := by rw [ext_list]; rfl
theorem ext_szh (s : ByteArray) (n : Nat) (h : n ≤ s.size) : (s.extract 0 n).size = n := by
  rw [← len_list, ext_head, List.length_take, len_list]; omega
theorem str_ne {a b : ByteArray} (h : ¬ a = b) : (a.toList == b.toList) = false := by
  rw [Lib.toList_data, Lib.toList_data]
  simp only [beq_eq_false_iff_ne, ne_eq]
  intro hh
  exact h (by rw [← st_toList a, ← st_toList b, hh])
theorem below_drewN {B : Nat} {w w' : World} (h : Below B w w') (n : Nat) : Below B w (w'.drewN n) := ⟨h.os, h.tape, h.output, h.size, h.block⟩
theorem _root_.Go.RowKit.Below.next {w w1 w2 : World} (a : Below w.heap.size w w1) (b : Below w1.heap.size w1 w2) : Below w.heap.size w w2 := a.trans (b.mono a.size)
/-- bytes in a row of the call's own, from its first place on -/
def BIs (g : Nat) (w : World) (l : List UInt8) : Prop := ∃ cur fz, w.heap[g]? = some (.cells cur 5 fz) ∧ l.length ≤ fz.1 ∧ cur.toList.take l.length = bc l
theorem BIs.get {g : Nat} {w : World} {l : List UInt8} (h : BIs g w l) (j : Nat) (hj : j < l.length) : w.cell? ⟨g, j, none⟩ = some (.int .u8 ((l[j]).toNat : Int)) := by
  obtain ⟨cur, fz, h1, h2, h3⟩ := h
  have h4 : cur.toList[j]? = (bc l)[j]? := by rw [← h3, List.getElem?_take_of_lt hj]
  simp [World.cell?, h1]
  rw [← Array.getElem?_toList, h4]
  simp [bc, hj]
theorem BIs.free {g : Nat} {w : World} {l : List UInt8} (h : BIs g w l) (j : Nat) (hj : j < l.length) : w.frozen? ⟨g, j, none⟩ = false := by
  obtain ⟨cur, fz, h1, h2, h3⟩ := h
  obtain ⟨lo, hi⟩ := fz
  simp [World.frozen?, h1]
  intro h5
  simp at h2
  omega
theorem BIs.set {g : Nat} {w : World} {l : List UInt8} (h : BIs g w l) (j : Nat) (b : UInt8) (x : Int) (hx : x = (b.toNat : Int)) : BIs g (w.setCell ⟨g, j, none⟩ (.int .u8 x)) (l.set j b) := by
  obtain ⟨cur, fz, h1, h2, h3⟩ := h
  have hlt := lt_of_block h1
  have h' : w.heap[g] = .cells cur 5 fz := by simpa [Array.getElem?_eq_getElem hlt] using h1
  subst hx
  refine ⟨cur.setIfInBounds j (.int .u8 b.toNat), fz, ?_, by rw [List.length_set]; exact h2, ?_⟩
  · show (w.heap.modify g _)[g]? = _
    rw [Array.getElem?_eq_getElem (by simpa using hlt), Array.getElem_modify_self, h']
    rfl
  · rw [List.length_set, Array.toList_setIfInBounds, List.take_set, h3]
    simp [bc, List.map_set]
theorem BIs.conv {g : Nat} {w : World} {l : List UInt8} (h : BIs g w l) (cap : Nat) : (convert 46 9 (.slice (some ⟨g, 0, none⟩) l.length cap)).run Try.prog w = .ok (.string (st l)) w := by
  rw [← strOf_bytes]
  refine run_convert_bytes_arg w 46 5 Try.underlying46 Try.underlying5 g 0 l.length cap _ (by simp) (fun i hi => ?_) 9 Try.underlying9
  have hi' : i < l.length := by simpa using hi
  rw [Nat.zero_add, h.get i hi']
  simp [List.getElem?_eq_getElem hi']
theorem bytes_new (w : World) (s : ByteArray) : ∃ cap wc, (convert 9 46 (.string s)).run Try.prog w = .ok (.slice (some ⟨w.heap.size, 0, none⟩) s.size cap) wc ∧ BIs w.heap.size wc s.data.toList ∧ Below w.heap.size w wc := by
  refine ⟨_, _, Lib.run_convert_string_bytes w 9 46 5 s Try.underlying9 Try.underlying46 Try.underlying5, ⟨_, _, Lib.bytesWorld_at_new w 5 s, ?_, ?_⟩, ⟨?_, ?_, ?_, ?_, ?_⟩⟩
  · simp [Lib.bytesCells]
  · simp [Lib.bytesCells, bc]
  · rfl
  · rfl
  · rfl
  · rw [Lib.bytesWorld_size]; omega
  · intro k hk; exact Lib.bytesWorld_at_old w 5 s k hk
/-- bit j of a byte so -/
def sb (x : UInt8) (j : Nat) (t : Bool) : UInt8 := if t then x ||| UInt8.ofNat (2 ^ j) else x &&& ~~~ (UInt8.ofNat (2 ^ j))
/-- bit i of a row of bytes -/
def tk (l : List UInt8) (i : Nat) : Bool := (l.getD (i / 8) 0).toNat.testBit (i % 8)
/-- a row of bytes with bit i so -/
def stB (l : List UInt8) (i : Nat) (t : Bool) : List UInt8 := l.set (i / 8) (sb (l.getD (i / 8) 0) (i % 8) t)
theorem sb_bit : ∀ (x : UInt8) (j k : Fin 8) (t : Bool), (sb x j t).toNat.testBit k = if j = k then t else x.toNat.testBit k := by
  have : ∀ (x : Fin 256) (j k : Fin 8) (t : Bool), (sb (UInt8.ofNat x) j t).toNat.testBit k = if j = k then t else (UInt8.ofNat x).toNat.testBit k := by decide +kernel
  intro x j k t
  have h := this ⟨x.toNat, x.toNat_lt⟩ j k t
  simpa using h
theorem sb_back : ∀ (x : UInt8) (j : Fin 8) (t : Bool), sb (sb x j t) j (x.toNat.testBit j) = x := by
  have : ∀ (x : Fin 256) (j : Fin 8) (t : Bool), sb (sb (UInt8.ofNat x) j t) j ((UInt8.ofNat x).toNat.testBit j) = UInt8.ofNat x := by decide +kernel
  intro x j t
  have h := this ⟨x.toNat, x.toNat_lt⟩ j t
  simpa using h
theorem sb_two : ∀ (x : UInt8) (j : Fin 8), sb (sb x j false) j true = sb x j true := by
  have : ∀ (x : Fin 256) (j : Fin 8), sb (sb (UInt8.ofNat x) j false) j true = sb (UInt8.ofNat x) j true := by decide +kernel
  intro x j
  have h := this ⟨x.toNat, x.toNat_lt⟩ j
  simpa using h
theorem sb_same : ∀ (x : UInt8) (j : Fin 8), sb x j (x.toNat.testBit j) = x := by
  have : ∀ (x : Fin 256) (j : Fin 8), sb (UInt8.ofNat x) j ((UInt8.ofNat x).toNat.testBit j) = UInt8.ofNat x := by decide +kernel
  intro x j
  have h := this ⟨x.toNat, x.toNat_lt⟩ j
  simpa using h
theorem sb_add : ∀ (x : UInt8) (j : Fin 8), x.toNat.testBit j = false → x.toNat + 2 ^ j.val = (sb x j true).toNat := by
  have : ∀ (x : Fin 256) (j : Fin 8), (UInt8.ofNat x).toNat.testBit j = false → (UInt8.ofNat x).toNat + 2 ^ j.val = (sb (UInt8.ofNat x) j true).toNat := by decide +kernel
  intro x j
  have h := this ⟨x.toNat, x.toNat_lt⟩ j
  simpa using h
theorem sb_sub : ∀ (x : UInt8) (j : Fin 8), x.toNat.testBit j = true → x.toNat = (sb x j false).toNat + 2 ^ j.val := by
  have : ∀ (x : Fin 256) (j : Fin 8), (UInt8.ofNat x).toNat.testBit j = true → (UInt8.ofNat x).toNat = (sb (UInt8.ofNat x) j false).toNat + 2 ^ j.val := by decide +kernel
  intro x j
  have h := this ⟨x.toNat, x.toNat_lt⟩ j
  simpa using h
theorem sb_andNot : ∀ (x : UInt8) (j : Fin 8), bits .andNot .u8 (x.toNat : Int) (2 ^ j.val) = ((sb x j false).toNat : Int) := by
  have : ∀ (x : Fin 256) (j : Fin 8), bits .andNot .u8 ((UInt8.ofNat x).toNat : Int) (2 ^ j.val) = ((sb (UInt8.ofNat x) j false).toNat : Int) := by decide +kernel
  intro x j
  have h := this ⟨x.toNat, x.toNat_lt⟩ j
  simpa using h
theorem sb_or : ∀ (x : UInt8) (j : Fin 8), bits .or .u8 (x.toNat : Int) (2 ^ j.val) = ((sb x j true).toNat : Int) := by
  have : ∀ (x : Fin 256) (j : Fin 8), bits .or .u8 ((UInt8.ofNat x).toNat : Int) (2 ^ j.val) = ((sb (UInt8.ofNat x) j true).toNat : Int) := by decide +kernel
  intro x j
  have h := this ⟨x.toNat, x.toNat_lt⟩ j
  simpa using h
theorem bit_and : ∀ (x : UInt8) (j : Fin 8), (bits .and .u8 (x.toNat : Int) (2 ^ j.val) == 0) = !(x.toNat.testBit j) := by
  have : ∀ (x : Fin 256) (j : Fin 8), (bits .and .u8 ((UInt8.ofNat x).toNat : Int) (2 ^ j.val) == 0) = !((UInt8.ofNat x).toNat.testBit j) := by decide +kernel
  intro x j
  have h := this ⟨x.toNat, x.toNat_lt⟩ j
  simpa using h
theorem tk_get (s : ByteArray) (i : Nat) (h : i / 8 < s.size) : tk s.data.toList i = s[i / 8].toNat.testBit (i % 8) := by
  unfold tk
  have h' : i / 8 < s.data.toList.length := by rw [len_list]; exact h
  rw [List.getD_eq_getElem?_getD, List.getElem?_eq_getElem h']
  rfl
theorem stB_len (l : List UInt8) (i : Nat) (t : Bool) : (stB l i t).length = l.length := by unfold stB; exact List.length_set
theorem stB_tk (l : List UInt8) (i k : Nat) (t : Bool) (h : i / 8 < l.length) : tk (stB l i t) k = if i = k then t else tk l k := by
  unfold tk stB
  rw [List.getD_eq_getElem?_getD, List.getD_eq_getElem?_getD, List.getD_eq_getElem?_getD, List.getElem?_set]
  by_cases h8 : i / 8 = k / 8
  · rw [if_pos h8, if_pos (by omega)]
    show (sb _ _ _).toNat.testBit _ = _
    rw [sb_bit _ ⟨i % 8, Nat.mod_lt _ (by decide)⟩ ⟨k % 8, Nat.mod_lt _ (by decide)⟩ t, ← h8]
    by_cases h9 : i = k
    · rw [if_pos (by simp [h9]), if_pos h9]
    · rw [if_neg (by simp; omega), if_neg h9]
  · rw [if_neg h8, if_neg (by intro hh; exact h8 (by rw [hh]))]
theorem stB_back (l : List UInt8) (i : Nat) (t : Bool) (h : i / 8 < l.length) : stB (stB l i t) i (tk l i) = l := by
  unfold stB tk
  rw [List.set_set]
  have e : (l.set (i / 8) (sb (l.getD (i / 8) 0) (i % 8) t)).getD (i / 8) 0 = sb (l.getD (i / 8) 0) (i % 8) t := by
    rw [List.getD_eq_getElem?_getD, List.getElem?_set, if_pos rfl, if_pos (by omega)]; rfl
  rw [e, sb_back _ ⟨i % 8, Nat.mod_lt _ (by decide)⟩ t, List.getD_eq_getElem?_getD, List.getElem?_eq_getElem h]
  exact List.set_getElem_self h
/-- how many bits are taken, of so many from a place on -/
def cnt (l : List UInt8) (a : Nat) : Nat → Nat
  | 0 => 0
  | n + 1 => cnt l a n + if tk l (a + n) then 1 else 0
theorem cnt_le (l : List UInt8) (a n : Nat) : cnt l a n ≤ n := by
  induction n with
  | zero => exact Nat.le_refl _
  | succ n ih => unfold cnt; split <;> omega
theorem cnt_add (l : List UInt8) (a n m : Nat) : cnt l a (n + m) = cnt l a n + cnt l (a + n) m := by
  induction m with
  | zero => rfl
  | succ m ih =>
    show cnt l a (n + m) + (if tk l (a + (n + m)) then 1 else 0) = cnt l a n + (cnt l (a + n) m + (if tk l (a + n + m) then 1 else 0))
    rw [ih, Nat.add_assoc a n m, Nat.add_assoc]
theorem cnt_zero (l : List UInt8) (a n : Nat) : cnt l a n = 0 ↔ ∀ i, a ≤ i → i < a + n → tk l i = false := by
  induction n with
  | zero => simp [cnt]; omega
  | succ n ih =>
    unfold cnt
    constructor
    · intro h i h1 h2
      by_cases h3 : i = a + n
      · subst h3
        cases ht : tk l (a + n) with
        | false => rfl
        | true => rw [ht] at h; simp at h
      · exact (ih.1 (by omega)) i h1 (by omega)
    · intro h
      rw [ih.2 (fun i h1 h2 => h i h1 (by omega)), h (a + n) (by omega) (by omega)]
      rfl
theorem cnt_full (l : List UInt8) (a n : Nat) : cnt l a n < n ↔ ∃ i, a ≤ i ∧ i < a + n ∧ tk l i = false := by
  induction n with
  | zero => simp [cnt]; omega
  | succ n ih =>
    unfold cnt
    constructor
    · intro h
      cases ht : tk l (a + n) with
      | false => exact ⟨a + n, by omega, by omega, ht⟩
      | true =>
        rw [ht] at h
        obtain ⟨i, h1, h2, h3⟩ := ih.1 (by simpa using h)
        exact ⟨i, h1, by omega, h3⟩
    · rintro ⟨i, h1, h2, h3⟩
      have hle := cnt_le l a n
      by_cases h4 : i = a + n
      · subst h4; rw [h3]; simp; omega
      · have := ih.2 ⟨i, h1, by omega, h3⟩
        split <;> omega
theorem cnt_set (l : List UInt8) (i : Nat) (t : Bool) (h : i / 8 < l.length) (a n : Nat) : cnt (stB l i t) a n + (if a ≤ i ∧ i < a + n then (if tk l i then 1 else 0) else 0) = cnt l a n + (if a ≤ i ∧ i < a + n then (if t then 1 else 0) else 0) := by
  induction n with
  | zero => rw [if_neg (by omega), if_neg (by omega)]; rfl
  | succ n ih =>
    show cnt (stB l i t) a n + (if tk (stB l i t) (a + n) then 1 else 0) + _ = cnt l a n + (if tk l (a + n) then 1 else 0) + _
    rw [stB_tk l i (a + n) t h]
    by_cases h1 : i = a + n
    · have h2 : a ≤ i ∧ i < a + (n + 1) := by omega
      have h3 : ¬ (a ≤ i ∧ i < a + n) := by omega
      rw [if_neg h3, if_neg h3] at ih
      rw [if_pos h2, if_pos h2, if_pos h1, ← h1]
      omega
    · rw [if_neg h1]
      by_cases h2 : a ≤ i ∧ i < a + n
      · have h3 : a ≤ i ∧ i < a + (n + 1) := by omega
        rw [if_pos h2, if_pos h2] at ih
        rw [if_pos h3, if_pos h3]
        omega
      · have h3 : ¬ (a ≤ i ∧ i < a + (n + 1)) := by omega
        rw [if_neg h2, if_neg h2] at ih
        rw [if_neg h3, if_neg h3]
        omega
/-- from i on so many are not taken -/
def freeW (l : List UInt8) (i m : Nat) : Prop := ∀ k, i ≤ k → k < i + m → tk l k = false
/-- where the first begins of so many that are not taken -/
def RunIs (l : List UInt8) (a b m : Nat) (r : Option Nat) : Prop := match r with
  | some i => a ≤ i ∧ i + m ≤ b ∧ freeW l i m ∧ ∀ s, a ≤ s → s < i → ¬ freeW l s m
  | none => ∀ s, a ≤ s → s + m ≤ b → ¬ freeW l s m
theorem RunIs.one {l : List UInt8} {a b m : Nat} {r r' : Option Nat} (h : RunIs l a b m r) (h' : RunIs l a b m r') : r = r' := by
  cases r with
  | none =>
    cases r' with
    | none => rfl
    | some i => exact absurd h'.2.2.1 (h i h'.1 h'.2.1)
  | some i =>
    cases r' with
    | none => exact absurd h.2.2.1 (h' i h.1 h.2.1)
    | some j =>
      obtain ⟨h1, h2, h3, h4⟩ := h
      obtain ⟨k1, k2, k3, k4⟩ := h'
      by_cases e : i = j
      · rw [e]
      · rcases Nat.lt_or_gt_of_ne e with e | e
        · exact absurd h3 (k4 i h1 e)
        · exact absurd k3 (h4 j k1 e)
end Go.Proofs.Ytiggfoijinnfmaa
