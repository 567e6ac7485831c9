import Derived.Test.YtokjlgebkihimaaGreatIu
import Derived.RowKit
import Derived.OpenShut
import Derived.Lib.AppendStr
import Derived.Lib.Strings
import Derived.OneCell
import Derived.Below
import Derived.Deep.Draws
import Derived.WalkKit
import Derived.ProofKit
import Derived.WalkSpells
import Derived.WalkSmall
import Derived.Deep.QuietTactic
import Derived.BigQuiet
import Derived.Laws.BytesArg
import Derived.Deep.RegionWith
import Derived.Deep.RegionLaw
import Derived.Deep.DeepCutAuto
import Derived.Deep.DeepFit
import Derived.Deep.CutBlock
import Derived.Laws.Bits64
import Derived.Lib.ConvBytes
namespace Go.Proofs.YtokjlgebkihimaaGreat
open Go.RowKit

set_option maxRecDepth 100000 in
theorem ext_head (s : ByteArray) (n : Nat) : (s.extract 0 n).data.toList = s.data.toList.take n := by rw [ext_list]; rfl
set_option maxRecDepth 100000 in
theorem ext_szh (s : ByteArray) (n : Nat) (h : n ≤ s.size) : (s.extract 0 n).size = n := by
  rw [← len_list, ext_head, List.length_take, len_list]; omega
set_option maxRecDepth 100000 in
theorem below_drewN {B : Nat} {w w' : World} (h : Below B w w') (n : Nat) : Below B w (w'.drewN n) := ⟨h.os, h.tape, h.output, h.size, h.block⟩
/-- bytes in a row of the call's own, from its first place on -/
def BIs (g : Nat) (w : World) (l : List UInt8) : Prop := ∃ cur fz, w.heap[g]? = some (.cells cur 5 fz) ∧ l.length ≤ fz.1 ∧ cur.toList.take l.length = bc l
set_option maxRecDepth 100000 in
theorem BIs.get {g : Nat} {w : World} {l : List UInt8} (h : BIs g w l) (j : Nat) (hj : j < l.length) : w.cell? ⟨g, j, none⟩ = some (.int .u8 ((l[j]).toNat : Int)) := by
  obtain ⟨cur, fz, h1, h2, h3⟩ := h
  have h4 : cur.toList[j]? = (bc l)[j]? := by rw [← h3, List.getElem?_take_of_lt hj]
  simp [World.cell?, h1]
  rw [← Array.getElem?_toList, h4]
  simp [bc, hj]
set_option maxRecDepth 100000 in
theorem BIs.free {g : Nat} {w : World} {l : List UInt8} (h : BIs g w l) (j : Nat) (hj : j < l.length) : w.frozen? ⟨g, j, none⟩ = false := by
  obtain ⟨cur, fz, h1, h2, h3⟩ := h
  obtain ⟨lo, hi⟩ := fz
  simp [World.frozen?, h1]
  intro h5
  simp at h2
  omega
set_option maxRecDepth 100000 in
theorem BIs.set {g : Nat} {w : World} {l : List UInt8} (h : BIs g w l) (j : Nat) (b : UInt8) (x : Int) (hx : x = (b.toNat : Int)) : BIs g (w.setCell ⟨g, j, none⟩ (.int .u8 x)) (l.set j b) := by
  obtain ⟨cur, fz, h1, h2, h3⟩ := h
  have hlt := lt_of_block h1
  have h' : w.heap[g] = .cells cur 5 fz := by simpa [Array.getElem?_eq_getElem hlt] using h1
  subst hx
  refine ⟨cur.setIfInBounds j (.int .u8 b.toNat), fz, ?_, by rw [List.length_set]; exact h2, ?_⟩
  · show (w.heap.modify g _)[g]? = _
    rw [Array.getElem?_eq_getElem (by simpa using hlt), Array.getElem_modify_self, h']
    rfl
  · rw [List.length_set, Array.toList_setIfInBounds, List.take_set, h3]
    simp [bc, List.map_set]
set_option maxRecDepth 100000 in
theorem BIs.conv {g : Nat} {w : World} {l : List UInt8} (h : BIs g w l) (cap : Nat) : (convert 125 9 (.slice (some ⟨g, 0, none⟩) l.length cap)).run Tryz.prog w = .ok (.string (st l)) w := by
  rw [← strOf_bytes]
  refine run_convert_bytes_arg w 125 5 Tryz.underlying125 Tryz.underlying5 g 0 l.length cap _ (by simp) (fun i hi => ?_) 9 Tryz.underlying9
  have hi' : i < l.length := by simpa using hi
  rw [Nat.zero_add, h.get i hi']
  simp [List.getElem?_eq_getElem hi']
set_option maxRecDepth 100000 in
theorem bytes_new (w : World) (s : ByteArray) : ∃ cap wc, (convert 9 125 (.string s)).run Tryz.prog w = .ok (.slice (some ⟨w.heap.size, 0, none⟩) s.size cap) wc ∧ BIs w.heap.size wc s.data.toList ∧ Below w.heap.size w wc := by
  refine ⟨_, _, Lib.run_convert_string_bytes w 9 125 5 s Tryz.underlying9 Tryz.underlying125 Tryz.underlying5, ⟨_, _, Lib.bytesWorld_at_new w 5 s, ?_, ?_⟩, ⟨?_, ?_, ?_, ?_, ?_⟩⟩
  · simp [Lib.bytesCells]
  · simp [Lib.bytesCells, bc]
  · rfl
  · rfl
  · rfl
  · rw [Lib.bytesWorld_size]; omega
  · intro k hk; exact Lib.bytesWorld_at_old w 5 s k hk
/-- bit j of a byte so -/
def sb (x : UInt8) (j : Nat) (t : Bool) : UInt8 := if t then x ||| UInt8.ofNat (2 ^ j) else x &&& ~~~ (UInt8.ofNat (2 ^ j))
/-- bit i of a row of bytes -/
def tk (l : List UInt8) (i : Nat) : Bool := (l.getD (i / 8) 0).toNat.testBit (i % 8)
/-- a row of bytes with bit i so -/
def stB (l : List UInt8) (i : Nat) (t : Bool) : List UInt8 := l.set (i / 8) (sb (l.getD (i / 8) 0) (i % 8) t)
set_option maxRecDepth 100000 in
theorem sb_bit : ∀ (x : UInt8) (j k : Fin 8) (t : Bool), (sb x j t).toNat.testBit k = if j = k then t else x.toNat.testBit k := by
  have : ∀ (x : Fin 256) (j k : Fin 8) (t : Bool), (sb (UInt8.ofNat x) j t).toNat.testBit k = if j = k then t else (UInt8.ofNat x).toNat.testBit k := by decide +kernel
  intro x j k t
  have h := this ⟨x.toNat, x.toNat_lt⟩ j k t
  simpa using h
set_option maxRecDepth 100000 in
theorem sb_back : ∀ (x : UInt8) (j : Fin 8) (t : Bool), sb (sb x j t) j (x.toNat.testBit j) = x := by
  have : ∀ (x : Fin 256) (j : Fin 8) (t : Bool), sb (sb (UInt8.ofNat x) j t) j ((UInt8.ofNat x).toNat.testBit j) = UInt8.ofNat x := by decide +kernel
  intro x j t
  have h := this ⟨x.toNat, x.toNat_lt⟩ j t
  simpa using h
set_option maxRecDepth 100000 in
theorem sb_two : ∀ (x : UInt8) (j : Fin 8), sb (sb x j false) j true = sb x j true := by
  have : ∀ (x : Fin 256) (j : Fin 8), sb (sb (UInt8.ofNat x) j false) j true = sb (UInt8.ofNat x) j true := by decide +kernel
  intro x j
  have h := this ⟨x.toNat, x.toNat_lt⟩ j
  simpa using h
set_option maxRecDepth 100000 in
theorem sb_same : ∀ (x : UInt8) (j : Fin 8), sb x j (x.toNat.testBit j) = x := by
  have : ∀ (x : Fin 256) (j : Fin 8), sb (UInt8.ofNat x) j ((UInt8.ofNat x).toNat.testBit j) = UInt8.ofNat x := by decide +kernel
  intro x j
  have h := this ⟨x.toNat, x.toNat_lt⟩ j
  simpa using h
set_option maxRecDepth 100000 in
theorem sb_add : ∀ (x : UInt8) (j : Fin 8), x.toNat.testBit j = false → x.toNat + 2 ^ j.val = (sb x j true).toNat := by
  have : ∀ (x : Fin 256) (j : Fin 8), (UInt8.ofNat x).toNat.testBit j = false → (UInt8.ofNat x).toNat + 2 ^ j.val = (sb (UInt8.ofNat x) j true).toNat := by decide +kernel
  intro x j
  have h := this ⟨x.toNat, x.toNat_lt⟩ j
  simpa using h
set_option maxRecDepth 100000 in
theorem sb_sub : ∀ (x : UInt8) (j : Fin 8), x.toNat.testBit j = true → x.toNat = (sb x j false).toNat + 2 ^ j.val := by
  have : ∀ (x : Fin 256) (j : Fin 8), (UInt8.ofNat x).toNat.testBit j = true → (UInt8.ofNat x).toNat = (sb (UInt8.ofNat x) j false).toNat + 2 ^ j.val := by decide +kernel
  intro x j
  have h := this ⟨x.toNat, x.toNat_lt⟩ j
  simpa using h
set_option maxRecDepth 100000 in
theorem sb_andNot : ∀ (x : UInt8) (j : Fin 8), bits .andNot .u8 (x.toNat : Int) (2 ^ j.val) = ((sb x j false).toNat : Int) := by
  have : ∀ (x : Fin 256) (j : Fin 8), bits .andNot .u8 ((UInt8.ofNat x).toNat : Int) (2 ^ j.val) = ((sb (UInt8.ofNat x) j false).toNat : Int) := by decide +kernel
  intro x j
  have h := this ⟨x.toNat, x.toNat_lt⟩ j
  simpa using h
set_option maxRecDepth 100000 in
theorem sb_or : ∀ (x : UInt8) (j : Fin 8), bits .or .u8 (x.toNat : Int) (2 ^ j.val) = ((sb x j true).toNat : Int) := by
  have : ∀ (x : Fin 256) (j : Fin 8), bits .or .u8 ((UInt8.ofNat x).toNat : Int) (2 ^ j.val) = ((sb (UInt8.ofNat x) j true).toNat : Int) := by decide +kernel
  intro x j
  have h := this ⟨x.toNat, x.toNat_lt⟩ j
  simpa using h
set_option maxRecDepth 100000 in
theorem bit_and : ∀ (x : UInt8) (j : Fin 8), (bits .and .u8 (x.toNat : Int) (2 ^ j.val) == 0) = !(x.toNat.testBit j) := by
  have : ∀ (x : Fin 256) (j : Fin 8), (bits .and .u8 ((UInt8.ofNat x).toNat : Int) (2 ^ j.val) == 0) = !((UInt8.ofNat x).toNat.testBit j) := by decide +kernel
  intro x j
  have h := this ⟨x.toNat, x.toNat_lt⟩ j
  simpa using h
set_option maxRecDepth 100000 in
theorem tk_get (s : ByteArray) (i : Nat) (h : i / 8 < s.size) : tk s.data.toList i = s[i / 8].toNat.testBit (i % 8) := by
  unfold tk
  have h' : i / 8 < s.data.toList.length := by rw [len_list]; exact h
  rw [List.getD_eq_getElem?_getD, List.getElem?_eq_getElem h']
  rfl
set_option maxRecDepth 100000 in
theorem stB_len (l : List UInt8) (i : Nat) (t : Bool) : (stB l i t).length = l.length := by unfold stB; exact List.length_set
set_option maxRecDepth 100000 in
theorem stB_tk (l : List UInt8) (i k : Nat) (t : Bool) (h : i / 8 < l.length) : tk (stB l i t) k = if i = k then t else tk l k := by
  unfold tk stB
  rw [List.getD_eq_getElem?_getD, List.getD_eq_getElem?_getD, List.getD_eq_getElem?_getD, List.getElem?_set]
  by_cases h8 : i / 8 = k / 8
  · rw [if_pos h8, if_pos (by omega)]
    show (sb _ _ _).toNat.testBit _ = _
    rw [sb_bit _ ⟨i % 8, Nat.mod_lt _ (by decide)⟩ ⟨k % 8, Nat.mod_lt _ (by decide)⟩ t, ← h8]
    by_cases h9 : i = k
    · rw [if_pos (by simp [h9]), if_pos h9]
    · rw [if_neg (by simp; omega), if_neg h9]
  · rw [if_neg h8, if_neg (by intro hh; exact h8 (by rw [hh]))]
set_option maxRecDepth 100000 in
theorem stB_back (l : List UInt8) (i : Nat) (t : Bool) (h : i / 8 < l.length) : stB (stB l i t) i (tk l i) = l := by
  unfold stB tk
  rw [List.set_set]
  have e : (l.set (i / 8) (sb (l.getD (i / 8) 0) (i % 8) t)).getD (i / 8) 0 = sb (l.getD (i / 8) 0) (i % 8) t := by
    rw [List.getD_eq_getElem?_getD, List.getElem?_set, if_pos rfl, if_pos (by omega)]; rfl
  rw [e, sb_back _ ⟨i % 8, Nat.mod_lt _ (by decide)⟩ t, List.getD_eq_getElem?_getD, List.getElem?_eq_getElem h]
  exact List.set_getElem_self h
/-- how many bits are taken, of so many from a place on -/
def cnt (l : List UInt8) (a : Nat) : Nat → Nat
  | 0 => 0
  | n + 1 => cnt l a n + if tk l (a + n) then 1 else 0
set_option maxRecDepth 100000 in
theorem cnt_le (l : List UInt8) (a n : Nat) : cnt l a n ≤ n := by
  induction n with
  | zero => exact Nat.le_refl _
  | succ n ih => unfold cnt; split <;> omega
set_option maxRecDepth 100000 in
theorem cnt_add (l : List UInt8) (a n m : Nat) : cnt l a (n + m) = cnt l a n + cnt l (a + n) m := by
  induction m with
  | zero => rfl
  | succ m ih =>
    show cnt l a (n + m) + (if tk l (a + (n + m)) then 1 else 0) = cnt l a n + (cnt l (a + n) m + (if tk l (a + n + m) then 1 else 0))
    rw [ih, Nat.add_assoc a n m, Nat.add_assoc]
set_option maxRecDepth 100000 in
theorem cnt_zero (l : List UInt8) (a n : Nat) : cnt l a n = 0 ↔ ∀ i, a ≤ i → i < a + n → tk l i = false := by
  induction n with
  | zero => simp [cnt]; omega
  | succ n ih =>
    unfold cnt
    constructor
    · intro h i h1 h2
      by_cases h3 : i = a + n
      · subst h3
        cases ht : tk l (a + n) with
        | false => rfl
        | true => rw [ht] at h; simp at h
      · exact (ih.1 (by omega)) i h1 (by omega)
    · intro h
      rw [ih.2 (fun i h1 h2 => h i h1 (by omega)), h (a + n) (by omega) (by omega)]
      rfl
set_option maxRecDepth 100000 in
theorem cnt_full (l : List UInt8) (a n : Nat) : cnt l a n < n ↔ ∃ i, a ≤ i ∧ i < a + n ∧ tk l i = false := by
  induction n with
  | zero => simp [cnt]; omega
  | succ n ih =>
    unfold cnt
    constructor
    · intro h
      cases ht : tk l (a + n) with
      | false => exact ⟨a + n, by omega, by omega, ht⟩
      | true =>
        rw [ht] at h
        obtain ⟨i, h1, h2, h3⟩ := ih.1 (by simpa using h)
        exact ⟨i, h1, by omega, h3⟩
    · rintro ⟨i, h1, h2, h3⟩
      have hle := cnt_le l a n
      by_cases h4 : i = a + n
      · subst h4; rw [h3]; simp; omega
      · have := ih.2 ⟨i, h1, by omega, h3⟩
        split <;> omega
set_option maxRecDepth 100000 in
theorem cnt_set (l : List UInt8) (i : Nat) (t : Bool) (h : i / 8 < l.length) (a n : Nat) : cnt (stB l i t) a n + (if a ≤ i ∧ i < a + n then (if tk l i then 1 else 0) else 0) = cnt l a n + (if a ≤ i ∧ i < a + n then (if t then 1 else 0) else 0) := by
  induction n with
  | zero => rw [if_neg (by omega), if_neg (by omega)]; rfl
  | succ n ih =>
    show cnt (stB l i t) a n + (if tk (stB l i t) (a + n) then 1 else 0) + _ = cnt l a n + (if tk l (a + n) then 1 else 0) + _
    rw [stB_tk l i (a + n) t h]
    by_cases h1 : i = a + n
    · have h2 : a ≤ i ∧ i < a + (n + 1) := by omega
      have h3 : ¬ (a ≤ i ∧ i < a + n) := by omega
      rw [if_neg h3, if_neg h3] at ih
      rw [if_pos h2, if_pos h2, if_pos h1, ← h1]
      omega
    · rw [if_neg h1]
      by_cases h2 : a ≤ i ∧ i < a + n
      · have h3 : a ≤ i ∧ i < a + (n + 1) := by omega
        rw [if_pos h2, if_pos h2] at ih
        rw [if_pos h3, if_pos h3]
        omega
      · have h3 : ¬ (a ≤ i ∧ i < a + (n + 1)) := by omega
        rw [if_neg h2, if_neg h2] at ih
        rw [if_neg h3, if_neg h3]
        omega
/-- from i on so many are not taken -/
def freeW (l : List UInt8) (i m : Nat) : Prop := ∀ k, i ≤ k → k < i + m → tk l k = false
/-- where the first begins of so many that are not taken -/
def RunIs (l : List UInt8) (a b m : Nat) (r : Option Nat) : Prop := match r with
  | some i => a ≤ i ∧ i + m ≤ b ∧ freeW l i m ∧ ∀ s, a ≤ s → s < i → ¬ freeW l s m
  | none => ∀ s, a ≤ s → s + m ≤ b → ¬ freeW l s m
set_option maxRecDepth 100000 in
theorem RunIs.one {l : List UInt8} {a b m : Nat} {r r' : Option Nat} (h : RunIs l a b m r) (h' : RunIs l a b m r') : r = r' := by
  cases r with
  | none =>
    cases r' with
    | none => rfl
    | some i => exact absurd h'.2.2.1 (h i h'.1 h'.2.1)
  | some i =>
    cases r' with
    | none => exact absurd h.2.2.1 (h' i h.1 h.2.1)
    | some j =>
      obtain ⟨h1, h2, h3, h4⟩ := h
      obtain ⟨k1, k2, k3, k4⟩ := h'
      by_cases e : i = j
      · rw [e]
      · rcases Nat.lt_or_gt_of_ne e with e | e
        · exact absurd h3 (k4 i h1 e)
        · exact absurd k3 (h4 j k1 e)
end Go.Proofs.YtokjlgebkihimaaGreat
namespace Go.Proofs.YtokjlgebkihimaaGreat
open Go.RowKit

def formE (b : ByteArray) : Int := if b.size = 128 then 0 else 4
def bitE (b : ByteArray) (i : Int) : Int := if b.size = 128 then (if 0 ≤ i ∧ i < 1024 then 0 else 6) else 4
def rngE (b : ByteArray) (x y : Int) : Int := if b.size = 128 then (if 0 ≤ x ∧ x ≤ y ∧ y ≤ 1024 then 0 else 1) else 4
set_option maxRecDepth 100000 in
theorem form_any (b : ByteArray) (w : World) : Calls Tryz.prog 201 #[.string b] w fun e w' => e = .returned (.int .i64 (formE b)) ∧ w' = w := by
  by_cases h : b.size = 128
  · have hF : formE b = 0 := by unfold formE; rw [if_pos h]
    rw [hF]
    go_enter Tryz.func201, Tryz.ntmps201
    go_wp2
    go_ret
    exact ⟨rfl, rfl⟩
  · have hF : formE b = 4 := by unfold formE; rw [if_neg h]
    rw [hF]
    go_enter Tryz.func201, Tryz.ntmps201
    go_wp2
    go_ret
    exact ⟨rfl, rfl⟩
set_option maxRecDepth 100000 in
theorem bit_any (b : ByteArray) (i : Int) (w : World) : Calls Tryz.prog 199 #[.string b, .int .i64 i] w fun e w' => e = .returned (.int .i64 (bitE b i)) ∧ w' = w := by
  have HF := hid (form_any b)
  by_cases h : b.size = 128
  · have hF : formE b = 0 := by unfold formE; rw [if_pos h]
    rw [hF] at HF
    by_cases h0 : i < 0
    · have hE : bitE b i = 6 := by unfold bitE; rw [if_pos h, if_neg (by omega)]
      rw [hE]
      go_enter Tryz.func199, Tryz.ntmps199
      go_wp2_with (first | (go_at_call 201; refine (HF.out _).mono ?_; rintro e w1 ⟨rfl, rfl⟩))
      go_ret
      exact ⟨rfl, rfl⟩
    · by_cases h1 : i < 1024
      · have hE : bitE b i = 0 := by unfold bitE; rw [if_pos h, if_pos (by omega)]
        rw [hE]
        go_enter Tryz.func199, Tryz.ntmps199
        go_wp2_with (first | (go_at_call 201; refine (HF.out _).mono ?_; rintro e w1 ⟨rfl, rfl⟩))
        go_ret
        exact ⟨rfl, rfl⟩
      · have hE : bitE b i = 6 := by unfold bitE; rw [if_pos h, if_neg (by omega)]
        rw [hE]
        go_enter Tryz.func199, Tryz.ntmps199
        go_wp2_with (first | (go_at_call 201; refine (HF.out _).mono ?_; rintro e w1 ⟨rfl, rfl⟩))
        go_ret
        exact ⟨rfl, rfl⟩
  · have hF : formE b = 4 := by unfold formE; rw [if_neg h]
    rw [hF] at HF
    have hE : bitE b i = 4 := by unfold bitE; rw [if_neg h]
    rw [hE]
    go_enter Tryz.func199, Tryz.ntmps199
    go_wp2_with (first | (go_at_call 201; refine (HF.out _).mono ?_; rintro e w1 ⟨rfl, rfl⟩))
    go_ret
    exact ⟨rfl, rfl⟩
set_option maxRecDepth 100000 in
theorem rng_cases (b : ByteArray) (x y : Int) : (b.size ≠ 128 ∧ rngE b x y = 4) ∨ (b.size = 128 ∧ ((x < 0 ∧ rngE b x y = 1) ∨ (¬ x < 0 ∧ ((y < x ∧ rngE b x y = 1) ∨ (¬ y < x ∧ ((y > 1024 ∧ rngE b x y = 1) ∨ (¬ y > 1024 ∧ rngE b x y = 0))))))) := by
  unfold rngE
  by_cases h : b.size = 128
  · rw [if_pos h]
    right
    refine ⟨h, ?_⟩
    split <;> omega
  · rw [if_neg h]; left; exact ⟨h, rfl⟩
set_option maxRecDepth 100000 in
theorem rng_any (b : ByteArray) (x y : Int) (w : World) : Calls Tryz.prog 197 #[.string b, .int .i64 x, .int .i64 y] w fun e w' => e = .returned (.int .i64 (rngE b x y)) ∧ w' = w := by
  have HF := hid (form_any b)
  rcases rng_cases b x y with ⟨h, hE⟩ | ⟨h, ⟨h1, hE⟩ | ⟨h1, ⟨h2, hE⟩ | ⟨h2, ⟨h3, hE⟩ | ⟨h3, hE⟩⟩⟩⟩
  · have hF : formE b = 4 := by unfold formE; rw [if_neg h]
    rw [hF] at HF
    rw [hE]
    go_enter Tryz.func197, Tryz.ntmps197
    go_wp2_with (first | (go_at_call 201; refine (HF.out _).mono ?_; rintro e w1 ⟨rfl, rfl⟩))
    go_ret
    exact ⟨rfl, rfl⟩
  all_goals
    have hF : formE b = 0 := by unfold formE; rw [if_pos h]
    rw [hF] at HF
    rw [hE]
    go_enter Tryz.func197, Tryz.ntmps197
    go_wp2_with (first | (go_at_call 201; refine (HF.out _).mono ?_; rintro e w1 ⟨rfl, rfl⟩))
    go_ret
    exact ⟨rfl, rfl⟩
set_option maxRecDepth 100000 in
theorem pow8 (j : Nat) (h : j < 8) : (2 : Int) ^ j % 256 = 2 ^ j := by
  have : ∀ j : Fin 8, (2 : Int) ^ j.val % 256 = 2 ^ j.val := by decide
  exact this ⟨j, h⟩
set_option maxRecDepth 100000 in
theorem mask_any (i : Nat) (hi : i < 1024) (w : World) : Calls Tryz.prog 200 #[.int .i64 i] w fun e w' => e = .returned (.int .u8 (2 ^ (i % 8))) ∧ w' = w := by
  go_enter Tryz.func200, Tryz.ntmps200
  go_wp2
  go_ret
  exact ⟨ret_int (by first | rfl | exact pow8 _ (Nat.mod_lt _ (by decide))), rfl⟩
set_option maxRecDepth 100000 in
theorem wrap8 (i : Nat) (hi : i < 1024) : IntKind.i64.wrap ((i : Int) / 8) = ((i / 8 : Nat) : Int) := by
  rw [IntKind.wrap_i64]; omega
set_option maxRecDepth 100000 in
theorem taken_q (b : ByteArray) (i q r : Nat) (hw : IntKind.i64.wrap ((i : Int) / 8) = (q : Int)) (h8 : q < b.size) (hr : r < 8)
    (HM : ∀ w, Calls Tryz.prog 200 #[.int .i64 i] w fun e w' => e = .returned (.int .u8 (2 ^ r)) ∧ w' = w) (w : World) : Calls Tryz.prog 198 #[.string b, .int .i64 i] w fun e w' => e = .returned (.bool (b[q].toNat.testBit r)) ∧ ∃ m, w' = w.drewN m := by
  have HA : Hid ((bits .and .u8 (b[q].toNat : Int) (2 ^ r) == 0) = !(b[q].toNat.testBit r)) := bit_and b[q] ⟨r, hr⟩
  have h8' : (q : Int) < b.size := by omega
  clear hr
  obtain ⟨z, hz⟩ : ∃ z, z = b[q].toNat.testBit r := ⟨_, rfl⟩
  rw [← hz] at HA ⊢
  clear hz
  go_enter Tryz.func198, Tryz.ntmps198
  go_wp2
  go_quiet ((go_at_call 200; exact Calls.quiet_of_same (HM _)))
  go_wp2
  go_ret
  refine ⟨?_, _, rfl⟩
  show Ending.returned (.bool (!(bits .and .u8 (b[q].toNat : Int) (2 ^ r) == 0))) = _
  rw [HA.out, Bool.not_not]
set_option maxRecDepth 100000 in
theorem taken_any (b : ByteArray) (i : Nat) (hb : b.size = 128) (hi : i < 1024) (w : World) : Calls Tryz.prog 198 #[.string b, .int .i64 i] w fun e w' => e = .returned (.bool (tk b.data.toList i)) ∧ ∃ m, w' = w.drewN m := by
  rw [tk_get b i (by omega)]
  exact taken_q b i (i / 8) (i % 8) (wrap8 i hi) (by omega) (Nat.mod_lt _ (by decide)) (mask_any i hi) w
set_option maxRecDepth 100000 in
theorem bit_div (x r : Nat) : (((x / 2 ^ r : Nat) : Int) % 2 == 1) = x.testBit r := by
  rw [Nat.testBit_eq_decide_div_mod_eq]
  obtain ⟨y, hy⟩ : ∃ y, y = x / 2 ^ r := ⟨_, rfl⟩
  rw [← hy, Bool.eq_iff_iff, beq_iff_eq, decide_eq_true_iff]
  omega
def hasV (b : ByteArray) (i : Int) : Bool := if bitE b i = 0 then tk b.data.toList i.toNat else false
set_option maxRecDepth 100000 in
theorem bit_cases (b : ByteArray) (i : Int) : (b.size ≠ 128 ∧ bitE b i = 4 ∧ hasV b i = false) ∨ (b.size = 128 ∧ ((i < 0 ∧ bitE b i = 6 ∧ hasV b i = false) ∨ (¬ i < 0 ∧ 1024 ≤ i ∧ bitE b i = 6 ∧ hasV b i = false) ∨ (∃ n : Nat, i = (n : Int) ∧ n < 1024 ∧ bitE b i = 0 ∧ hasV b i = tk b.data.toList n))) := by
  by_cases h : b.size = 128
  · right
    refine ⟨h, ?_⟩
    by_cases h0 : i < 0
    · have e : bitE b i = 6 := by unfold bitE; rw [if_pos h, if_neg (by omega)]
      exact .inl ⟨h0, e, by unfold hasV; rw [e]; rfl⟩
    · by_cases h1 : i < 1024
      · have e : bitE b i = 0 := by unfold bitE; rw [if_pos h, if_pos (by omega)]
        exact .inr (.inr ⟨i.toNat, by omega, by omega, e, by unfold hasV; rw [e]; rfl⟩)
      · have e : bitE b i = 6 := by unfold bitE; rw [if_pos h, if_neg (by omega)]
        exact .inr (.inl ⟨h0, by omega, e, by unfold hasV; rw [e]; rfl⟩)
  · have e : bitE b i = 4 := by unfold bitE; rw [if_neg h]
    exact .inl ⟨h, e, by unfold hasV; rw [e]; rfl⟩
end Go.Proofs.YtokjlgebkihimaaGreat
namespace Go.Proofs.YtokjlgebkihimaaGreat
open Go.RowKit

set_option maxRecDepth 100000 in
theorem BIs.drewN {g : Nat} {w : World} {l : List UInt8} (h : BIs g w l) (n : Nat) : BIs g (w.drewN n) l := h
set_option maxRecDepth 100000 in
theorem BIs.drew {g : Nat} {w : World} {l : List UInt8} (h : BIs g w l) : BIs g w.drew l := h
set_option maxRecDepth 100000 in
theorem BIs.clear {g : Nat} {w : World} {l : List UInt8} (h : BIs g w l) (i q r : Nat) (hq : q = i / 8) (hr : r = i % 8) (x : UInt8) (hx : l.getD q 0 = x) : BIs g (w.setCell ⟨g, q, none⟩ (.int .u8 (bits .andNot .u8 (x.toNat : Int) (2 ^ r)))) (stB l i false) := by
  subst hx hq hr
  exact h.set _ _ _ (sb_andNot _ ⟨i % 8, Nat.mod_lt _ (by decide)⟩)
set_option maxRecDepth 100000 in
theorem BIs.orr {g : Nat} {w : World} {l : List UInt8} (h : BIs g w l) (i q r : Nat) (hq : q = i / 8) (hr : r = i % 8) (x : UInt8) (hx : l.getD q 0 = x) : BIs g (w.setCell ⟨g, q, none⟩ (.int .u8 (bits .or .u8 (x.toNat : Int) (2 ^ r)))) (stB l i true) := by
  subst hx hq hr
  exact h.set _ _ _ (sb_or _ ⟨i % 8, Nat.mod_lt _ (by decide)⟩)
set_option maxRecDepth 100000 in
theorem stB_two (l : List UInt8) (i : Nat) (h : i / 8 < l.length) : stB (stB l i false) i true = stB l i true := by
  unfold stB
  rw [List.set_set]
  have e : (l.set (i / 8) (sb (l.getD (i / 8) 0) (i % 8) false)).getD (i / 8) 0 = sb (l.getD (i / 8) 0) (i % 8) false := by
    rw [List.getD_eq_getElem?_getD, List.getElem?_set, if_pos rfl, if_pos (by omega)]; rfl
  rw [e, sb_two _ ⟨i % 8, Nat.mod_lt _ (by decide)⟩]
set_option maxRecDepth 100000 in
theorem getD_get {l : List UInt8} {k : Nat} (h : k < l.length) : l.getD k 0 = l[k] := by
  rw [List.getD_eq_getElem?_getD, List.getElem?_eq_getElem h]; rfl
set_option maxRecDepth 100000 in
set_option maxHeartbeats 1000000 in
theorem set_ok (b : ByteArray) (i : Nat) (t : Bool) (hb : b.size = 128) (hi : i < 1024) (w : World) : Calls Tryz.prog 194 #[.string b, .int .i64 i, .bool t] w fun e w' => e = .returned (.tuple #[.string (st (stB b.data.toList i t)), .int .i64 0]) ∧ Below w.heap.size w w' := by
  have hE : bitE b i = 0 := by unfold bitE; rw [if_pos hb, if_pos (by omega)]
  have HE := hid (bit_any b i)
  rw [hE] at HE
  have HM := hid (mask_any i hi)
  obtain ⟨cap, wc, hconv, hBI, hBe⟩ := bytes_new w b
  have HL : Hid (b.data.toList.length = 128) := by show _ = _; rw [len_list, hb]
  rw [hb] at hconv
  obtain ⟨l, hl⟩ : ∃ l, l = b.data.toList := ⟨_, rfl⟩
  rw [← hl] at hBI HL ⊢
  clear hl hE
  have hw := wrap8 i hi
  obtain ⟨q, hq⟩ : ∃ q, q = i / 8 := ⟨_, rfl⟩
  obtain ⟨r, hr⟩ : ∃ r, r = i % 8 := ⟨_, rfl⟩
  rw [← hq] at hw
  rw [← hr] at HM
  have hq128 : q < 128 := by omega
  have hq128' : (q : Int) < 128 := by omega
  have HQ := hid hq
  have HR := hid hr
  have h8 : q < l.length := by rw [HL.out]; omega
  have hcell := hBI.get _ h8
  have hfree := hBI.free _ h8
  obtain ⟨x, hx⟩ : ∃ x, x = l[q] := ⟨_, rfl⟩
  rw [← hx] at hcell
  have HX : Hid (l.getD q 0 = x) := by show _ = _; rw [getD_get h8, hx]
  have H1 := hid (hBI.clear i q r hq hr x HX.out)
  have HB := hid hBe
  clear hx hBI hBe HX hq hr hi
  obtain ⟨g, hg⟩ : ∃ g, g = w.heap.size := ⟨_, rfl⟩
  rw [← hg] at hconv hcell hfree H1 HB ⊢
  clear hg
  go_enter Tryz.func194, Tryz.ntmps194
  go_upto_region 5 with (first | (go_at_call 199; refine (HE.out _).mono ?_; rintro e w ⟨rfl, rfl⟩))
  go_cut [] (fun wx => BIs g wx (stB l i false) ∧ Below g w wx)
  case first =>
    go_region_with (first | (go_at_call 200; refine (HM.out _).mono ?_; rintro e w2 ⟨rfl, rfl⟩))
    all_goals
      go_wp2
      go_meet
      exact ⟨H1.out.drew, HB.out.drew.setCell (Nat.le_refl _) _⟩
  case rest =>
    obtain ⟨hB2, hBe2⟩ := hcut
    rename World => wx
    clear hcell hfree hconv
    cases t with
    | false =>
      have HB2 := hid hB2
      have hcv := hB2.conv cap
      rw [stB_len, HL.out] at hcv
      clear hB2
      go_wp2
      go_ret2
      exact ⟨rfl, hBe2⟩
    | true =>
      have h8' : q < (stB l i false).length := by rw [stB_len]; exact h8
      have hcell := hB2.get _ h8'
      have hfree := hB2.free _ h8'
      obtain ⟨y, hy⟩ : ∃ y, y = (stB l i false)[q] := ⟨_, rfl⟩
      rw [← hy] at hcell
      have HX : Hid ((stB l i false).getD q 0 = y) := by show _ = _; rw [getD_get h8', hy]
      have hor := (hB2.orr i q r HQ.out HR.out y HX.out).drew
      rw [stB_two l i (by rw [HQ.out.symm]; exact h8)] at hor
      have hcv := hor.conv cap
      rw [stB_len, HL.out] at hcv
      have HB2 := hid hBe2
      clear hor hy HX hBe2 hB2 h8'
      go_wp2
      go_region_with (first | (go_at_call 200; refine (HM.out _).mono ?_; rintro e w2 ⟨rfl, rfl⟩))
      all_goals
        go_wp2
        go_ret2
        exact ⟨rfl, (HB2.out.setCell (Nat.le_refl _) _).drew⟩
end Go.Proofs.YtokjlgebkihimaaGreat
namespace Go.Proofs.YtokjlgebkihimaaGreat
open Go.RowKit

/-- what Set answers -/
def setV (b : ByteArray) (i : Int) (t : Bool) : ByteArray := if bitE b i = 0 then st (stB b.data.toList i.toNat t) else ByteArray.empty
set_option maxRecDepth 100000 in
theorem set_no (b : ByteArray) (i : Int) (t : Bool) (h : bitE b i ≠ 0) (w : World) : Calls Tryz.prog 194 #[.string b, .int .i64 i, .bool t] w fun e w' => e = .returned (.tuple #[.string ByteArray.empty, .int .i64 (bitE b i)]) ∧ Below w.heap.size w w' := by
  have HE := hid (bit_any b i)
  obtain ⟨n, hn⟩ : ∃ n, n = bitE b i := ⟨_, rfl⟩
  rw [← hn] at HE h ⊢
  clear hn
  go_enter Tryz.func194, Tryz.ntmps194
  go_wp2_with (first | (go_at_call 199; refine (HE.out _).mono ?_; rintro e w1 ⟨rfl, rfl⟩))
  go_ret2
  exact ⟨rfl, Below.refl _ _⟩
set_option maxRecDepth 100000 in
theorem bit_ok {b : ByteArray} {i : Int} (h : bitE b i = 0) : b.size = 128 ∧ ∃ n : Nat, i = (n : Int) ∧ n < 1024 := by
  rcases bit_cases b i with ⟨_, e, _⟩ | ⟨h2, ⟨_, e, _⟩ | ⟨_, _, e, _⟩ | ⟨n, rfl, hn, _, _⟩⟩
  · omega
  · omega
  · omega
  · exact ⟨h2, n, rfl, hn⟩
set_option maxRecDepth 100000 in
theorem set_any (b : ByteArray) (i : Int) (t : Bool) (w : World) : Calls Tryz.prog 194 #[.string b, .int .i64 i, .bool t] w fun e w' => e = .returned (.tuple #[.string (setV b i t), .int .i64 (bitE b i)]) ∧ Below w.heap.size w w' := by
  by_cases h : bitE b i = 0
  · obtain ⟨hb, n, rfl, hn⟩ := bit_ok h
    unfold setV
    rw [if_pos h, h]
    exact set_ok b n t hb hn w
  · unfold setV
    rw [if_neg h]
    exact set_no b i t h w
set_option maxRecDepth 100000 in
theorem BIs.addd {g : Nat} {w : World} {l : List UInt8} (h : BIs g w l) (i : Nat) (x : UInt8) (hx : l.getD (i / 8) 0 = x) (ht : tk l i = false) (y : Int) (hy : y = (x.toNat : Int) + 2 ^ (i % 8)) : BIs g (w.setCell ⟨g, i / 8, none⟩ (.int .u8 y)) (stB l i true) := by
  subst hx
  refine h.set _ _ _ ?_
  rw [hy]
  have := sb_add (l.getD (i / 8) 0) ⟨i % 8, Nat.mod_lt _ (by decide)⟩ ht
  rw [show sb (l.getD (i / 8) 0) (i % 8) true = sb (l.getD (i / 8) 0) (⟨i % 8, Nat.mod_lt _ (by decide)⟩ : Fin 8).val true from rfl, ← this]
  simp
set_option maxRecDepth 100000 in
theorem BIs.subb {g : Nat} {w : World} {l : List UInt8} (h : BIs g w l) (i : Nat) (x : UInt8) (hx : l.getD (i / 8) 0 = x) (ht : tk l i = true) (y : Int) (hy : y = (x.toNat : Int) - 2 ^ (i % 8)) : BIs g (w.setCell ⟨g, i / 8, none⟩ (.int .u8 y)) (stB l i false) := by
  subst hx
  refine h.set _ _ _ ?_
  rw [hy]
  have := sb_sub (l.getD (i / 8) 0) ⟨i % 8, Nat.mod_lt _ (by decide)⟩ ht
  rw [this]
  simp
set_option maxRecDepth 100000 in
theorem stB_same (l : List UInt8) (i : Nat) (h : i / 8 < l.length) : stB l i (tk l i) = l := by
  unfold stB tk
  rw [sb_same _ ⟨i % 8, Nat.mod_lt _ (by decide)⟩, getD_get h]
  exact List.set_getElem_self h
set_option maxRecDepth 100000 in
theorem bit_add_lt (x : UInt8) (j : Nat) (hj : j < 8) (h : x.toNat.testBit j = false) : (x.toNat : Int) + 2 ^ j < 256 := by
  have h1 := sb_add x ⟨j, hj⟩ h
  have h2 := (sb x j true).toNat_lt
  have h3 : ((x.toNat + 2 ^ j : Nat) : Int) = (x.toNat : Int) + 2 ^ j := by simp
  rw [← h3]
  simp only [] at h1
  rw [h1]
  omega
set_option maxRecDepth 100000 in
theorem bit_sub_le (x : UInt8) (j : Nat) (hj : j < 8) (h : x.toNat.testBit j = true) : 0 ≤ (x.toNat : Int) - 2 ^ j := by
  have h1 := sb_sub x ⟨j, hj⟩ h
  have h3 : ((2 ^ j : Nat) : Int) = 2 ^ j := by simp
  rw [← h3]
  simp only [] at h1
  omega
/-- what Count answers -/
def cntV (b : ByteArray) (x y : Int) : Int := if rngE b x y = 0 then (cnt b.data.toList x.toNat (y.toNat - x.toNat) : Int) else 0
set_option maxRecDepth 100000 in
theorem rng_ok {b : ByteArray} {x y : Int} (h : rngE b x y = 0) : b.size = 128 ∧ ∃ m n : Nat, x = (m : Int) ∧ y = (m : Int) + n ∧ m + n ≤ 1024 := by
  rcases rng_cases b x y with ⟨h', hE⟩ | ⟨h', ⟨h1, hE⟩ | ⟨h1, ⟨h2, hE⟩ | ⟨h2, ⟨h3, hE⟩ | ⟨h3, hE⟩⟩⟩⟩
  · omega
  · omega
  · omega
  · omega
  · exact ⟨h', x.toNat, (y - x).toNat, by omega, by omega, by omega⟩
end Go.Proofs.YtokjlgebkihimaaGreat
namespace Go.Proofs.YtokjlgebkihimaaGreat
open Go.RowKit
set_option maxRecDepth 100000 in
theorem cntV_ok (b : ByteArray) (m n : Nat) (h : rngE b m ((m : Int) + n) = 0) : cntV b m ((m : Int) + n) = cnt b.data.toList m n := by
  unfold cntV
  rw [if_pos h, show ((m : Int) + n).toNat - (m : Int).toNat = n by omega]
  rfl
/-- what is told of what was found -/
def optI : Option Nat → Int | some i => i | none => 0
def optE : Option Nat → Int | some _ => 0 | none => 5
set_option maxRecDepth 100000 in
theorem run_taken {l : List UInt8} {a bg c m : Nat} (h : ∀ s, a ≤ s → s < bg → ¬ freeW l s m) (hc : c < bg + m) (ht : tk l c = true) : ∀ s, a ≤ s → s < c + 1 → ¬ freeW l s m := by
  intro s h1 h2 hf
  by_cases h3 : s < bg
  · exact h s h1 h3 hf
  · have := hf c (by omega) (by omega)
    rw [ht] at this
    cases this
set_option maxRecDepth 100000 in
set_option maxHeartbeats 1000000 in
theorem run_ok (b : ByteArray) (a n : Nat) (m : Nat) (hb : b.size = 128) (hmn : a + n ≤ 1024) (hm : 1 ≤ m) (hm2 : m ≤ 9223372036854775807) (w : World) : Calls Tryz.prog 193 #[.string b, .int .i64 a, .int .i64 ((a : Int) + n), .int .i64 m] w fun e w' => ∃ r, RunIs b.data.toList a (a + n) m r ∧ e = .returned (.tuple #[.int .i64 (optI r), .int .i64 (optE r)]) ∧ ∃ k, w' = w.drewN k := by
  have HE := hid (rng_any b a ((a : Int) + n))
  have hE : rngE b a ((a : Int) + n) = 0 := by unfold rngE; rw [if_pos hb, if_pos (by omega)]
  rw [hE] at HE
  clear hE
  have HT := hid (fun i hi => taken_any b i hb hi)
  obtain ⟨l, hl⟩ : ∃ l, l = b.data.toList := ⟨_, rfl⟩
  rw [← hl] at HT ⊢
  clear hl
  obtain ⟨post, hpost⟩ : ∃ post, post = RunIs l a (a + n) m := ⟨_, rfl⟩
  rw [← hpost]
  have HP := hid hpost
  clear hpost
  go_enter Tryz.func193, Tryz.ntmps193
  go_wp2_with (first | (go_at_call 197; refine (HE.out _).mono ?_; rintro e w ⟨rfl, rfl⟩))
  go_loopw [11, 27] (fun c i wr => ∃ j g k : Nat, i = .int .i64 j ∧ j ≤ n ∧ c = .int .i64 g ∧ a ≤ g ∧ g ≤ a + j ∧ a + j < g + m ∧ (∀ t, g ≤ t → t < a + j → tk l t = false) ∧ (∀ s, a ≤ s → s < g → ¬ freeW l s m) ∧ wr = w.drewN k) (fun _ i _ => n - (intOf i).toNat)
  case atStart => exact ⟨0, a, 0, rfl, Nat.zero_le _, rfl, Nat.le_refl _, Nat.le_refl _, by omega, fun t h1 h2 => by omega, fun s h1 h2 => by omega, rfl⟩
  case round =>
    obtain ⟨j, g, k, rfl, hj, rfl, hg1, hg2, hg3, hfr, hno, rfl⟩ := hrel
    have HF := hid hfr
    have HN := hid hno
    clear hfr hno
    by_cases hlt : j < n
    · have HT2 := hid (HT.out (a + j) (by omega))
      cases htt : tk l (a + j) with
      | false =>
        rw [htt] at HT2
        have HTT := hid htt
        clear htt
        by_cases hq : a + j + 1 = g + m
        · have hq' : ((a : Int) + j - g == (m : Int) - 1) = true := by simp; omega
          have HQ := hid hq
          clear hq
          go_wp2_with (first | (go_at_call 198; refine (HT2.out _).mono ?_; rintro e w2 ⟨rfl, k2, rfl⟩))
          go_ret2
          refine ⟨some g, ?_, rfl, _, rfl⟩
          rw [HP.out]
          refine ⟨hg1, by have := HQ.out; omega, fun t h1 h2 => ?_, HN.out⟩
          by_cases h3 : t = a + j
          · rw [h3]; exact HTT.out
          · exact HF.out t h1 (by have := HQ.out; omega)
        · have hq' : ((a : Int) + j - g == (m : Int) - 1) = false := by simp; omega
          have HQ := hid hq
          clear hq
          go_wp2_with (first | (go_at_call 198; refine (HT2.out _).mono ?_; rintro e w2 ⟨rfl, k2, rfl⟩))
          go_roundw
          case rel =>
            refine ⟨j + 1, g, _, by go_num, by omega, rfl, hg1, by omega, by have := HQ.out; omega, fun t h1 h2 => ?_, HN.out, rfl⟩
            by_cases h3 : t = a + j
            · rw [h3]; exact HTT.out
            · exact HF.out t h1 (by omega)
          case measure => simp [intOf]; omega
      | true =>
        rw [htt] at HT2
        have HTT := hid htt
        clear htt
        go_wp2_with (first | (go_at_call 198; refine (HT2.out _).mono ?_; rintro e w2 ⟨rfl, k2, rfl⟩))
        go_roundw
        case rel => exact ⟨j + 1, a + j + 1, _, by go_num, by omega, by go_num, by omega, by omega, by omega, fun t h1 h2 => by omega, run_taken HN.out (by omega) HTT.out, rfl⟩
        case measure => simp [intOf]; omega
    · have hje : j = n := by omega
      subst hje
      go_wp2
      go_ret2
      refine ⟨none, ?_, rfl, k, rfl⟩
      rw [HP.out]
      intro s h1 h2 hf
      exact HN.out s h1 (by omega) hf
end Go.Proofs.YtokjlgebkihimaaGreat
