import Derived.RowKit
import Derived.OpenShut
import Derived.Laws.Bits64
import Derived.Lib.AppendStr
import Derived.OneCell
import Derived.Below
import Derived.Deep.Draws
namespace Go.Proofs.Ytjphfpfagnhelaa
open Go.RowKit

/-- a number from 0 on, in few bytes -/
def uEnc (n : Nat) : List UInt8 := if _h : n < 128 then [UInt8.ofNat n] else UInt8.ofNat (n % 128 + 128) :: uEnc (n / 128)
termination_by n
decreasing_by omega
theorem uEnc_lo {n : Nat} (h : n < 128) : uEnc n = [UInt8.ofNat n] := by rw [uEnc]; simp [h]
theorem uEnc_hi {n : Nat} (h : ¬ n < 128) : uEnc n = UInt8.ofNat (n % 128 + 128) :: uEnc (n / 128) := by rw [uEnc]; simp [h]
theorem uEnc_len (k : Nat) : ∀ n : Nat, n < 128 ^ (k + 1) → 1 ≤ (uEnc n).length ∧ (uEnc n).length ≤ k + 1 := by
  induction k with
  | zero => intro n h; rw [uEnc_lo (by simpa using h)]; simp
  | succ k ih =>
    intro n h
    by_cases hn : n < 128
    · rw [uEnc_lo hn]; simp
    · rw [uEnc_hi hn]
      have := ih (n / 128) (by rw [Nat.pow_succ] at h; omega)
      simp; omega
theorem uEnc_len64 (n : Nat) (h : n < 18446744073709551616) : 1 ≤ (uEnc n).length ∧ (uEnc n).length ≤ 10 := uEnc_len 9 n (by omega)
theorem uEnc_len63 (n : Nat) (h : n < 9223372036854775808) : 1 ≤ (uEnc n).length ∧ (uEnc n).length ≤ 9 := uEnc_len 8 n (by omega)

/-- what any number is written as: 2n, or -2n - 1 -/
def zig (n : Int) : Nat := if 0 ≤ n then (2 * n).toNat else (-2 * n - 1).toNat
theorem zig_lt (n : Int) (h : -9223372036854775808 ≤ n ∧ n ≤ 9223372036854775807) : zig n < 18446744073709551616 := by unfold zig; split <;> omega

/-- bytes as cells, as a string -/
def bc (bs : List UInt8) : List Value := bs.map fun b => Value.int .u8 (b.toNat : Int)
def st (bs : List UInt8) : ByteArray := ⟨bs.toArray⟩
theorem bc_append (a b : List UInt8) : bc (a ++ b) = bc a ++ bc b := by simp [bc]
theorem bc_len (a : List UInt8) : (bc a).length = a.length := by simp [bc]
theorem bc_one (b : UInt8) (n : Int) (h : n = b.toNat) : [Value.int .u8 n] = bc [b] := by subst h; rfl
theorem strCells_eq (s : ByteArray) : Lib.strCells s = bc s.data.toList := rfl
theorem st_toList (s : ByteArray) : st s.data.toList = s := by simp [st]
theorem st_list (bs : List UInt8) : (st bs).data.toList = bs := by simp [st]
theorem st_size (bs : List UInt8) : (st bs).size = bs.length := by simp [st, ByteArray.size]

/-- outside block g, below block base, the world is as it was -/
structure Kept (base g : Nat) (w w' : World) : Prop where
  os : w'.os = w.os
  tape : w'.tape = w.tape
  output : w'.output = w.output
  size : w.heap.size ≤ w'.heap.size
  block : ∀ k, k < base → k ≠ g → w'.heap[k]? = w.heap[k]?
theorem Kept.refl (base g : Nat) (w : World) : Kept base g w w := ⟨rfl, rfl, rfl, Nat.le_refl _, fun _ _ _ => rfl⟩
theorem Kept.trans {base g : Nat} {a b c : World} (h : Kept base g a b) (k : Kept base g b c) : Kept base g a c :=
  ⟨k.os.trans h.os, k.tape.trans h.tape, k.output.trans h.output, Nat.le_trans h.size k.size, fun i hi hg => (k.block i hi hg).trans (h.block i hi hg)⟩
theorem Kept.mono {base base' g : Nat} {w w' : World} (h : Kept base g w w') (hb : base' ≤ base) : Kept base' g w w' := ⟨h.os, h.tape, h.output, h.size, fun k hk hg => h.block k (by omega) hg⟩
theorem Kept.below {base g B : Nat} {w w' : World} (h : Kept base g w w') (h1 : B ≤ base) (h2 : B ≤ g) : Below B w w' :=
  ⟨h.os, h.tape, h.output, h.size, fun k hk => h.block k (by omega) (by omega)⟩
theorem Kept.of_below {base g : Nat} {w w' : World} (h : Below base w w') : Kept base g w w' := ⟨h.os, h.tape, h.output, h.size, fun k hk _ => h.block k hk⟩
theorem Kept.drewN {base g : Nat} {w w' : World} (h : Kept base g w w') (n : Nat) : Kept base g w (w'.drewN n) := ⟨h.os, h.tape, h.output, h.size, h.block⟩
theorem Kept.setCell {base g : Nat} {w w' : World} (h : Kept base g w w') (o : Nat) (v : Value) : Kept base g w (w'.setCell ⟨g, o, none⟩ v) :=
  ⟨h.os, h.tape, h.output, by simpa [World.setCell] using h.size, fun k hk hg => (Below.heap_setCell _ _ _ _ hg).trans (h.block k hk hg)⟩

/-- a writer, behind the pointer to block g: what it has written -/
def WIs (base g : Nat) (w : World) (bs : List UInt8) : Prop := ∃ v, w.heap[g]? = some (.cells #[v] 100 (0, 0)) ∧ w.ownsRow base 5 1 v bs.length (bc bs)
/-- a reader, behind the pointer to block g: what is left, and what is wrong -/
def RIs (g : Nat) (w : World) (s : ByteArray) (e : Int) : Prop := w.heap[g]? = some (.cells #[.string s, .int .i64 e] 105 (0, 0))
theorem RIs.kept {g base g' : Nat} {w w' : World} {s : ByteArray} {e : Int} (h : RIs g w s e) (k : Kept base g' w w') (hb : g < base) (hg : g ≠ g') : RIs g w' s e :=
  (k.block g hb hg).trans h
theorem ownBlock_ne {w : World} {base g : Nat} {v u : Value} {n : Nat} {xs : List Value} (hr : w.ownsRow base 5 1 v n xs) (hg : w.heap[g]? = some (.cells #[u] 100 (0, 0))) : v.ownBlock ≠ some g := by
  obtain ⟨_, h | ⟨b, cap, cur, rfl, _, hb, _⟩⟩ := hr
  · rw [h.1]; intro h; cases h
  · intro h
    cases h
    rw [hg] at hb
    simp at hb
theorem WIs.kept {base g base' g' : Nat} {w w' : World} {bs : List UInt8} (h : WIs base g w bs) (k : Kept base' g' w w') (hb : w.heap.size ≤ base') (hg : g ≠ g') (hr : ∀ v, w.heap[g]? = some (.cells #[v] 100 (0, 0)) → v.ownBlock ≠ some g') : WIs base g w' bs := by
  obtain ⟨v, h1, h2⟩ := h
  refine ⟨v, (k.block g (by have := lt_of_block h1; omega) hg).trans h1, ?_⟩
  have hh := h2
  have hlt := h2.lt
  obtain ⟨e1, e2 | ⟨b, cap, cur, rfl, e3, e4, e5⟩⟩ := h2
  · exact ⟨e1, .inl e2⟩
  · refine ⟨e1, .inr ⟨b, cap, cur, rfl, e3, ?_, e5⟩⟩
    have hb2 := (hlt b rfl).2
    exact (k.block b (by omega) (fun e => hr _ h1 (by rw [← e]; rfl))).trans e4
end Go.Proofs.Ytjphfpfagnhelaa
