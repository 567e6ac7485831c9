import Derived.Test.YtopebghandojbaaGreatLd
import Derived.Test.YtopebghandojbaaGreatTr
namespace Go.Proofs.YtopebghandojbaaGreat
open Go.RowKit
/-- a ring once round, from a place on -/
def rot (A : List ByteArray) (T : Nat) : List ByteArray := A.drop T ++ A.take T
theorem mod_low {a P : Nat} (h : a < P) : a % P = a := Nat.mod_eq_of_lt h
theorem mod_high {a P : Nat} (h : P ≤ a) (h2 : a < P + P) : a % P = a - P := by
  rw [Nat.mod_eq_sub_mod h, Nat.mod_eq_of_lt (by omega)]
theorem rot_get (A : List ByteArray) {T i : Nat} (hT : T ≤ A.length) (hi : i < A.length) : (rot A T)[i]? = A[(T + i) % A.length]? := by
  unfold rot
  by_cases h : i < A.length - T
  · rw [List.getElem?_append_left (by rw [List.length_drop]; exact h), List.getElem?_drop, mod_low (by omega)]
  · rw [List.getElem?_append_right (by rw [List.length_drop]; omega), List.length_drop, List.getElem?_take_of_lt (by omega), mod_high (by omega) (by omega)]
    congr 1
    omega
theorem used_app : ∀ (Ls Ks : List (List Chg)), used (Ls ++ Ks) = used Ls + used Ks
  | [], Ks => by simp [used]
  | K :: Ls, Ks => by
    show K.length + 1 + used (Ls ++ Ks) = K.length + 1 + used Ls + used Ks
    rw [used_app Ls Ks]; omega
theorem used_cut (Ls : List (List Chg)) (k : Nat) : used Ls = used (Ls.take k) + used (Ls.drop k) := by
  rw [← used_app, List.take_append_drop]
/-- a piece of a list written over -/
def over (R : List ByteArray) (k : Nat) (X : List ByteArray) : List ByteArray := R.take k ++ X ++ R.drop (k + X.length)
end Go.Proofs.YtopebghandojbaaGreat
