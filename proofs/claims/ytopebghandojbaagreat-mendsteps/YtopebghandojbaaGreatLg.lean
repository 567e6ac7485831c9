import Derived.Test.YtopebghandojbaaGreatLd
import Derived.Test.YtopebghandojbaaGreatTr
namespace Go.Proofs.YtopebghandojbaaGreat
open Go.RowKit
/-- a ring once round, from a place on -/
def rot (A : List ByteArray) (T : Nat) : List ByteArray := A.drop T ++ A.take T
theorem rot_len (A : List ByteArray) {T : Nat} (hT : T ≤ A.length) : (rot A T).length = A.length := by
  unfold rot
  rw [List.length_append, List.length_drop, List.length_take]
  omega
theorem mod_low {a P : Nat} (h : a < P) : a % P = a := Nat.mod_eq_of_lt h
theorem mod_high {a P : Nat} (h : P ≤ a) (h2 : a < P + P) : a % P = a - P := by
  rw [Nat.mod_eq_sub_mod h, Nat.mod_eq_of_lt (by omega)]
theorem rot_get (A : List ByteArray) {T i : Nat} (hT : T ≤ A.length) (hi : i < A.length) : (rot A T)[i]? = A[(T + i) % A.length]? := by
  unfold rot
  by_cases h : i < A.length - T
  · rw [List.getElem?_append_left (by rw [List.length_drop]; exact h), List.getElem?_drop, mod_low (by omega)]
  · rw [List.getElem?_append_right (by rw [List.length_drop]; omega), List.length_drop, List.getElem?_take_of_lt (by omega), mod_high (by omega) (by omega)]
    congr 1
    omega
theorem rot_set (A : List ByteArray) {T i : Nat} (hT : T < A.length) (hi : i < A.length) (x : ByteArray) : rot (A.set ((T + i) % A.length) x) T = (rot A T).set i x := by
  have hP : 0 < A.length := by omega
  have hm := Nat.mod_lt (T + i) hP
  apply List.ext_getElem?
  intro j
  by_cases hj : j < A.length
  · have e1 := rot_get (A.set ((T + i) % A.length) x) (T := T) (i := j) (by rw [List.length_set]; omega) (by rw [List.length_set]; exact hj)
    rw [List.length_set] at e1
    rw [e1, List.getElem?_set, List.getElem?_set, rot_len A (by omega), rot_get A (by omega) hj]
    by_cases hij : i = j
    · subst hij
      simp [hm, hi]
    · have hne : ¬ (T + i) % A.length = (T + j) % A.length := by
        intro e
        have a1 : (T + i) % A.length = if T + i < A.length then T + i else T + i - A.length := by
          split
          · exact mod_low (by omega)
          · exact mod_high (by omega) (by omega)
        have a2 : (T + j) % A.length = if T + j < A.length then T + j else T + j - A.length := by
          split
          · exact mod_low (by omega)
          · exact mod_high (by omega) (by omega)
        rw [a1, a2] at e
        split at e <;> split at e <;> omega
      rw [if_neg hne, if_neg hij]
  · rw [List.getElem?_eq_none (by rw [rot_len _ (by rw [List.length_set]; omega), List.length_set]; omega), List.getElem?_eq_none (by rw [List.length_set, rot_len _ (by omega)]; omega)]
theorem rot_rot (A : List ByteArray) {T u : Nat} (hT : T < A.length) (hu : u ≤ A.length) : rot A ((T + u) % A.length) = rot (rot A T) u := by
  have hP : 0 < A.length := by omega
  have hm := Nat.mod_lt (T + u) hP
  have hl := rot_len A (T := T) (by omega)
  apply List.ext_getElem?
  intro j
  by_cases hj : j < A.length
  · rw [rot_get A (by omega) hj, rot_get (rot A T) (by rw [hl]; exact hu) (by rw [hl]; exact hj), hl, rot_get A (by omega) (Nat.mod_lt _ hP)]
    congr 1
    rw [Nat.mod_add_mod, Nat.add_mod_mod]
    congr 1
    omega
  · rw [List.getElem?_eq_none (by rw [rot_len _ (by omega)]; omega), List.getElem?_eq_none (by rw [rot_len _ (by rw [hl]; exact hu), hl]; omega)]
/-- transactions' blocks, one behind the other -/
def encs : Nat → List (List Chg) → List ByteArray
  | _, [] => []
  | s, L :: Ls => encL s L ++ encs (s + 1) Ls
theorem encL_len2 (seq : Nat) (l : List Chg) : (encL seq l).length = l.length + 1 := by unfold encL; simp
theorem encs_len : ∀ (s : Nat) (Ls : List (List Chg)), (encs s Ls).length = used Ls
  | _, [] => rfl
  | s, L :: Ls => by
    show (encL s L ++ encs (s + 1) Ls).length = L.length + 1 + used Ls
    rw [List.length_append, encL_len2, encs_len]
theorem encs_snoc : ∀ (s : Nat) (Ls : List (List Chg)) (L : List Chg), encs s (Ls ++ [L]) = encs s Ls ++ encL (s + Ls.length) L
  | s, [], L => by simp [encs]
  | s, K :: Ls, L => by
    show encL s K ++ encs (s + 1) (Ls ++ [L]) = encL s K ++ encs (s + 1) Ls ++ encL (s + (K :: Ls).length) L
    rw [encs_snoc (s + 1) Ls L, List.append_assoc, show s + 1 + Ls.length = s + (K :: Ls).length by simp; omega]
theorem encs_app : ∀ (s : Nat) (Ls Ks : List (List Chg)), encs s (Ls ++ Ks) = encs s Ls ++ encs (s + Ls.length) Ks
  | s, [], Ks => by simp [encs]
  | s, K :: Ls, Ks => by
    show encL s K ++ encs (s + 1) (Ls ++ Ks) = encL s K ++ encs (s + 1) Ls ++ encs (s + (K :: Ls).length) Ks
    rw [encs_app (s + 1) Ls Ks, List.append_assoc, show s + 1 + Ls.length = s + (K :: Ls).length by simp; omega]
theorem used_app : ∀ (Ls Ks : List (List Chg)), used (Ls ++ Ks) = used Ls + used Ks
  | [], Ks => by simp [used]
  | K :: Ls, Ks => by
    show K.length + 1 + used (Ls ++ Ks) = K.length + 1 + used Ls + used Ks
    rw [used_app Ls Ks]; omega
theorem used_cut (Ls : List (List Chg)) (k : Nat) : used Ls = used (Ls.take k) + used (Ls.drop k) := by
  rw [← used_app, List.take_append_drop]
theorem encL_cons (s : Nat) (L : List Chg) (R : List ByteArray) : encL s L ++ R = headB s L :: (L.map (·.d) ++ R) := by rw [encL_eq, List.cons_append]
theorem decOk_of {b : ByteArray} {bl : List ByteArray} {s sm : Nat} {ps : List Int} {L : List Chg} (hh : isHead b s ps sm) (h1 : ps.length ≤ bl.length) (h2 : blocksB (bl.take ps.length) = true) (h3 : crc (allD (bl.take ps.length)) = sm) (h4 : zipC ps (bl.take ps.length) = L) : decOk (b :: bl) s L :=
  ⟨b, bl, ps, sm, rfl, hh, h1, h2, h3, h4.symm⟩
theorem decOk_enc {s : Nat} {L : List Chg} (R : List ByteArray) (h1 : 1 ≤ s) (h2 : s ≤ 1099511627776) (hr : right L = true) : decOk (encL s L ++ R) s L := by
  have hl : (L.map (·.b)).length = L.length := List.length_map ..
  have hd : (L.map (·.d) ++ R).take (L.map (·.b)).length = L.map (·.d) := by
    rw [hl, List.take_append_of_le_length (by rw [List.length_map]; exact Nat.le_refl _), List.take_of_length_le (by rw [List.length_map]; exact Nat.le_refl _)]
  rw [encL_cons]
  refine decOk_of (isHead_enc h1 h2 hr) ?_ ?_ ?_ ?_
  · rw [hl, List.length_append, List.length_map]; omega
  · rw [hd]; exact rises_blocks (right_rises hr)
  · rw [hd]
  · rw [hd, zip_back]
theorem decs_encs : ∀ {s : Nat} {Ls : List (List Chg)} {R : List ByteArray}, (∀ L ∈ Ls, right L = true) → 1 ≤ s → s + Ls.length ≤ 1099511627777 → R.take (used Ls) = encs s Ls → decs s R Ls
  | s, [], R, _, _, _, _ => trivial
  | s, L :: Ls, R, hr, h1, h2, h => by
    have e : R = encL s L ++ (encs (s + 1) Ls ++ R.drop (used (L :: Ls))) := by
      rw [← List.append_assoc]
      show R = encs s (L :: Ls) ++ _
      rw [← h, List.take_append_drop]
    have hl := encL_len2 s L
    simp only [List.length_cons] at h2
    refine ⟨?_, ?_⟩
    · rw [e]
      exact decOk_enc _ h1 (by omega) (hr L (by simp))
    · have e2 : R.drop (L.length + 1) = encs (s + 1) Ls ++ R.drop (used (L :: Ls)) := by
        conv => lhs; rw [e]
        rw [← hl, List.drop_left]
      refine decs_encs (fun K hK => hr K (by simp [hK])) (by omega) (by omega) ?_
      rw [e2, ← encs_len (s + 1) Ls, List.take_left]
/-- a piece of a list written over -/
def over (R : List ByteArray) (k : Nat) (X : List ByteArray) : List ByteArray := R.take k ++ X ++ R.drop (k + X.length)
theorem over_nil (R : List ByteArray) (k : Nat) : over R k [] = R := by unfold over; simp
theorem over_len {R : List ByteArray} {k : Nat} {X : List ByteArray} (h : k + X.length ≤ R.length) : (over R k X).length = R.length := by
  unfold over
  simp only [List.length_append, List.length_take, List.length_drop]
  omega
theorem over_snoc {R : List ByteArray} {k : Nat} {X : List ByteArray} {x : ByteArray} (h : k + X.length < R.length) : (over R k X).set (k + X.length) x = over R k (X ++ [x]) := by
  unfold over
  have hl : (R.take k ++ X).length = k + X.length := by rw [List.length_append, List.length_take]; omega
  rw [List.set_append_right _ _ (by omega), hl, Nat.sub_self, List.drop_eq_getElem_cons h]
  simp only [List.set_cons_zero, List.length_append, List.length_cons, List.length_nil, List.append_assoc, List.cons_append, List.nil_append]
  rfl
theorem over_take {R : List ByteArray} {k j : Nat} {X : List ByteArray} (hj : j ≤ k) (hk : k ≤ R.length) : (over R k X).take j = R.take j := by
  unfold over
  rw [List.append_assoc, List.take_append_of_le_length (by rw [List.length_take]; omega), List.take_take]
  congr 1
  omega
theorem over_all {R : List ByteArray} {k : Nat} {X : List ByteArray} (hk : k + X.length ≤ R.length) : (over R k X).take (k + X.length) = R.take k ++ X := by
  unfold over
  rw [List.take_append_of_le_length (by rw [List.length_append, List.length_take]; omega), List.take_of_length_le (by rw [List.length_append, List.length_take]; omega)]
end Go.Proofs.YtopebghandojbaaGreat
