import Derived.Test.YtabkfmmbjjchdaaUb
namespace Go.Proofs.Ytabkfmmbjjchdaa
open Go.RowKit Go.Maps

theorem withL_set : ∀ (R : List Kx) (y : Kx) (j : Nat) (_ : Rise R) (hj : j < R.length), R[j].k = y.k → withL R y = R.set j y
  | x :: R, y, 0, h, hj, hk => by
    have e : x.k = y.k := hk
    rw [withL, if_neg (by omega), if_pos e]
    rfl
  | x :: R, y, j + 1, h, hj, hk => by
    have hj' : j < R.length := by simpa using hj
    have hk' : R[j].k = y.k := hk
    have h1 : x.k < y.k := by
      have := (List.pairwise_cons.1 h).1 R[j] (List.getElem_mem hj')
      omega
    rw [withL, if_pos h1, withL_set R y j (List.pairwise_cons.1 h).2 hj' hk']
    rfl
/-- a row of which one Known is put anew, cell by cell -/
theorem NRow.put {base gx cap : Nat} {w w' : World} {R : List Kx} (h : NRow base w (.slice (some ⟨gx, 0, none⟩) R.length cap) R) (j : Nat) (hj : j < R.length) (y : Kx) {cur' : Array Value} (hw : w'.heap[gx]? = some (.cells cur' 46 (0, 0))) (hsz : ∀ cur, w.heap[gx]? = some (.cells cur 46 (0, 0)) → cur'.size = cur.size)
    (hold : ∀ cur, w.heap[gx]? = some (.cells cur 46 (0, 0)) → ∀ m, (∀ k, k < 9 → m ≠ j * 9 + k) → cur'[m]? = cur[m]?) (hnew : ∀ k, k < 9 → cur'[j * 9 + k]? = (Kx.ks y)[k]?) : NRow base w' (.slice (some ⟨gx, 0, none⟩) R.length cap) (R.set j y) := by
  obtain ⟨e1, e2 | ⟨x, cap', cur, e3, e4, e5, r1, r2, r3, r4⟩⟩ := h
  · cases e2.1
  · cases e3
    refine ⟨by rw [Nfl_len, List.length_set], .inr ⟨gx, cap, cur', by rw [List.length_set], e4, hw, by rw [List.length_set]; exact r1, r2, by rw [hsz cur e5]; exact r3, ?_⟩⟩
    rw [List.length_set]
    have hl : (R.set j y).length = R.length := List.length_set
    apply List.ext_getElem?
    intro m
    by_cases hm : m < R.length * 9
    · obtain ⟨i, k, hk, rfl⟩ : ∃ i k, k < 9 ∧ m = i * 9 + k := ⟨m / 9, m % 9, Nat.mod_lt _ (by decide), by omega⟩
      have hi : i < R.length := by omega
      rw [List.getElem?_take_of_lt (by omega), Array.getElem?_toList, Nfl_get (R.set j y) i k (by omega) hk]
      by_cases e : i = j
      · subst e
        rw [hnew k hk]
        simp
      · rw [hold cur e5 (i * 9 + k) (fun q hq => by omega)]
        have h9 : cur.toList[i * 9 + k]? = (R.flatMap Kx.ks)[i * 9 + k]? := by rw [← r4, List.getElem?_take_of_lt (by omega)]
        rw [← Array.getElem?_toList, h9, Nfl_get R i k hi hk, List.getElem_set_ne (by omega)]
    · rw [List.getElem?_eq_none (by rw [List.length_take]; omega), List.getElem?_eq_none (by rw [Nfl_len, hl]; omega)]
end Go.Proofs.Ytabkfmmbjjchdaa
