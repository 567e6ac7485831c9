import Derived.Test.YtjnhibpebikkmaaGreatIj
namespace Go.Proofs.YtjnhibpebikkmaaGreat
open Go.RowKit

theorem sfx_list {y : ByteArray} (h : sfx y) : (y.extract 0 (y.size - 10)).data.toList ++ List.replicate 10 0 = y.data.toList := by
  obtain ⟨h1, h2⟩ := h
  have e : (y.extract (y.size - 10) y.size).data.toList = List.replicate 10 0 := by rw [h2]; exact st_list _
  rw [ext_list, List.take_of_length_le (by rw [len_list]; exact Nat.le_refl _)] at e
  rw [ext_list, List.drop_zero, ← e, List.take_append_drop]
theorem decode_any (y : ByteArray) (hs : y.size < 140737488355328) (w : World) : Calls Tryz.prog 69 #[.string y] w fun x w' => x = .returned (.tuple #[(decI y.data.toList).v, .int .i64 (decE y.data.toList)]) ∧ Below w.heap.size w w' := by
  rcases cut_any y hs with ⟨h, H⟩ | ⟨h, H⟩
  · have hy := sfx_list h
    refine decode_sfx y _ ?_ H (fun x => x = .returned (.tuple #[(decI y.data.toList).v, .int .i64 (decE y.data.toList)])) ⟨?_, ?_⟩ w
    · have : (y.extract 0 (y.size - 10)).size ≤ y.size := by
        rw [← len_list, ← len_list, ext_list, List.drop_zero, List.length_take]; omega
      unfold maxLen; omega
    · intro n1 n2 n3 n4 n5 n6 n7 n8 n9 n10 n11 hn hr
      have := hn.1
      rw [hy, ← encL_nat] at this
      rw [this, (dec_yes hr).1, (dec_yes hr).2]
    · intro hno
      have := dec_no (l := y.data.toList) fun n hr he => by
        obtain ⟨k, l, z, a, b, c, d, e, f, s, t, rfl, b1, b2, b3, b4, b5, b6, b7, b8, b9, b10, b11⟩ := right_nat hr
        exact hno k l z a b c d e f s t hr (by omega) (by omega) (by omega) (by omega) (by omega) (by omega) (by omega) (by omega) (by omega) (by omega) (by omega) (by rw [hy, he, encL_nat])
      rw [this.1, this.2]
  · have := dec_no (l := y.data.toList) fun n _ he => h (enc_sfx he)
    rw [this.1, this.2]
    exact decode_nosfx y H w
/-- where an index is named -/
def lvl (i : Int) : Int := if i < 6 then 0 else if i < 70 then 1 else 2
def fst (i : Int) : Int := if i < 6 then i else if i < 70 then i - 6 else (i - 70) / 64
def snd (i : Int) : Int := if i < 6 then 0 else if i < 70 then 0 else (i - 70) % 64
def isIx (i : Int) : Bool := decide (0 ≤ i ∧ i < 4166)
set_option maxRecDepth 100000 in
theorem isIndex_any (b : Int) (w : World) : Calls Tryz.prog 124 #[.int .i64 b] w fun e w' => e = .returned (.bool (isIx b)) ∧ w' = w := by
  unfold isIx
  by_cases h : 0 ≤ b
  · by_cases h1 : b < 4166
    · rw [decide_eq_true (show 0 ≤ b ∧ b < 4166 by omega)]
      go_enter Tryz.func124, Tryz.ntmps124
      go_wp2
      go_ret
      exact ⟨rfl, rfl⟩
    · rw [decide_eq_false (show ¬ (0 ≤ b ∧ b < 4166) by omega)]
      go_enter Tryz.func124, Tryz.ntmps124
      go_wp2
      go_ret
      exact ⟨rfl, rfl⟩
  · rw [decide_eq_false (show ¬ (0 ≤ b ∧ b < 4166) by omega)]
    go_enter Tryz.func124, Tryz.ntmps124
    go_wp2
    go_ret
    exact ⟨rfl, rfl⟩
set_option maxRecDepth 100000 in
theorem placeOf_any (i : Nat) (hi : i < 4166) (w : World) : Calls Tryz.prog 125 #[.int .i64 i] w fun e w' => e = .returned (.agg #[.int .i64 (lvl i), .int .i64 (fst i), .int .i64 (snd i)]) ∧ Below w.heap.size w w' := by
  by_cases h1 : i < 6
  · have e1 : lvl i = 0 := by unfold lvl; rw [if_pos (by omega)]
    have e2 : fst i = i := by unfold fst; rw [if_pos (by omega)]
    have e3 : snd i = 0 := by unfold snd; rw [if_pos (by omega)]
    rw [e1, e2, e3]
    clear e1 e2 e3
    go_enter Tryz.func125, Tryz.ntmps125
    go_wp2
    go_returns
    exact ⟨rfl, by go_grown⟩
  · by_cases h2 : i < 70
    · have e1 : lvl i = 1 := by unfold lvl; rw [if_neg (by omega), if_pos (by omega)]
      have e2 : fst i = (i : Int) - 6 := by unfold fst; rw [if_neg (by omega), if_pos (by omega)]
      have e3 : snd i = 0 := by unfold snd; rw [if_neg (by omega), if_pos (by omega)]
      rw [e1, e2, e3]
      clear e1 e2 e3
      go_enter Tryz.func125, Tryz.ntmps125
      go_wp2
      go_returns
      exact ⟨rfl, by go_grown⟩
    · have e1 : lvl i = 2 := by unfold lvl; rw [if_neg (by omega), if_neg (by omega)]
      have e2 : fst i = ((i : Int) - 70) / 64 := by unfold fst; rw [if_neg (by omega), if_neg (by omega)]
      have e3 : snd i = ((i : Int) - 70) % 64 := by unfold snd; rw [if_neg (by omega), if_neg (by omega)]
      rw [e1, e2, e3]
      clear e1 e2 e3
      go_enter Tryz.func125, Tryz.ntmps125
      go_wp2
      go_returns
      exact ⟨by simp; omega, by go_grown⟩
end Go.Proofs.YtjnhibpebikkmaaGreat
