import Derived.Test.YtokjlgebkihimaaGreatIj
import Derived.Maps.Own
import Derived.Maps.OwnOps
import Derived.Maps.OwnSet
import Derived.Maps.Views
import Derived.Maps.Ext
import Derived.DeepKeys4
import Derived.WideKeyEntry
namespace Go.Proofs.YtokjlgebkihimaaGreat
open Go.RowKit

set_option maxRecDepth 100000 in
theorem sfx_list {y : ByteArray} (h : sfx y) : (y.extract 0 (y.size - 10)).data.toList ++ List.replicate 10 0 = y.data.toList := by
  obtain ⟨h1, h2⟩ := h
  have e : (y.extract (y.size - 10) y.size).data.toList = List.replicate 10 0 := by rw [h2]; exact st_list _
  rw [ext_list, List.take_of_length_le (by rw [len_list]; exact Nat.le_refl _)] at e
  rw [ext_list, List.drop_zero, ← e, List.take_append_drop]
set_option maxRecDepth 100000 in
theorem decode_any (y : ByteArray) (hs : y.size < 140737488355328) (w : World) : Calls Tryz.prog 130 #[.string y] w fun x w' => x = .returned (.tuple #[(decI y.data.toList).v, .int .i64 (decE y.data.toList)]) ∧ Below w.heap.size w w' := by
  rcases cut_any y hs with ⟨h, H⟩ | ⟨h, H⟩
  · have hy := sfx_list h
    refine decode_sfx y _ ?_ H (fun x => x = .returned (.tuple #[(decI y.data.toList).v, .int .i64 (decE y.data.toList)])) ⟨?_, ?_⟩ w
    · have : (y.extract 0 (y.size - 10)).size ≤ y.size := by
        rw [← len_list, ← len_list, ext_list, List.drop_zero, List.length_take]; omega
      unfold maxLen; omega
    · intro n1 n2 n3 n4 n5 n6 n7 n8 n9 n10 n11 hn hr
      have := hn.1
      rw [hy, ← encL_nat] at this
      rw [this, (dec_yes hr).1, (dec_yes hr).2]
    · intro hno
      have := dec_no (l := y.data.toList) fun n hr he => by
        obtain ⟨k, l, z, a, b, c, d, e, f, s, t, rfl, b1, b2, b3, b4, b5, b6, b7, b8, b9, b10, b11⟩ := right_nat hr
        exact hno k l z a b c d e f s t hr (by omega) (by omega) (by omega) (by omega) (by omega) (by omega) (by omega) (by omega) (by omega) (by omega) (by omega) (by rw [hy, he, encL_nat])
      rw [this.1, this.2]
  · have := dec_no (l := y.data.toList) fun n _ he => h (enc_sfx he)
    rw [this.1, this.2]
    exact decode_nosfx y H w
/-- where an index is named -/
def lvl (i : Int) : Int := if i < 6 then 0 else if i < 70 then 1 else 2
def fst (i : Int) : Int := if i < 6 then i else if i < 70 then i - 6 else (i - 70) / 64
def snd (i : Int) : Int := if i < 6 then 0 else if i < 70 then 0 else (i - 70) % 64
def isIx (i : Int) : Bool := decide (0 ≤ i ∧ i < 4166)
set_option maxRecDepth 100000 in
theorem isIndex_any (b : Int) (w : World) : Calls Tryz.prog 191 #[.int .i64 b] w fun e w' => e = .returned (.bool (isIx b)) ∧ w' = w := by
  unfold isIx
  by_cases h : 0 ≤ b
  · by_cases h1 : b < 4166
    · rw [decide_eq_true (show 0 ≤ b ∧ b < 4166 by omega)]
      go_enter Tryz.func191, Tryz.ntmps191
      go_wp2
      go_ret
      exact ⟨rfl, rfl⟩
    · rw [decide_eq_false (show ¬ (0 ≤ b ∧ b < 4166) by omega)]
      go_enter Tryz.func191, Tryz.ntmps191
      go_wp2
      go_ret
      exact ⟨rfl, rfl⟩
  · rw [decide_eq_false (show ¬ (0 ≤ b ∧ b < 4166) by omega)]
    go_enter Tryz.func191, Tryz.ntmps191
    go_wp2
    go_ret
    exact ⟨rfl, rfl⟩
set_option maxRecDepth 100000 in
theorem placeOf_any (i : Nat) (hi : i < 4166) (w : World) : Calls Tryz.prog 192 #[.int .i64 i] w fun e w' => e = .returned (.agg #[.int .i64 (lvl i), .int .i64 (fst i), .int .i64 (snd i)]) ∧ Below w.heap.size w w' := by
  by_cases h1 : i < 6
  · have e1 : lvl i = 0 := by unfold lvl; rw [if_pos (by omega)]
    have e2 : fst i = i := by unfold fst; rw [if_pos (by omega)]
    have e3 : snd i = 0 := by unfold snd; rw [if_pos (by omega)]
    rw [e1, e2, e3]
    clear e1 e2 e3
    go_enter Tryz.func192, Tryz.ntmps192
    go_wp2
    go_returns
    exact ⟨rfl, by go_grown⟩
  · by_cases h2 : i < 70
    · have e1 : lvl i = 1 := by unfold lvl; rw [if_neg (by omega), if_pos (by omega)]
      have e2 : fst i = (i : Int) - 6 := by unfold fst; rw [if_neg (by omega), if_pos (by omega)]
      have e3 : snd i = 0 := by unfold snd; rw [if_neg (by omega), if_pos (by omega)]
      rw [e1, e2, e3]
      clear e1 e2 e3
      go_enter Tryz.func192, Tryz.ntmps192
      go_wp2
      go_returns
      exact ⟨rfl, by go_grown⟩
    · have e1 : lvl i = 2 := by unfold lvl; rw [if_neg (by omega), if_neg (by omega)]
      have e2 : fst i = ((i : Int) - 70) / 64 := by unfold fst; rw [if_neg (by omega), if_neg (by omega)]
      have e3 : snd i = ((i : Int) - 70) % 64 := by unfold snd; rw [if_neg (by omega), if_neg (by omega)]
      rw [e1, e2, e3]
      clear e1 e2 e3
      go_enter Tryz.func192, Tryz.ntmps192
      go_wp2
      go_returns
      exact ⟨by simp; omega, by go_grown⟩
end Go.Proofs.YtokjlgebkihimaaGreat
namespace Go.Proofs.YtokjlgebkihimaaGreat
open Go.RowKit Go.Maps

/-- what Place answers -/
def plE (i : Int) : Int := if isIx i then 0 else 1
def pl0 (i : Int) : Int := if isIx i then lvl i else 0
def pl1 (i : Int) : Int := if isIx i then fst i else 0
def pl2 (i : Int) : Int := if isIx i then snd i else 0
set_option maxRecDepth 100000 in
theorem ix_nat {i : Int} (h : isIx i = true) : ∃ n : Nat, i = n ∧ n < 4166 := by
  have := of_decide_eq_true h
  exact ⟨i.toNat, by omega, by omega⟩
set_option maxRecDepth 100000 in
theorem lvl_cases (i : Nat) : (i < 6 ∧ lvl i = 0 ∧ fst i = i ∧ snd i = 0) ∨ (6 ≤ i ∧ i < 70 ∧ lvl i = 1 ∧ fst i = (i : Int) - 6 ∧ snd i = 0) ∨ (70 ≤ i ∧ lvl i = 2 ∧ fst i = ((i : Int) - 70) / 64 ∧ snd i = ((i : Int) - 70) % 64) := by
  unfold lvl fst snd
  by_cases h1 : i < 6
  · left; rw [if_pos (by omega), if_pos (by omega), if_pos (by omega)]; exact ⟨h1, rfl, rfl, rfl⟩
  · by_cases h2 : i < 70
    · right; left; rw [if_neg (by omega), if_pos (by omega), if_neg (by omega), if_pos (by omega), if_neg (by omega), if_pos (by omega)]; exact ⟨by omega, h2, rfl, rfl, rfl⟩
    · right; right; rw [if_neg (by omega), if_neg (by omega), if_neg (by omega), if_neg (by omega), if_neg (by omega), if_neg (by omega)]; exact ⟨by omega, rfl, rfl, rfl⟩
set_option maxRecDepth 100000 in
theorem place_any (i : Int) (w : World) : Calls Tryz.prog 177 #[.int .i64 i] w fun e w' => e = .returned (.tuple #[.int .i64 (pl0 i), .int .i64 (pl1 i), .int .i64 (pl2 i), .int .i64 (plE i)]) ∧ Below w.heap.size w w' := by
  have HI := hid (isIndex_any i)
  cases h : isIx i with
  | false =>
    rw [h] at HI
    unfold pl0 pl1 pl2 plE
    rw [h]
    simp only [Bool.false_eq_true, if_false]
    clear h
    go_enter Tryz.func177, Tryz.ntmps177
    go_wp2_with (first | (go_at_call 191; refine (HI.out _).mono ?_; rintro e w1 ⟨rfl, rfl⟩))
    go_returns
    exact ⟨rfl, Below.refl _ _⟩
  | true =>
    rw [h] at HI
    unfold pl0 pl1 pl2 plE
    rw [h]
    simp only [if_true]
    obtain ⟨n, rfl, hn⟩ := ix_nat h
    have HP := hid (placeOf_any n hn)
    clear h
    obtain ⟨a, ha⟩ : ∃ a, a = lvl n := ⟨_, rfl⟩
    obtain ⟨b, hb⟩ : ∃ a, a = fst n := ⟨_, rfl⟩
    obtain ⟨c, hc⟩ : ∃ a, a = snd n := ⟨_, rfl⟩
    rw [← ha, ← hb, ← hc] at HP ⊢
    clear ha hb hc
    go_enter Tryz.func177, Tryz.ntmps177
    go_wp2_with (first | (go_at_call 191; refine (HI.out _).mono ?_; rintro e w1 ⟨rfl, rfl⟩) | (go_at_call 192; refine (HP.out _).mono ?_; rintro e w2 ⟨rfl, hb2⟩))
    go_quiet ((fail))
    go_wp2
    go_returns
    exact ⟨rfl, (hb2.next (below_alloc _ _)).dN _⟩
set_option maxRecDepth 100000 in
theorem rplace_ok (n : Nat) (hn : n < 4166) (w : World) : Calls Tryz.prog 97 #[.int .i64 n] w fun e w' => e = .returned (.tuple #[.int .i64 (lvl n), .int .i64 (fst n), .int .i64 (snd n), .int .i64 0]) ∧ w' = w := by
  rcases lvl_cases n with ⟨h1, e1, e2, e3⟩ | ⟨h0, h1, e1, e2, e3⟩ | ⟨h1, e1, e2, e3⟩
  · rw [e1, e2, e3]
    clear e1 e2 e3
    go_enter Tryz.func97, Tryz.ntmps97
    go_wp2
    go_returns
    exact ⟨rfl, rfl⟩
  · rw [e1, e2, e3]
    clear e1 e2 e3
    go_enter Tryz.func97, Tryz.ntmps97
    go_wp2
    go_returns
    exact ⟨rfl, rfl⟩
  · rw [e1, e2, e3]
    clear e1 e2 e3
    obtain ⟨m, rfl⟩ : ∃ m, n = 70 + m := ⟨n - 70, by omega⟩
    go_enter Tryz.func97, Tryz.ntmps97
    go_wp2
    go_loop [0, 6] (fun x a => ∃ j : Nat, 64 * j ≤ m ∧ x = .int .i64 ((m : Int) - 64 * j) ∧ a = .int .i64 j) (fun x _ => (intOf x).toNat)
    case atStart => exact ⟨0, by omega, by simp; omega, rfl⟩
    case round =>
      obtain ⟨j, hj, rfl, rfl⟩ := hrel
      by_cases hlt : 64 * (j + 1) ≤ m
      · go_wp2
        go_round
        case rel => exact ⟨j + 1, hlt, by simp; omega, by go_num⟩
        case measure => simp [intOf]; omega
      · go_wp2
        go_returns
        exact ⟨by simp; omega, rfl⟩
set_option maxRecDepth 100000 in
theorem rplace_any (i : Int) (w : World) : Calls Tryz.prog 97 #[.int .i64 i] w fun e w' => e = .returned (.tuple #[.int .i64 (pl0 i), .int .i64 (pl1 i), .int .i64 (pl2 i), .int .i64 (plE i)]) ∧ w' = w := by
  cases h : isIx i with
  | false =>
    unfold pl0 pl1 pl2 plE
    rw [h]
    simp only [Bool.false_eq_true, if_false]
    have h' := of_decide_eq_false h
    rcases (show i < 0 ∨ (¬ i < 0 ∧ 4166 ≤ i) by omega) with h1 | ⟨h1, h2⟩
    · clear h h'
      go_enter Tryz.func97, Tryz.ntmps97
      go_wp2
      go_returns
      exact ⟨rfl, rfl⟩
    · clear h h'
      go_enter Tryz.func97, Tryz.ntmps97
      go_wp2
      go_returns
      exact ⟨rfl, rfl⟩
  | true =>
    obtain ⟨n, rfl, hn⟩ := ix_nat h
    unfold pl0 pl1 pl2 plE
    rw [h]
    exact rplace_ok n hn w
end Go.Proofs.YtokjlgebkihimaaGreat
namespace Go.Proofs.YtokjlgebkihimaaGreat
open Go.RowKit Go.Maps

def parE (b : ByteArray) (k m : Int) : Int := if b.size = 128 then (if 0 ≤ k ∧ k < m then 0 else 6) else 4
set_option maxRecDepth 100000 in
theorem par_cases (b : ByteArray) (k m : Int) : (b.size ≠ 128 ∧ parE b k m = 4) ∨ (b.size = 128 ∧ ((k < 0 ∧ parE b k m = 6) ∨ (¬ k < 0 ∧ m ≤ k ∧ parE b k m = 6) ∨ (∃ n : Nat, k = n ∧ (n : Int) < m ∧ parE b k m = 0))) := by
  unfold parE
  by_cases h : b.size = 128
  · right
    refine ⟨h, ?_⟩
    rw [if_pos h]
    by_cases h1 : k < 0
    · left; exact ⟨h1, by rw [if_neg (by omega)]⟩
    · by_cases h2 : k < m
      · right; right; exact ⟨k.toNat, by omega, by omega, by rw [if_pos (by omega)]⟩
      · right; left; exact ⟨h1, by omega, by rw [if_neg (by omega)]⟩
  · left; exact ⟨h, by rw [if_neg h]⟩
set_option maxRecDepth 100000 in
theorem checkPart_any (b : ByteArray) (k m : Int) (w : World) : Calls Tryz.prog 119 #[.string b, .int .i64 k, .int .i64 m] w fun e w' => e = .returned (.int .i64 (parE b k m)) ∧ w' = w := by
  rcases par_cases b k m with ⟨h, e⟩ | ⟨h, ⟨h1, e⟩ | ⟨h1, h2, e⟩ | ⟨n, rfl, h1, e⟩⟩
  all_goals
    rw [e]
    clear e
    go_enter Tryz.func119, Tryz.ntmps119
    go_wp2
    go_ret
    exact ⟨rfl, rfl⟩
set_option maxRecDepth 100000 in
theorem part32 (b : ByteArray) (k : Nat) (hb : b.size = 128) (hk : k < 4) (w : World) : Calls Tryz.prog 131 #[.string b, .int .i64 k, .int .i64 32] w fun e w' => e = .returned (.string (b.extract (32 * k) (32 * k + 32))) ∧ w' = w := by
  have e1 : ((k : Int) * 32).toNat = 32 * k := by omega
  have e2 : (((k : Int) + 1) * 32).toNat = 32 * k + 32 := by omega
  go_enter Tryz.func131, Tryz.ntmps131
  go_wp2
  go_ret
  exact ⟨by first | rfl | (rw [e1, e2]; rfl), rfl⟩
set_option maxRecDepth 100000 in
theorem part2 (b : ByteArray) (k : Nat) (hb : b.size = 128) (hk : k < 64) (w : World) : Calls Tryz.prog 131 #[.string b, .int .i64 k, .int .i64 2] w fun e w' => e = .returned (.string (b.extract (2 * k) (2 * k + 2))) ∧ w' = w := by
  have e1 : ((k : Int) * 2).toNat = 2 * k := by omega
  have e2 : (((k : Int) + 1) * 2).toNat = 2 * k + 2 := by omega
  go_enter Tryz.func131, Tryz.ntmps131
  go_wp2
  go_ret
  exact ⟨by first | rfl | (rw [e1, e2]; rfl), rfl⟩
set_option maxRecDepth 100000 in
theorem with_q (b s : ByteArray) (k k1 z lo hi : Nat) (hb : b.size = 128) (hs : s.size = z) (h1 : IntKind.i64.wrap ((k : Int) * z) = (lo : Int)) (h2 : IntKind.i64.wrap ((k : Int) + 1) = (k1 : Int)) (h3 : IntKind.i64.wrap ((k1 : Int) * z) = (hi : Int)) (l1 : lo ≤ 128) (l2 : hi ≤ 128) (hz : z ≤ 128) (w : World) :
    Calls Tryz.prog 121 #[.string b, .int .i64 k, .string s] w fun e w' => e = .returned (.string (b.extract 0 lo ++ s ++ b.extract hi 128)) ∧ ∃ m, w' = w.drewN m := by
  have l1' : (lo : Int) ≤ 128 := by omega
  have l2' : (hi : Int) ≤ 128 := by omega
  have z1 : (b.extract 0 lo).size = lo := by simp; omega
  have z2 : (b.extract hi 128).size = 128 - hi := by simp; omega
  go_enter Tryz.func121, Tryz.ntmps121
  go_wp2
  go_quiet ((fail))
  go_wp2
  go_ret
  exact ⟨rfl, _, rfl⟩
set_option maxRecDepth 100000 in
theorem with_any (b s : ByteArray) (k z : Nat) (hb : b.size = 128) (hs : s.size = z) (hz : z ≠ 0) (hk : (k + 1) * z ≤ 128) (w : World) : Calls Tryz.prog 121 #[.string b, .int .i64 k, .string s] w fun e w' => e = .returned (.string (b.extract 0 (k * z) ++ s ++ b.extract ((k + 1) * z) 128)) ∧ ∃ m, w' = w.drewN m := by
  have e1 : k * z ≤ (k + 1) * z := Nat.mul_le_mul_right _ (by omega)
  · have e2 : k ≤ k * z := Nat.le_mul_of_pos_right k (by omega)
    have e3 : z ≤ (k + 1) * z := Nat.le_mul_of_pos_left z (by omega)
    refine with_q b s k (k + 1) z (k * z) ((k + 1) * z) hb hs ?_ ?_ ?_ (by omega) hk (by omega) w
    · have : ((k : Int) * z) = ((k * z : Nat) : Int) := by simp
      rw [this, IntKind.wrap_i64]; omega
    · rw [IntKind.wrap_i64]; omega
    · have : (((k + 1 : Nat) : Int) * z) = (((k + 1) * z : Nat) : Int) := by simp
      rw [this, IntKind.wrap_i64]; omega
end Go.Proofs.YtokjlgebkihimaaGreat
namespace Go.Proofs.YtokjlgebkihimaaGreat
open Go.RowKit Go.Maps

set_option maxRecDepth 100000 in
theorem getD_str (s : ByteArray) (i : Nat) (h : i < s.size) : s.data.toList.getD i 0 = s[i] := by
  have h' : i < s.data.toList.length := by rw [len_list]; exact h
  rw [List.getD_eq_getElem?_getD, List.getElem?_eq_getElem h']
  rfl
set_option maxRecDepth 100000 in
theorem twoN_le (l : List UInt8) (i : Nat) : 0 ≤ twoN l i ∧ twoN l i < 65536 := by
  unfold twoN
  have h1 := (l.getD i 0).toNat_lt
  have h2 := (l.getD (i + 1) 0).toNat_lt
  omega
def namV (b : ByteArray) (k : Int) : Int := if parE b k 64 = 0 then twoN b.data.toList (2 * k.toNat) else 0
set_option maxRecDepth 100000 in
theorem ext_two (b : ByteArray) (k : Nat) (hb : b.size = 128) (hk : k < 64) : (b.extract (2 * k) (2 * k + 2)).size = 2 ∧ ((fval ((b.extract (2 * k) (2 * k + 2)).data.toList.take 2) : Nat) : Int) = twoN b.data.toList (2 * k) := by
  have hs : (b.extract (2 * k) (2 * k + 2)).size = 2 := by simp; omega
  refine ⟨hs, ?_⟩
  have h1 : 2 * k < b.data.toList.length := by rw [len_list]; omega
  have h2 : 2 * k + 1 < b.data.toList.length := by rw [len_list]; omega
  have e : (b.extract (2 * k) (2 * k + 2)).data.toList = [b.data.toList[2 * k], b.data.toList[2 * k + 1]] := by
    rw [ext_list, List.drop_take, show 2 * k + 2 - 2 * k = 2 by omega, List.drop_eq_getElem_cons h1, List.drop_eq_getElem_cons h2]
    rfl
  rw [e]
  unfold twoN
  rw [List.getD_eq_getElem?_getD, List.getD_eq_getElem?_getD, List.getElem?_eq_getElem h1, List.getElem?_eq_getElem h2]
  simp [fval]
set_option maxRecDepth 100000 in
theorem par_ok {b : ByteArray} {k m : Int} (h : parE b k m = 0) : b.size = 128 ∧ ∃ n : Nat, k = n ∧ (n : Int) < m := by
  rcases par_cases b k m with ⟨_, e⟩ | ⟨h', ⟨_, e⟩ | ⟨_, _, e⟩ | ⟨n, rfl, h1, _⟩⟩
  · omega
  · omega
  · omega
  · exact ⟨h', n, rfl, h1⟩
set_option maxRecDepth 100000 in
theorem name_any (b : ByteArray) (k : Int) (w : World) : Calls Tryz.prog 179 #[.string b, .int .i64 k] w fun e w' => e = .returned (.tuple #[.int .i64 (namV b k), .int .i64 (parE b k 64)]) ∧ Below w.heap.size w w' := by
  have HC := hid (checkPart_any b k 64)
  by_cases h : parE b k 64 = 0
  · unfold namV
    rw [if_pos h, h]
    rw [h] at HC
    obtain ⟨hb, n, rfl, hn⟩ := par_ok h
    have HP := hid (part2 b n hb (by omega))
    obtain ⟨hs, hv⟩ := ext_two b n hb (by omega)
    rw [show ((n : Int)).toNat = n from rfl, ← hv]
    obtain ⟨u, hu⟩ : ∃ u, u = b.extract (2 * n) (2 * n + 2) := ⟨_, rfl⟩
    rw [← hu] at HP hs ⊢
    have HF := hid (fun g w h => fixedr_ok g u 2 (by decide) (by omega) (by decide) (by unfold maxLen; omega) (by have := fval_lt (u.data.toList.take 2); rw [List.length_take, len_list, hs] at this; exact Nat.lt_trans this (by decide)) w h)
    have HO := hid of_any
    have HRN := hid RIs.new
    clear h hu hv
    obtain ⟨x, hx⟩ : ∃ x, x = fval (u.data.toList.take 2) := ⟨_, rfl⟩
    rw [← hx] at HF ⊢
    clear hx
    go_enter Tryz.func179, Tryz.ntmps179
    go_wp2_with (first
      | (go_at_call 119; refine (HC.out _).mono ?_; rintro e w1 ⟨rfl, rfl⟩)
      | (go_at_call 131; refine (HP.out _).mono ?_; rintro e w2 ⟨rfl, rfl⟩)
      | (go_at_call 165; refine (HO.out _ _).mono ?_; rintro e w3 ⟨rfl, rfl⟩)
      | (go_at_call 166; refine (HF.out _ _ (HRN.out _ _)).mono ?_; rintro e w4 ⟨rfl, _, hk4⟩))
    go_ret2
    exact ⟨rfl, (below_alloc _ _).trans (hk4.below (by simp) (Nat.le_refl _))⟩
  · unfold namV
    rw [if_neg h]
    obtain ⟨e, he⟩ : ∃ e, e = parE b k 64 := ⟨_, rfl⟩
    rw [← he] at HC h ⊢
    clear he
    go_enter Tryz.func179, Tryz.ntmps179
    go_wp2_with (first | (go_at_call 119; refine (HC.out _).mono ?_; rintro e w1 ⟨rfl, rfl⟩))
    go_ret2
    exact ⟨rfl, Below.refl _ _⟩
/-- what Rename answers -/
def renE (b : ByteArray) (k tt : Int) : Int := if parE b k 64 = 0 then (if okN tt then 0 else 1) else parE b k 64
def renV (b : ByteArray) (k tt : Int) : ByteArray := if renE b k tt = 0 then b.extract 0 (2 * k.toNat) ++ st (fEnc tt.toNat 2) ++ b.extract (2 * k.toNat + 2) 128 else ByteArray.empty
set_option maxRecDepth 100000 in
set_option maxHeartbeats 1000000 in
theorem rename_any (b : ByteArray) (k tt : Int) (w : World) : Calls Tryz.prog 195 #[.string b, .int .i64 k, .int .i64 tt] w fun e w' => e = .returned (.tuple #[.string (renV b k tt), .int .i64 (renE b k tt)]) ∧ Below w.heap.size w w' := by
  have HC := hid (checkPart_any b k 64)
  by_cases h : parE b k 64 = 0
  · rw [h] at HC
    have HN := hid (isName_any tt)
    cases h2 : okN tt with
    | false =>
      have e1 : renE b k tt = 1 := by unfold renE; rw [if_pos h, h2]; rfl
      have e2 : renV b k tt = ByteArray.empty := by unfold renV; rw [e1]; rfl
      rw [e1, e2]
      rw [h2] at HN
      clear e1 e2 h h2
      go_enter Tryz.func195, Tryz.ntmps195
      go_wp2_with (first
        | (go_at_call 119; refine (HC.out _).mono ?_; rintro e w1 ⟨rfl, rfl⟩)
        | (go_at_call 118; refine (HN.out _).mono ?_; rintro e w2 ⟨rfl, rfl⟩))
      go_ret2
      exact ⟨rfl, Below.refl _ _⟩
    | true =>
      have e1 : renE b k tt = 0 := by unfold renE; rw [if_pos h, h2]; rfl
      obtain ⟨hb, n, rfl, hn⟩ := par_ok h
      have h3 := okN_le h2
      obtain ⟨t, rfl⟩ : ∃ t : Nat, tt = t := ⟨tt.toNat, by omega⟩
      have e2 : renV b n t = b.extract 0 (n * 2) ++ st ([] ++ fEnc t 2) ++ b.extract ((n + 1) * 2) 128 := by
        unfold renV
        rw [if_pos e1, List.nil_append, show n * 2 = 2 * n by omega, show (n + 1) * 2 = 2 * n + 2 by omega]
        rfl
      rw [e1, e2]
      rw [h2] at HN
      have hsz : (st ([] ++ fEnc t 2)).size = 2 := by rw [st_size, List.nil_append, fEnc_len]
      have HW := hid (with_any b (st ([] ++ fEnc t 2)) n 2 hb hsz (by decide) (by omega))
      have HF := hid (fun base g w hw hbase => fixed_w base g t 2 [] (by omega) (by decide) (fitsN (.inr (.inl rfl)) (by omega)) (by simp) w hw hbase)
      obtain ⟨R, hR⟩ : ∃ R, R = b.extract 0 (n * 2) ++ st ([] ++ fEnc t 2) ++ b.extract ((n + 1) * 2) 128 := ⟨_, rfl⟩
      rw [← hR] at HW ⊢
      obtain ⟨u, hu⟩ : ∃ u, st ([] ++ fEnc t 2) = u := ⟨_, rfl⟩
      rw [hu] at HW
      have HU := hid hu
      have HNW := hid new_any
      clear hR hu e1 e2 h h2 hsz
      go_enter Tryz.func195, Tryz.ntmps195
      go_wp2_with (first
        | (go_at_call 119; refine (HC.out _).mono ?_; rintro e w1 ⟨rfl, rfl⟩)
        | (go_at_call 118; refine (HN.out _).mono ?_; rintro e w ⟨rfl, rfl⟩)
        | (go_at_call 150; refine (HNW.out _).mono ?_; rintro e w3 ⟨rfl, rfl⟩)
        | (go_at_call 151; refine (HF.out w.heap.size w.heap.size _ (WIs.new w _) (by simp)).mono ?_; rintro e w4 ⟨rfl, hw4, hk4⟩; have HW4 := hid hw4; have HK4 := hid hk4; clear hw4 hk4)
        | (go_at_call 152; refine (out_is _ _ _ _ HW4.out u HU.out).mono ?_; rintro e w5 ⟨rfl, hw5⟩; rw [← hw5] at HK4; clear hw5)
        | (go_at_call 121; refine (HW.out _).mono ?_; rintro e w6 ⟨rfl, m, rfl⟩))
      go_ret2
      exact ⟨rfl, ((below_alloc w _).trans (HK4.out.below (Nat.le_refl _) (Nat.le_refl _))).dN _⟩
  · have e1 : renE b k tt = parE b k 64 := by unfold renE; rw [if_neg h]
    have e2 : renV b k tt = ByteArray.empty := by unfold renV; rw [e1, if_neg h]
    rw [e1, e2]
    obtain ⟨e, he⟩ : ∃ e, e = parE b k 64 := ⟨_, rfl⟩
    rw [← he] at HC h ⊢
    clear he e1 e2
    go_enter Tryz.func195, Tryz.ntmps195
    go_wp2_with (first | (go_at_call 119; refine (HC.out _).mono ?_; rintro e w1 ⟨rfl, rfl⟩))
    go_ret2
    exact ⟨rfl, Below.refl _ _⟩
end Go.Proofs.YtokjlgebkihimaaGreat
namespace Go.Proofs.YtokjlgebkihimaaGreat
open Go.RowKit Go.Maps

def getI (b : ByteArray) (k : Int) : Ino := if parE b k 4 = 0 then decI (b.extract (32 * k.toNat) (32 * k.toNat + 32)).data.toList else Ino.zero
def getE (b : ByteArray) (k : Int) : Int := if parE b k 4 = 0 then decE (b.extract (32 * k.toNat) (32 * k.toNat + 32)).data.toList else parE b k 4
set_option maxRecDepth 100000 in
theorem ret16 {a : Act} {w : World} {R : Nat} {m : Ino} {e : Int} {post : Ending → World → Prop} (hb : Box R w m) (h2 : a.tmps.getD 4 undef = .pointer (some ⟨R, 0, none⟩)) (h3 : a.tmps.getD 5 undef = .int .i64 e) (hd : a.defers = []) (hp : post (.returned (.tuple #[m.v, .int .i64 e])) w) : bodyPost Tryz.prog Tryz.f102 post .ret a w := by
  refine bodyPost_ret (v := .tuple #[m.v, .int .i64 e]) ?_ hd hp
  rw [results_cell_tmp (p := 4) (u := 5) (ty := 36) rfl, h2, h3]
  simp [asAddr, Result.andThen, load24 hb]
set_option maxRecDepth 100000 in
set_option maxHeartbeats 1000000 in
theorem get_any (b : ByteArray) (k : Int) (w : World) : Calls Tryz.prog 102 #[.string b, .int .i64 k] w fun e w' => e = .returned (.tuple #[(getI b k).v, .int .i64 (getE b k)]) ∧ Below w.heap.size w w' := by
  have HC := hid (checkPart_any b k 4)
  have HB0 : Hid (Box w.heap.size (w.alloc (.cells #[.int .i64 0, .int .i64 0, .int .i64 0, .int .i64 0, .int .i64 0, .int .i64 0, .int .i64 0, .int .i64 0, .int .i64 0, .int .i64 0, .int .i64 0] 36)) Ino.zero) := box_at _ _
  by_cases h : parE b k 4 = 0
  · have e1 : getI b k = decI (b.extract (32 * k.toNat) (32 * k.toNat + 32)).data.toList := by unfold getI; rw [if_pos h]
    have e2 : getE b k = decE (b.extract (32 * k.toNat) (32 * k.toNat + 32)).data.toList := by unfold getE; rw [if_pos h]
    rw [e1, e2]
    rw [h] at HC
    obtain ⟨hb, n, rfl, hn⟩ := par_ok h
    have HP := hid (part32 b n hb (by omega))
    rw [show ((n : Int)).toNat = n from rfl]
    have hs : (b.extract (32 * n) (32 * n + 32)).size = 32 := by simp; omega
    have HD := hid (decode_any (b.extract (32 * n) (32 * n + 32)) (by rw [hs]; decide))
    obtain ⟨u, hu⟩ : ∃ u, u = b.extract (32 * n) (32 * n + 32) := ⟨_, rfl⟩
    rw [← hu] at HP HD ⊢
    obtain ⟨m, hm⟩ : ∃ m, m = decI u.data.toList := ⟨_, rfl⟩
    obtain ⟨x, hx⟩ : ∃ m, m = decE u.data.toList := ⟨_, rfl⟩
    rw [← hm, ← hx] at HD ⊢
    clear hu hm hx hs e1 e2 h
    go_enter Tryz.func102, Tryz.ntmps102
    go_wp2_with (first
      | (go_at_call 119; refine (HC.out _).mono ?_; rintro e w1 ⟨rfl, hw1⟩; rw [← hw1] at HB0; have HW : Hid (Below w.heap.size w w1) := (by rw [hw1]; exact below_alloc w _); clear hw1)
      | (go_at_call 131; refine (HP.out _).mono ?_; rintro e w2 ⟨rfl, hw2⟩; rw [← hw2] at HB0 HW; clear hw2)
      | (go_at_call 130; refine (HD.out _).mono ?_; rintro e w3 ⟨rfl, hb3⟩; replace HB0 := hid (HB0.out.below hb3); replace HW := hid (HW.out.next hb3); clear hb3)
      | ((with_reducible refine at_store24 w.heap.size Ino.zero m ?_ ?_ HB0.out ?_); rfl; rfl; intro w4 hB4 hk4))
    exact ret16 hB4 rfl rfl rfl ⟨rfl, HW.out.trans (hk4.below HW.out.size (Nat.le_refl _))⟩
  · have e1 : getI b k = Ino.zero := by unfold getI; rw [if_neg h]
    have e2 : getE b k = parE b k 4 := by unfold getE; rw [if_neg h]
    rw [e1, e2]
    obtain ⟨e, he⟩ : ∃ e, e = parE b k 4 := ⟨_, rfl⟩
    rw [← he] at HC h ⊢
    clear he e1 e2
    go_enter Tryz.func102, Tryz.ntmps102
    go_wp2_with (first
      | (go_at_call 119; refine (HC.out _).mono ?_; rintro e w1 ⟨rfl, hw1⟩; rw [← hw1] at HB0; have HW : Hid (Below w.heap.size w w1) := (by rw [hw1]; exact below_alloc w _); clear hw1)
      | ((with_reducible refine at_store24 w.heap.size Ino.zero Ino.zero ?_ ?_ HB0.out ?_); rfl; rfl; intro w4 hB4 hk4))
    exact ret16 hB4 rfl rfl rfl ⟨rfl, HW.out.trans (hk4.below HW.out.size (Nat.le_refl _))⟩
/-- what Put answers -/
def putE (b : ByteArray) (k : Int) (n : Ino) : Int := if parE b k 4 = 0 then chkE n else parE b k 4
def putV (b : ByteArray) (k : Int) (n : Ino) : ByteArray := if putE b k n = 0 then b.extract 0 (32 * k.toNat) ++ st (encL n) ++ b.extract (32 * k.toNat + 32) 128 else ByteArray.empty
set_option maxRecDepth 100000 in
theorem chk_right {n : Ino} (h : chkE n = 0) : rightI n = true := by
  unfold chkE at h
  split at h
  · assumption
  · cases h
set_option maxRecDepth 100000 in
set_option maxHeartbeats 1000000 in
theorem put_any (b : ByteArray) (k : Int) (n : Ino) (w : World) : Calls Tryz.prog 88 #[.string b, .int .i64 k, n.v] w fun e w' => e = .returned (.tuple #[.string (putV b k n), .int .i64 (putE b k n)]) ∧ Below w.heap.size w w' := by
  have HC := hid (checkPart_any b k 4)
  have HE := hid (encode_any n)
  have HV : Hid (∀ i : Nat, k = i → putE b k n = 0 → putV b k n = b.extract 0 (i * 32) ++ st (encL n) ++ b.extract ((i + 1) * 32) 128) := fun i hi h => by
    subst hi
    unfold putV
    rw [if_pos h, show i * 32 = 32 * i by omega, show (i + 1) * 32 = 32 * i + 32 by omega]
    rfl
  have HV0 : Hid (putE b k n ≠ 0 → putV b k n = ByteArray.empty) := fun h => by unfold putV; rw [if_neg h]
  by_cases h : parE b k 4 = 0
  · rw [h] at HC
    have e1 : putE b k n = chkE n := by unfold putE; rw [if_pos h]
    rw [e1] at HV HV0 ⊢
    by_cases h2 : chkE n = 0
    · have hr := chk_right h2
      obtain ⟨hb, i, rfl, hi⟩ := par_ok h
      rw [HV.out i rfl h2, h2]
      have e3 : encV n = st (encL n) := by unfold encV; rw [if_pos hr]
      rw [e3, h2] at HE
      have HW := hid (with_any b (st (encL n)) i 32 hb (by rw [st_size, encL_len]) (by decide) (by omega))
      obtain ⟨R, hR⟩ : ∃ R, R = b.extract 0 (i * 32) ++ st (encL n) ++ b.extract ((i + 1) * 32) 128 := ⟨_, rfl⟩
      rw [← hR] at HW ⊢
      obtain ⟨u, hu⟩ : ∃ u, u = st (encL n) := ⟨_, rfl⟩
      rw [← hu] at HW HE
      clear hR hu e1 e3 h h2 hr HV HV0
      obtain ⟨k, l, z, a, b1, c, d, e, f, s, t⟩ := n
      simp only [Ino.v] at HE ⊢
      go_enter Tryz.func88, Tryz.ntmps88
      go_wp2_with (first
        | (go_at_call 119; refine (HC.out _).mono ?_; rintro e w1 ⟨rfl, rfl⟩)
        | (go_at_call 120; refine (HE.out _).mono ?_; rintro e w2 ⟨rfl, hb2⟩)
        | (go_at_call 121; refine (HW.out _).mono ?_; rintro e w3 ⟨rfl, m, rfl⟩))
      go_ret2
      exact ⟨rfl, ((below_alloc _ _).next hb2).dN _⟩
    · rw [HV0.out h2]
      obtain ⟨x, hx⟩ : ∃ x, x = chkE n := ⟨_, rfl⟩
      obtain ⟨u, hu⟩ : ∃ x, x = encV n := ⟨_, rfl⟩
      rw [← hx] at HE h2 ⊢
      rw [← hu] at HE
      clear hx hu e1 h HV HV0
      obtain ⟨k, l, z, a, b1, c, d, e, f, s, t⟩ := n
      simp only [Ino.v] at HE ⊢
      go_enter Tryz.func88, Tryz.ntmps88
      go_wp2_with (first
        | (go_at_call 119; refine (HC.out _).mono ?_; rintro e w1 ⟨rfl, rfl⟩)
        | (go_at_call 120; refine (HE.out _).mono ?_; rintro e w2 ⟨rfl, hb2⟩))
      go_ret2
      exact ⟨rfl, (below_alloc _ _).next hb2⟩
  · have e1 : putE b k n = parE b k 4 := by unfold putE; rw [if_neg h]
    rw [e1] at HV0 ⊢
    rw [HV0.out h]
    obtain ⟨e, he⟩ : ∃ e, e = parE b k 4 := ⟨_, rfl⟩
    rw [← he] at HC h ⊢
    clear he e1 HV HV0 HE
    obtain ⟨k, l, z, a, b1, c, d, e, f, s, t⟩ := n
    simp only [Ino.v]
    go_enter Tryz.func88, Tryz.ntmps88
    go_wp2_with (first | (go_at_call 119; refine (HC.out _).mono ?_; rintro e w1 ⟨rfl, rfl⟩))
    go_ret2
    exact ⟨rfl, below_alloc _ _⟩
set_option maxRecDepth 100000 in
/-- what was put is got, and no other is changed -/
theorem put_size (b : ByteArray) (k : Nat) (n : Ino) (hb : b.size = 128) (hk : k < 4) : (b.extract 0 (32 * k) ++ st (encL n) ++ b.extract (32 * k + 32) 128).size = 128 := by
  have h1 : (b.extract 0 (32 * k)).size = 32 * k := by simp; omega
  have h2 : (b.extract (32 * k + 32) 128).size = 96 - 32 * k := by simp; omega
  rw [ByteArray.size_append, ByteArray.size_append, h1, h2, st_size, encL_len]
  omega
set_option maxRecDepth 100000 in
theorem put_part (b : ByteArray) (k i : Nat) (n : Ino) (hb : b.size = 128) (hk : k < 4) (_hi : i < 4) :
    ((b.extract 0 (32 * k) ++ st (encL n) ++ b.extract (32 * k + 32) 128).extract (32 * i) (32 * i + 32)).data.toList = if i = k then encL n else (b.extract (32 * i) (32 * i + 32)).data.toList := by
  have hl := len_list b
  rw [ext_list, cat_list, cat_list, ext_list, ext_list, ext_list, st_list, List.drop_zero, List.take_of_length_le (l := b.data.toList) (i := 128) (by omega), List.drop_take, List.drop_take]
  have hA : (b.data.toList.take (32 * k)).length = 32 * k := by rw [List.length_take]; omega
  have hE := encL_len n
  rw [show 32 * i + 32 - 32 * i = 32 by omega]
  by_cases h : i = k
  · subst h
    rw [if_pos rfl, List.append_assoc, List.drop_append_of_le_length (by omega), List.drop_of_length_le (by omega), List.nil_append, List.take_append_of_le_length (by omega), List.take_of_length_le (by omega)]
  · rw [if_neg h]
    by_cases h2 : i < k
    · rw [List.append_assoc, List.drop_append_of_le_length (by omega), List.take_append_of_le_length (by rw [List.length_drop]; omega), List.drop_take, List.take_take, Nat.min_eq_left (by omega)]
    · rw [List.drop_append, List.drop_of_length_le (by rw [List.length_append]; omega), List.nil_append, List.length_append, hA, hE, List.drop_drop, show 32 * k + 32 + (32 * i - (32 * k + 32)) = 32 * i by omega]
end Go.Proofs.YtokjlgebkihimaaGreat
