import Derived.Test.YtjphfpfagnhelaaWt
import Derived.Laws.BitsAllLaws
namespace Go.Proofs.Ytjphfpfagnhelaa
open Go.RowKit

/-- how many bytes a number has, or what is wrong -/
def scan (most last : Nat) : List UInt8 → Nat → Int × Nat
  | [], _ => (20, 0)
  | c :: t, i => if (c.toNat = 0 ∧ 0 < i) ∨ (last < c.toNat ∧ i + 1 = most) then (4, 0) else if c.toNat < 128 then (0, i + 1) else scan most last t (i + 1)
/-- the number that bytes are -/
def val : List UInt8 → Nat
  | [] => 0
  | c :: t => c.toNat % 128 + 128 * val t
theorem val_snoc (l : List UInt8) (c : UInt8) : val (l ++ [c]) = val l + c.toNat % 128 * 128 ^ l.length := by
  induction l with
  | nil => simp [val]
  | cons a t ih => simp only [List.cons_append, val, ih, List.length_cons, Nat.pow_succ, Nat.mul_add]; rw [Nat.add_assoc]; congr 2; rw [Nat.mul_left_comm, Nat.mul_comm 128]
theorem val_lt (l : List UInt8) : val l < 128 ^ l.length := by
  induction l with
  | nil => simp [val]
  | cons a t ih =>
    simp only [val, List.length_cons, Nat.pow_succ]
    have : a.toNat % 128 < 128 := Nat.mod_lt _ (by decide)
    omega
theorem take_snoc (s : ByteArray) (k : Nat) (h : k < s.size) : s.data.toList.take (k + 1) = s.data.toList.take k ++ [s[k]] := by
  rw [List.take_succ_eq_append_getElem (by simpa using h)]; rfl
theorem drop_cons (s : ByteArray) (k : Nat) (h : k < s.size) : s.data.toList.drop k = s[k] :: s.data.toList.drop (k + 1) := by
  rw [List.drop_eq_getElem_cons (by simpa using h)]; rfl

theorem and127 : ∀ a : Fin 256, bits .and .u8 (a.val : Int) 127 = ((a.val % 128 : Nat) : Int) := by decide +kernel
theorem step_num (x j c : Nat) (hx : x < 128 ^ j) (hj : j ≤ 9) (hc : c < 256) (h9 : j = 9 → c ≤ 1) :
    bits .or .u64 (x : Int) (IntKind.u64.wrap (IntKind.u64.wrap (bits .and .u8 (c : Int) 127) * 2 ^ (7 * j))) = ((x + c % 128 * 128 ^ j : Nat) : Int) := by
  have e1 := and127 ⟨c, hc⟩
  simp only at e1
  have e2 : (2 : Int) ^ (7 * j) = ((128 ^ j : Nat) : Int) := by
    rw [Int.pow_mul]; simp
  have hb : c % 128 * 128 ^ j < 18446744073709551616 := by
    by_cases h : j = 9
    · subst h
      have := h9 rfl
      have : c % 128 ≤ 1 := by omega
      have : c % 128 * 128 ^ 9 ≤ 1 * 128 ^ 9 := Nat.mul_le_mul_right _ this
      omega
    · have h1 : 128 ^ j ≤ 128 ^ 8 := Nat.pow_le_pow_right (by decide) (by omega)
      have h2 : c % 128 * 128 ^ j ≤ 127 * 128 ^ 8 := Nat.mul_le_mul (by omega) h1
      omega
  have hx2 : x < 18446744073709551616 := by
    have h1 : 128 ^ j ≤ 128 ^ 9 := Nat.pow_le_pow_right (by decide) hj
    omega
  have e3 : IntKind.u64.wrap ((c % 128 : Nat) : Int) = ((c % 128 : Nat) : Int) := by rw [IntKind.wrap_u64]; omega
  have hmod : ((c % 128 * 128 ^ j : Nat) : Int) % 18446744073709551616 = ((c % 128 * 128 ^ j : Nat) : Int) := Int.emod_eq_of_lt (Int.natCast_nonneg _) (by have h := Int.ofNat_lt.mpr hb; exact h)
  rw [e1, e3, e2, ← Int.natCast_mul, IntKind.wrap_u64, hmod, u64_or_nat _ _ hx2 hb]
  congr 1
  rw [Nat.or_comm, nat_join (7 * j) _ _ ?_ ?_, Nat.add_comm]
  · rw [Nat.pow_mul]; exact Nat.mul_mod_left _ _
  · rw [Nat.pow_mul]; exact hx
theorem zero_case (x c : Nat) (hx : x < 128 ^ 0) (hc : c = 0) : bits .or .u64 (x : Int) (IntKind.u64.wrap (IntKind.u64.wrap (bits .and .u8 0 127))) = ((x + c % 128 * 128 ^ 0 : Nat) : Int) := by
  have : x = 0 := by simpa using hx
  subst this; subst hc; decide
theorem take_val (s : ByteArray) (j x : Nat) (h : j < s.size) (hx : x = val (s.data.toList.take j)) : x < 128 ^ j ∧ val (s.data.toList.take (j + 1)) = x + s[j].toNat % 128 * 128 ^ j := by
  have hl : (s.data.toList.take j).length = j := by rw [List.length_take, Array.length_toList]; exact Nat.min_eq_left (Nat.le_of_lt h)
  refine ⟨by rw [hx]; have := val_lt (s.data.toList.take j); rwa [hl] at this, ?_⟩
  rw [take_snoc s j h, val_snoc, hl, ← hx]
theorem fin_ok {s : ByteArray} {most last j x : Nat} {V : Int} (h : j < s.size) (hx : x = val (s.data.toList.take j)) (hV : V = ((x + s[j].toNat % 128 * 128 ^ j : Nat) : Int)) (hsc : scan most last s.data.toList 0 = (0, j + 1)) (w : World) :
    ∃ (x k : Nat) (er : Int), Ending.returned (.tuple #[.int .u64 V, .int .i64 ((j : Int) + 1), .int .i64 0]) = .returned (.tuple #[.int .u64 x, .int .i64 k, .int .i64 er]) ∧ scan most last s.data.toList 0 = (er, k) ∧ (er ≠ 0 → x = 0) ∧ (er = 0 → x = val (s.data.toList.take k)) ∧ w = w :=
  ⟨_, j + 1, 0, by rw [hV]; rfl, hsc, fun h => absurd rfl h, fun _ => (take_val s j x h hx).2.symm, rfl⟩
theorem fin_bad {s : ByteArray} {most last : Nat} {er : Int} (he : er ≠ 0) (hsc : scan most last s.data.toList 0 = (er, 0)) (w : World) :
    ∃ (x k : Nat) (er' : Int), Ending.returned (.tuple #[.int .u64 0, .int .i64 0, .int .i64 er]) = .returned (.tuple #[.int .u64 x, .int .i64 k, .int .i64 er']) ∧ scan most last s.data.toList 0 = (er', k) ∧ (er' ≠ 0 → x = 0) ∧ (er' = 0 → x = val (s.data.toList.take k)) ∧ w = w :=
  ⟨0, 0, er, rfl, hsc, fun _ => rfl, fun h => absurd h he, rfl⟩

set_option maxRecDepth 100000 in
set_option maxHeartbeats 2000000 in
theorem number_r (s : ByteArray) (most last : Nat) (hm1 : 9 ≤ most) (hm2 : most ≤ 10) (hl : last ≤ 127) (hl10 : most = 10 → last = 1) (hs : s.size ≤ maxLen) (w : World) :
    Calls Try.prog 71 #[.string s, .int .i64 most, .int .u8 last] w fun e w' => ∃ (x k : Nat) (er : Int), e = .returned (.tuple #[.int .u64 x, .int .i64 k, .int .i64 er]) ∧ scan most last s.data.toList 0 = (er, k) ∧ (er ≠ 0 → x = 0) ∧ (er = 0 → x = val (s.data.toList.take k)) ∧ w' = w := by
  unfold maxLen at hs
  have HL : Hid (most = 10 → last = 1) := hl10
  clear hl10
  go_enter Try.func71, Try.ntmps71
  go_wp2
  go_loop [9, 14] (fun u i => ∃ j x : Nat, j ≤ s.size ∧ j < most ∧ i = .int .i64 j ∧ u = .int .u64 x ∧ x = val (s.data.toList.take j) ∧ scan most last s.data.toList 0 = scan most last (s.data.toList.drop j) j) (fun _ i => s.size - (intOf i).toNat)
  case atStart => exact ⟨0, 0, Nat.zero_le _, by omega, rfl, rfl, rfl, rfl⟩
  case round =>
    obtain ⟨j, x, hj, hjm, rfl, rfl, hx, hsc⟩ := hrel
    have HX : Hid (x = val (s.data.toList.take j)) := hx
    have HS : Hid (scan most last s.data.toList 0 = scan most last (s.data.toList.drop j) j) := hsc
    clear hx hsc
    by_cases hlt : j < s.size
    · have hc : s[j].toNat < 256 := s[j].toNat_lt
      have TV := take_val s j x hlt HX.out
      have SC : Hid (scan most last s.data.toList 0 = if (s[j].toNat = 0 ∧ 0 < j) ∨ (last < s[j].toNat ∧ j + 1 = most) then (4, 0) else if s[j].toNat < 128 then (0, j + 1) else scan most last (s.data.toList.drop (j + 1)) (j + 1)) := by
        show _ = _
        rw [HS.out, drop_cons s j hlt, scan]
      have HT : Hid (x < 128 ^ j ∧ val (s.data.toList.take (j + 1)) = x + s[j].toNat % 128 * 128 ^ j) := TV
      clear TV HS
      by_cases hj0 : j = 0
      · subst hj0
        by_cases hc0 : s[0].toNat < 128
        · go_wp2
          all_goals
            go_ret3
            exact fin_ok (j := 0) hlt HX.out (by have hq := step_num x 0 _ HT.out.1 (by omega) hc (fun h9 => by omega); first | exact zero_case x _ HT.out.1 (by assumption) | simpa using hq) (by rw [SC.out, if_neg (by omega), if_pos hc0]) _
        · go_wp2
          go_round
          case rel => exact ⟨1, _, by omega, by omega, rfl, by have := step_num x 0 _ HT.out.1 (by omega) hc (fun h9 => by omega); simp at this ⊢; rw [this]; rfl, by have := HT.out.2.symm; simpa using this, by rw [SC.out, if_neg (by omega), if_neg hc0]⟩
          case measure => simp [intOf]; omega
      have hj1 : 0 < j := by omega
      clear hj0
      by_cases hjm2 : j + 1 = most
      · go_wp2
        all_goals first
          | (go_ret3; exact fin_ok hlt HX.out (step_num x j _ HT.out.1 (by omega) hc (fun h9 => by have := HL.out (by omega); omega)) (by rw [SC.out, if_neg (by omega), if_pos (by omega)]) _)
          | (go_ret3; exact fin_bad (by decide) (by rw [SC.out, if_pos (by omega)]) _)
      · go_wp2
        all_goals first
          | (go_ret3; exact fin_ok hlt HX.out (step_num x j _ HT.out.1 (by omega) hc (fun h9 => by omega)) (by rw [SC.out, if_neg (by omega), if_pos (by omega)]) _)
          | (go_ret3; exact fin_bad (by decide) (by rw [SC.out, if_pos (by omega)]) _)
          | skip
        go_round
        case rel => exact ⟨j + 1, _, by omega, by omega, by go_num, by rw [step_num x j _ HT.out.1 (by omega) hc (fun h9 => by omega)], HT.out.2.symm, by rw [SC.out, if_neg (by omega), if_neg (by omega)]⟩
        case measure => simp [intOf]; omega
    · go_wp2
      go_ret3
      exact fin_bad (by decide) (by rw [HS.out, List.drop_of_length_le (by rw [Array.length_toList]; exact Nat.le_of_not_lt hlt)]; rfl) _
end Go.Proofs.Ytjphfpfagnhelaa
