import Derived.Test.YtopebghandojbaaGreatCof
namespace Go.Proofs.YtopebghandojbaaGreat
open Go.RowKit

theorem toNat64 (a : Nat) (h : a < 4294967296) : (BitVec.ofInt 64 (a : Int)).toNat = a := by
  rw [BitVec.ofInt_natCast, BitVec.toNat_ofNat]; exact Nat.mod_eq_of_lt (by omega)
theorem toNat32 (a : Nat) (h : a < 4294967296) : (BitVec.ofInt 32 (a : Int)).toNat = a := by
  rw [BitVec.ofInt_natCast, BitVec.toNat_ofNat]; exact Nat.mod_eq_of_lt (by omega)
theorem bx32 {a b : Nat} (ha : a < 4294967296) (hb : b < 4294967296) : bits .xor .u32 (a : Int) (b : Int) = ((a ^^^ b : Nat) : Int) := by
  show IntKind.u32.wrap (((BitVec.ofInt 32 (a : Int) ^^^ BitVec.ofInt 32 (b : Int)).toNat : Nat) : Int) = _
  rw [BitVec.toNat_xor, toNat32 _ ha, toNat32 _ hb, IntKind.wrap_u32]
  have := Nat.xor_lt_two_pow (n := 32) ha hb
  omega
theorem ba32 {a b : Nat} (ha : a < 4294967296) (hb : b < 4294967296) : bits .and .u32 (a : Int) (b : Int) = ((a &&& b : Nat) : Int) := by
  show IntKind.u32.wrap (((BitVec.ofInt 32 (a : Int) &&& BitVec.ofInt 32 (b : Int)).toNat : Nat) : Int) = _
  rw [BitVec.toNat_and, toNat32 _ ha, toNat32 _ hb, IntKind.wrap_u32]
  have := Nat.and_lt_two_pow (n := 32) a hb
  omega
theorem bx64 {a b : Nat} (ha : a < 4294967296) (hb : b < 4294967296) : bits .xor .i64 (a : Int) (b : Int) = ((a ^^^ b : Nat) : Int) := by
  show IntKind.i64.wrap (((BitVec.ofInt 64 (a : Int) ^^^ BitVec.ofInt 64 (b : Int)).toNat : Nat) : Int) = _
  rw [BitVec.toNat_xor, toNat64 _ ha, toNat64 _ hb, IntKind.wrap_i64]
  have := Nat.xor_lt_two_pow (n := 32) ha hb
  omega
theorem Tn_snoc (k r : Nat) : Tn (k + 1) r = T (Tn k r) := by rw [Tn_add]; rfl
theorem and_one' (a : Nat) : a &&& 1 = a % 2 := by
  exact Nat.and_two_pow_sub_one_eq_mod a 1
theorem step32 (y : Nat) (h : y < 4294967296) : bits .xor .u32 ((y : Int) / 2) (bits .and .u32 2197175160 (-bits .and .u32 (y : Int) 1 % 4294967296)) = (T y : Int) := by
  have e1 : bits .and .u32 (y : Int) 1 = ((y % 2 : Nat) : Int) := by
    have := ba32 h (show 1 < 4294967296 by decide)
    rw [and_one'] at this
    exact this
  rw [e1, show (y : Int) / 2 = ((y / 2 : Nat) : Int) by omega]
  unfold T
  rcases (show y % 2 = 0 ∨ y % 2 = 1 by omega) with h0 | h0
  · rw [h0, if_neg (by decide)]
    have e2 : bits .and .u32 2197175160 (-((0 : Nat) : Int) % 4294967296) = ((0 : Nat) : Int) := by decide +kernel
    rw [e2, bx32 (by omega) (by decide)]
  · rw [h0, if_pos rfl]
    have e2 : bits .and .u32 2197175160 (-((1 : Nat) : Int) % 4294967296) = ((2197175160 : Nat) : Int) := by decide +kernel
    rw [e2, bx32 (by omega) (by decide)]
theorem end32 (y : Nat) (h : y < 4294967296) : wrap64 (bits .xor .u32 IntKind.u32.max (y : Int)) = ((y ^^^ 4294967295 : Nat) : Int) := by
  have e := bx32 (show 4294967295 < 4294967296 by decide) h
  have e2 : bits .xor .u32 IntKind.u32.max (y : Int) = ((4294967295 ^^^ y : Nat) : Int) := e
  have := Nat.xor_lt_two_pow (n := 32) h (show 4294967295 < 2 ^ 32 by decide)
  rw [e2, Nat.xor_comm]
  unfold wrap64
  omega
theorem reg_take (s : ByteArray) (j : Nat) (h : j < s.size) (r : Nat) : reg (s.data.toList.take (j + 1)) r = Tn 8 (reg (s.data.toList.take j) r ^^^ s[j].toNat) := by
  rw [take_snoc s j h, reg_append]; rfl
theorem len_list (s : ByteArray) : s.data.toList.length = s.size := by rw [Array.length_toList]; rfl
theorem crc_all (s : ByteArray) (j : Nat) (h : ¬ j < s.size) {r : Nat} (hr : r = reg (s.data.toList.take j) 4294967295) : crc s.data.toList = r ^^^ 4294967295 := by
  have hl := len_list s
  rw [hr, List.take_of_length_le (by omega)]; rfl
theorem u8_lt (b : UInt8) : b.toNat < 4294967296 := by have := b.toNat_lt; omega

set_option maxRecDepth 100000 in
set_option maxHeartbeats 1000000 in
theorem sumOf (s : ByteArray) (hs : s.size ≤ maxLen) (w : World) : Calls Tryz.prog 141 #[.string s] w fun e w' => e = .returned (.int .i64 (crc s.data.toList)) ∧ w' = w := by
  unfold maxLen at hs
  go_enter Tryz.func141, Tryz.ntmps141
  go_wp2
  go_loop [3, 8] (fun x i => ∃ j : Nat, i = .int .i64 j ∧ j ≤ s.size ∧ x = .int .u32 (reg (s.data.toList.take j) 4294967295)) (fun _ i => s.size - (intOf i).toNat)
  case atStart => exact ⟨0, rfl, Nat.zero_le _, rfl⟩
  case round =>
    obtain ⟨j, rfl, hj, rfl⟩ := hrel
    obtain ⟨r, hr⟩ : ∃ r, r = reg (s.data.toList.take j) 4294967295 := ⟨_, rfl⟩
    have hrl : r < 4294967296 := by rw [hr]; exact reg_lt _ (by decide)
    rw [← hr]
    have HR : Hid (r = reg (s.data.toList.take j) 4294967295) := hr
    clear hr
    by_cases hlt : j < s.size
    · obtain ⟨z, hz⟩ : ∃ z, z = r ^^^ s[j].toNat := ⟨_, rfl⟩
      have hzl : z < 4294967296 := by rw [hz]; exact Nat.xor_lt_two_pow (n := 32) hrl (u8_lt _)
      have HN : Hid (reg (s.data.toList.take (j + 1)) 4294967295 = Tn 8 z) := by show _ = _; rw [reg_take s j hlt, ← HR.out, hz]
      have HZ : Hid (bits .xor .u32 (r : Int) ((s[j].toNat : Int) % 4294967296) = (z : Int)) := by
        show _ = _
        rw [hz, show (s[j].toNat : Int) % 4294967296 = (s[j].toNat : Int) by have := u8_lt s[j]; omega, bx32 hrl (u8_lt _)]
      clear hz HR
      go_wp2
      go_loop [3, 17] (fun x i => ∃ k : Nat, i = .int .i64 k ∧ k ≤ 8 ∧ x = .int .u32 (Tn k z)) (fun _ i => 8 - (intOf i).toNat)
      case atStart => exact ⟨0, rfl, Nat.zero_le _, by rw [HZ.out]; rfl⟩
      case round =>
        obtain ⟨k, rfl, hk, rfl⟩ := hrel
        obtain ⟨y, hy⟩ : ∃ y, y = Tn k z := ⟨_, rfl⟩
        have hyl : y < 4294967296 := by rw [hy]; exact Tn_lt k hzl
        rw [← hy]
        have HY : Hid (Tn (k + 1) z = T y) := by show _ = _; rw [Tn_snoc, hy]
        have HY2 : Hid (y = Tn k z) := hy
        clear hy
        by_cases hk8 : k < 8
        · go_wp2
          go_round
          case rel => exact ⟨k + 1, by go_num, by omega, by rw [HY.out, step32 y hyl]⟩
          case measure => simp [intOf]; omega
        · have h8 : k = 8 := by omega
          go_wp2
          go_round
          case rel => exact ⟨j + 1, by go_num, by omega, by rw [HN.out, HY2.out, h8]⟩
          case measure => simp [intOf]; omega
    · have HC : Hid (crc s.data.toList = r ^^^ 4294967295) := by
        show _ = _
        exact crc_all s j hlt HR.out
      go_wp2
      go_ret
      refine ⟨ret_int ?_, rfl⟩
      rw [HC.out]
      exact end32 r hrl

theorem stepRef0 (y : Nat) (h : y % 2 = 0) : y / 2 = T y := by unfold T; rw [if_neg (by omega), Nat.xor_zero]
theorem stepRef1 (y : Nat) (hl : y < 4294967296) (h : y % 2 = 1) : bits .xor .i64 ((y : Int) / 2) 2197175160 = (T y : Int) := by
  unfold T
  rw [if_pos h, show (y : Int) / 2 = ((y / 2 : Nat) : Int) by omega]
  exact bx64 (show y / 2 < 4294967296 by omega) (show 2197175160 < 4294967296 by decide)
set_option maxRecDepth 100000 in
set_option maxHeartbeats 1000000 in
theorem refOf (s : ByteArray) (hs : s.size ≤ maxLen) (w : World) : Calls Tryz.prog 140 #[.string s] w fun e w' => e = .returned (.int .i64 (crc s.data.toList)) ∧ w' = w := by
  unfold maxLen at hs
  go_enter Tryz.func140, Tryz.ntmps140
  go_wp2
  go_loop [3, 4] (fun x i => ∃ j : Nat, i = .int .i64 j ∧ j ≤ s.size ∧ x = .int .i64 (reg (s.data.toList.take j) 4294967295)) (fun _ i => s.size - (intOf i).toNat)
  case atStart => exact ⟨0, rfl, Nat.zero_le _, rfl⟩
  case round =>
    obtain ⟨j, rfl, hj, rfl⟩ := hrel
    obtain ⟨r, hr⟩ : ∃ r, r = reg (s.data.toList.take j) 4294967295 := ⟨_, rfl⟩
    have hrl : r < 4294967296 := by rw [hr]; exact reg_lt _ (by decide)
    rw [← hr]
    have HR : Hid (r = reg (s.data.toList.take j) 4294967295) := hr
    clear hr
    by_cases hlt : j < s.size
    · obtain ⟨z, hz⟩ : ∃ z, z = r ^^^ s[j].toNat := ⟨_, rfl⟩
      have hzl : z < 4294967296 := by rw [hz]; exact Nat.xor_lt_two_pow (n := 32) hrl (u8_lt _)
      have HN : Hid (reg (s.data.toList.take (j + 1)) 4294967295 = Tn 8 z) := by show _ = _; rw [reg_take s j hlt, ← HR.out, hz]
      have HZ : Hid (bits .xor .i64 (r : Int) (wrap64 (s[j].toNat : Int)) = (z : Int)) := by
        show _ = _
        rw [hz, show wrap64 (s[j].toNat : Int) = (s[j].toNat : Int) by have := u8_lt s[j]; unfold wrap64; omega, bx64 hrl (u8_lt _)]
      clear hz HR
      go_wp2
      go_loop [3, 5] (fun x i => ∃ k : Nat, i = .int .i64 k ∧ k ≤ 8 ∧ x = .int .i64 (Tn k z)) (fun _ i => 8 - (intOf i).toNat)
      case atStart => exact ⟨0, rfl, Nat.zero_le _, by rw [HZ.out]; rfl⟩
      case round =>
        obtain ⟨k, rfl, hk, rfl⟩ := hrel
        obtain ⟨y, hy⟩ : ∃ y, y = Tn k z := ⟨_, rfl⟩
        have hyl : y < 4294967296 := by rw [hy]; exact Tn_lt k hzl
        rw [← hy]
        have HY : Hid (Tn (k + 1) z = T y) := by show _ = _; rw [Tn_snoc, hy]
        have HY2 : Hid (y = Tn k z) := hy
        clear hy HZ
        by_cases hk8 : k < 8
        · by_cases hp : y % 2 = 1
          · have hp' : (y : Int) % 2 = 1 := by omega
            have HP : Hid (y % 2 = 1) := hp
            clear hp
            go_wp2
            go_round
            case rel => exact ⟨k + 1, by go_num, by omega, by rw [HY.out, stepRef1 y hyl HP.out]⟩
            case measure => simp [intOf]; omega
          · have hp' : (y : Int) % 2 = 0 := by omega
            have HP : Hid (y % 2 = 0) := by show _ = _; omega
            clear hp
            go_wp2
            go_round
            case rel => exact ⟨k + 1, by go_num, by omega, by rw [HY.out, ← stepRef0 y HP.out]; rfl⟩
            case measure => simp [intOf]; omega
        · have h8 : k = 8 := by omega
          go_wp2
          go_round
          case rel => exact ⟨j + 1, by go_num, by omega, by rw [HN.out, HY2.out, h8]⟩
          case measure => simp [intOf]; omega
    · have HC : Hid (crc s.data.toList = r ^^^ 4294967295) := by
        show _ = _
        exact crc_all s j hlt HR.out
      go_wp2
      go_ret
      refine ⟨ret_int ?_, rfl⟩
      rw [HC.out]
      exact bx64 hrl (show 4294967295 < 4294967296 by decide)
end Go.Proofs.YtopebghandojbaaGreat
