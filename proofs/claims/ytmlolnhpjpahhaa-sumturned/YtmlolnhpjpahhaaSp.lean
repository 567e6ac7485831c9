import Derived.Test.YtmlolnhpjpahhaaUn
namespace Go.Proofs.Ytmlolnhpjpahhaa
open Go.RowKit

theorem take_body (l : List UInt8) (h : l.length ≤ 122) : (sealL (bodyL l)).take 124 = bodyL l := by
  have hl := bodyL_len l h
  rw [sealL, List.take_append_of_le_length (by omega), List.take_of_length_le (by omega)]
theorem drop_body (l : List UInt8) (h : l.length ≤ 122) : (sealL (bodyL l)).drop 124 = fEnc (crc (bodyL l)) 4 := by
  have hl := bodyL_len l h
  rw [sealL, ← hl, List.drop_left]
theorem take2_body (l : List UInt8) (h : l.length ≤ 122) : big ((sealL (bodyL l)).take 2) = l.length := by
  have e : (sealL (bodyL l)).take 2 = fEnc l.length 2 := by
    have hf := fEnc_len 2 l.length
    rw [sealL, bodyL, List.append_assoc, List.append_assoc]
    conv => lhs; arg 1; rw [← hf]
    exact List.take_left
  rw [e, big_fEnc 2 _ (by omega)]
theorem drop_mid (l : List UInt8) : (bodyL l).drop (2 + l.length) = zs (122 - l.length) := by
  have hf := fEnc_len 2 l.length
  have : 2 + l.length = (fEnc l.length 2 ++ l).length := by rw [List.length_append, hf]
  rw [bodyL, this, List.drop_left]
theorem mid_body (l : List UInt8) : ((bodyL l).take (2 + l.length)).drop 2 = l := by
  have hf := fEnc_len 2 l.length
  have : 2 + l.length = (fEnc l.length 2 ++ l).length := by rw [List.length_append, hf]
  rw [bodyL, this, List.take_left]
  conv => lhs; arg 1; rw [← hf]
  exact List.drop_left
theorem un_block (l : List UInt8) (h : l.length ≤ 122) : unV (st (sealL (bodyL l))) = (st l, 0) := by
  have hl := bodyL_len l h
  have hs : (st (sealL (bodyL l))).size = 128 := by rw [st_size, sealL_len, hl]
  unfold unV
  rw [if_neg (by omega), st_list, take_body l h, drop_body l h, big_fEnc 4 _ (by have := crc_lt (bodyL l); omega), if_neg (by simp), take2_body l h, if_neg (by omega), drop_mid, if_neg (by simp)]
  have : (st (sealL (bodyL l))).extract 2 (2 + l.length) = st l := by
    rw [← st_toList ((st (sealL (bodyL l))).extract 2 (2 + l.length)), ext_list, st_list]
    have e2 : (sealL (bodyL l)).take (2 + l.length) = (bodyL l).take (2 + l.length) := by
      rw [sealL, List.take_append_of_le_length (by omega)]
    rw [e2, mid_body]
  rw [this]
theorem nine : crc [49, 50, 51, 52, 53, 54, 55, 56, 57] = 3808858755 := by decide +kernel

def AB : ByteArray := { data := #[97, 98] }
def D9 : ByteArray := { data := #[49, 50, 51, 52, 53, 54, 55, 56, 57] }
theorem sp_of (w : World) : Calls Try.prog 11 #[.string D9] w fun e w' => e = .returned (.int .i64 3808858755) ∧ w' = w := by
  have h := sumOf D9 (by decide) w
  rw [show D9.data.toList = [49, 50, 51, 52, 53, 54, 55, 56, 57] by rfl, nine] at h
  exact h
set_option maxRecDepth 100000 in
theorem speaks_any (w : World) : Calls Try.prog 15 #[] w fun e w' => e = .returned (.bool true) ∧ Below w.heap.size w w' := by
  have HB := hid (fun w => block_any AB (by decide) w)
  have hs : (st (sealL (bodyL AB.data.toList))).size = 128 := by rw [st_size, sealL_len, bodyL_len _ (by decide)]
  have HU := hid (fun w => unblock_any (st (sealL (bodyL AB.data.toList))) (by rw [hs]; decide) w)
  rw [un_block AB.data.toList (by decide), st_toList] at HU
  obtain ⟨b, hb⟩ : ∃ b, b = st (sealL (bodyL AB.data.toList)) := ⟨_, rfl⟩
  rw [← hb] at HB HU hs
  clear hb
  have hab : (AB.toList == [97, 98]) = true := by rw [Lib.toList_data]; rfl
  go_enter Try.func15, Try.ntmps15
  go_wp2_with (first
    | (go_at_call 16; refine (HB.out _).mono ?_; rintro e w1 ⟨rfl, hb1⟩)
    | (go_at_call 18; refine (HU.out _).mono ?_; rintro e w2 ⟨rfl, hb2⟩)
    | (go_at_call 11; refine (sp_of _).mono ?_; rintro e w3 ⟨rfl, rfl⟩))
  go_ret
  exact ⟨rfl, hb1.trans (hb2.mono hb1.size)⟩
end Go.Proofs.Ytmlolnhpjpahhaa
