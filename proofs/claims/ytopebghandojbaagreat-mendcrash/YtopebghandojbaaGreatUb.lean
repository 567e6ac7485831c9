import Derived.Test.YtopebghandojbaaGreatUn
namespace Go.Proofs.YtopebghandojbaaGreat
open Go.RowKit

theorem take_body (l : List UInt8) (h : l.length ≤ 122) : (sealL (bodyL l)).take 124 = bodyL l := by
  have hl := bodyL_len l h
  rw [sealL, List.take_append_of_le_length (by omega), List.take_of_length_le (by omega)]
theorem drop_body (l : List UInt8) (h : l.length ≤ 122) : (sealL (bodyL l)).drop 124 = fEnc (crc (bodyL l)) 4 := by
  have hl := bodyL_len l h
  rw [sealL, ← hl, List.drop_left]
theorem take2_body (l : List UInt8) (h : l.length ≤ 122) : big ((sealL (bodyL l)).take 2) = l.length := by
  have e : (sealL (bodyL l)).take 2 = fEnc l.length 2 := by
    have hf := fEnc_len 2 l.length
    rw [sealL, bodyL, List.append_assoc, List.append_assoc]
    conv => lhs; arg 1; rw [← hf]
    exact List.take_left
  rw [e, big_fEnc 2 _ (by omega)]
theorem drop_mid (l : List UInt8) : (bodyL l).drop (2 + l.length) = zs (122 - l.length) := by
  have hf := fEnc_len 2 l.length
  have : 2 + l.length = (fEnc l.length 2 ++ l).length := by rw [List.length_append, hf]
  rw [bodyL, this, List.drop_left]
theorem mid_body (l : List UInt8) : ((bodyL l).take (2 + l.length)).drop 2 = l := by
  have hf := fEnc_len 2 l.length
  have : 2 + l.length = (fEnc l.length 2 ++ l).length := by rw [List.length_append, hf]
  rw [bodyL, this, List.take_left]
  conv => lhs; arg 1; rw [← hf]
  exact List.drop_left
theorem un_block (l : List UInt8) (h : l.length ≤ 122) : unV (st (sealL (bodyL l))) = (st l, 0) := by
  have hl := bodyL_len l h
  have hs : (st (sealL (bodyL l))).size = 128 := by rw [st_size, sealL_len, hl]
  unfold unV
  rw [if_neg (by omega), st_list, take_body l h, drop_body l h, big_fEnc 4 _ (by have := crc_lt (bodyL l); omega), if_neg (by simp), take2_body l h, if_neg (by omega), drop_mid, if_neg (by simp)]
  have : (st (sealL (bodyL l))).extract 2 (2 + l.length) = st l := by
    rw [← st_toList ((st (sealL (bodyL l))).extract 2 (2 + l.length)), ext_list, st_list]
    have e2 : (sealL (bodyL l)).take (2 + l.length) = (bodyL l).take (2 + l.length) := by
      rw [sealL, List.take_append_of_le_length (by omega)]
    rw [e2, mid_body]
  rw [this]
/-- a block that is a text's is made of it -/
theorem un_back (b : ByteArray) (h : (unV b).2 = 0) : st (sealL (bodyL (unV b).1.data.toList)) = b ∧ (unV b).1.size ≤ 122 := by
  unfold unV at h ⊢
  by_cases h1 : b.size ≠ 128
  · rw [if_pos h1] at h; exact absurd h (by decide)
  rw [if_neg h1] at h ⊢
  have h1' : b.size = 128 := by omega
  by_cases h2 : crc (b.data.toList.take 124) ≠ big (b.data.toList.drop 124)
  · rw [if_pos h2] at h; exact absurd h (by decide)
  rw [if_neg h2] at h ⊢
  have h2' : crc (b.data.toList.take 124) = big (b.data.toList.drop 124) := by omega
  by_cases h3 : 122 < big (b.data.toList.take 2)
  · rw [if_pos h3] at h; exact absurd h (by decide)
  rw [if_neg h3] at h ⊢
  by_cases h4 : (b.data.toList.take 124).drop (2 + big (b.data.toList.take 2)) ≠ zs (122 - big (b.data.toList.take 2))
  · rw [if_pos h4] at h; exact absurd h (by decide)
  rw [if_neg h4]
  refine ⟨(back_block b h1' h2' _ rfl (by omega)).2 (Decidable.not_not.1 h4), ?_⟩
  show (b.extract 2 (2 + big (b.data.toList.take 2))).size ≤ 122
  rw [ByteArray.size_extract]
  omega
end Go.Proofs.YtopebghandojbaaGreat
