import Derived.Test.YtopebghandojbaaGreatOp
import Derived.Test.YtopebghandojbaaGreatRep
namespace Go.Proofs.YtopebghandojbaaGreat
open Go.RowKit

def zs (n : Nat) : List UInt8 := List.replicate n 0
theorem zs_len (n : Nat) : (zs n).length = n := List.length_replicate
theorem zs_succ (n : Nat) : zs (n + 1) = zs n ++ [0] := List.replicate_succ'
theorem rep_zs (n : Nat) : (⟨(Lib.repeatL ({ data := #[0] } : ByteArray).data.toList n).toArray⟩ : ByteArray) = st (zs n) := by
  have h := Lib.repeatL_replicate 0 1 n
  rw [Nat.mul_one] at h
  show (⟨(Lib.repeatL (List.replicate 1 0) n).toArray⟩ : ByteArray) = _
  rw [h]; rfl
theorem noughts_any (n : Nat) (hn : n ≤ 122) (w : World) : Calls Tryz.prog 121 #[.int .i64 n] w fun e w' => e = .returned (.string (st (zs n))) ∧ Below w.heap.size w w' := by
  have HR := hid (fun w => Tryz.strings_Repeat ({ data := #[0] } : ByteArray) n w (by omega) (by show 1 * n ≤ _; omega))
  rw [rep_zs] at HR
  go_enter Tryz.func121, Tryz.ntmps121
  go_wp2_with (first | (go_at_call 142; refine (HR.out _).mono ?_; rintro e w1 ⟨rfl, hb⟩))
  go_ret
  exact ⟨rfl, hb⟩
theorem refZeros (n : Nat) (hn : n ≤ 122) (w : World) : Calls Tryz.prog 124 #[.int .i64 n] w fun e w' => e = .returned (.string (st (zs n))) ∧ w' = w := by
  go_enter Tryz.func124, Tryz.ntmps124
  go_wp2
  go_loop [3, 4] (fun x i => ∃ j : Nat, i = .int .i64 j ∧ j ≤ n ∧ x = .string (st (zs j))) (fun _ i => n - (intOf i).toNat)
  case atStart => exact ⟨0, rfl, Nat.zero_le _, rfl⟩
  case round =>
    obtain ⟨j, rfl, hj, rfl⟩ := hrel
    obtain ⟨u, hu⟩ : ∃ u, u = st (zs j) := ⟨_, rfl⟩
    have hus : u.size ≤ 200 := by rw [hu, st_size, zs_len]; omega
    rw [← hu]
    have HU := hid hu
    clear hu
    by_cases hlt : j < n
    · go_wp2
      go_round
      case rel =>
        refine ⟨j + 1, by go_num, by omega, ?_⟩
        have : u ++ { data := #[0] } = st (zs (j + 1)) := by rw [HU.out, zs_succ]; apply ByteArray.ext; simp [st]
        rw [← this]
      case measure => simp [intOf]; omega
    · have : j = n := by omega
      have HE : Hid (u = st (zs n)) := by rw [← this]; exact HU
      go_wp2
      go_ret
      rw [HE.out]
      exact ⟨rfl, rfl⟩

/-- a block's bytes ahead of its sum -/
def bodyL (l : List UInt8) : List UInt8 := fEnc l.length 2 ++ l ++ zs (122 - l.length)
theorem bodyL_len (l : List UInt8) (h : l.length ≤ 122) : (bodyL l).length = 124 := by
  unfold bodyL; rw [List.length_append, List.length_append, fEnc_len, zs_len]; omega
theorem block_long (s : ByteArray) (h : 122 < s.size) (w : World) : Calls Tryz.prog 88 #[.string s] w fun e w' => e = .returned (.tuple #[.string ByteArray.empty, .int .i64 2]) ∧ w' = w := by
  go_enter Tryz.func88, Tryz.ntmps88
  go_wp2
  go_ret2
  exact ⟨rfl, rfl⟩
theorem ref_long (s : ByteArray) (h : 122 < s.size) (w : World) : Calls Tryz.prog 92 #[.string s] w fun e w' => e = .returned (.tuple #[.string ByteArray.empty, .int .i64 2]) ∧ w' = w := by
  go_enter Tryz.func92, Tryz.ntmps92
  go_wp2
  go_ret2
  exact ⟨rfl, rfl⟩
theorem body_st (s : ByteArray) : st (fEnc s.size 2) ++ s ++ st (zs (122 - s.size)) = st (bodyL s.data.toList) := by
  rw [bodyL, len_list]; apply ByteArray.ext; simp [st]
set_option maxRecDepth 100000 in
set_option maxHeartbeats 1000000 in
theorem block_any (s : ByteArray) (h : s.size ≤ 122) (w : World) : Calls Tryz.prog 88 #[.string s] w fun e w' => e = .returned (.tuple #[.string (st (sealL (bodyL s.data.toList))), .int .i64 0]) ∧ Below w.heap.size w w' := by
  have HS := hid (fun w => seal_any (st (bodyL s.data.toList)) (by rw [st_size, bodyL_len _ (by rw [len_list]; exact h)]; omega) w)
  rw [st_list] at HS
  have HF := hid (fun w => fixed_any s.size 2 (by omega) (by decide) (fits2 _ (by omega)) w)
  have HN := hid (fun w => noughts_any (122 - s.size) (by omega) w)
  obtain ⟨b, hb⟩ : ∃ b, b = st (bodyL s.data.toList) := ⟨_, rfl⟩
  obtain ⟨x, hx⟩ : ∃ x, x = st (fEnc s.size 2) := ⟨_, rfl⟩
  obtain ⟨z, hz⟩ : ∃ z, z = st (zs (122 - s.size)) := ⟨_, rfl⟩
  obtain ⟨r, hr⟩ : ∃ r, r = st (sealL (bodyL s.data.toList)) := ⟨_, rfl⟩
  have hxs : x.size = 2 := by rw [hx, st_size, fEnc_len]
  have hzs : z.size ≤ 122 := by rw [hz, st_size, zs_len]; omega
  have hE : Hid (x ++ s ++ z = b) := by show _ = _; rw [hx, hz, hb, body_st]
  rw [show ((122 - s.size : Nat) : Int) = 122 - (s.size : Int) by omega] at HN
  rw [← hr] at HS ⊢
  rw [← hb] at HS
  rw [← hx] at HF
  rw [← hz] at HN
  clear hb hx hz hr
  go_enter Tryz.func88, Tryz.ntmps88
  go_wp2_with (first
    | (go_at_call 120; refine (HF.out _).mono ?_; rintro e w1 ⟨rfl, hb1⟩)
    | (go_at_call 121; refine (HN.out _).mono ?_; rintro e w2 ⟨rfl, hb2⟩)
    | (go_at_call 119; rw [hE.out]; refine (HS.out _).mono ?_; rintro e w3 ⟨rfl, hb3⟩))
  go_ret2
  exact ⟨rfl, hb1.trans ((hb2.mono hb1.size).trans (hb3.mono (Nat.le_trans hb1.size hb2.size)))⟩
set_option maxRecDepth 100000 in
set_option maxHeartbeats 1000000 in
theorem refBlock (s : ByteArray) (h : s.size ≤ 122) (w : World) : Calls Tryz.prog 92 #[.string s] w fun e w' => e = .returned (.tuple #[.string (st (sealL (bodyL s.data.toList))), .int .i64 0]) ∧ Below w.heap.size w w' := by
  have HS := hid (fun w => refSeal (st (bodyL s.data.toList)) (by rw [st_size, bodyL_len _ (by rw [len_list]; exact h)]; omega) w)
  rw [st_list] at HS
  have HF := hid (fun w => refFixed s.size 2 (by omega) (by decide) w)
  have HN := hid (fun w => refZeros (122 - s.size) (by omega) w)
  obtain ⟨b, hb⟩ : ∃ b, b = st (bodyL s.data.toList) := ⟨_, rfl⟩
  obtain ⟨x, hx⟩ : ∃ x, x = st (fEnc s.size 2) := ⟨_, rfl⟩
  obtain ⟨z, hz⟩ : ∃ z, z = st (zs (122 - s.size)) := ⟨_, rfl⟩
  obtain ⟨r, hr⟩ : ∃ r, r = st (sealL (bodyL s.data.toList)) := ⟨_, rfl⟩
  have hxs : x.size = 2 := by rw [hx, st_size, fEnc_len]
  have hzs : z.size ≤ 122 := by rw [hz, st_size, zs_len]; omega
  have hE : Hid (x ++ s ++ z = b) := by show _ = _; rw [hx, hz, hb, body_st]
  rw [show ((122 - s.size : Nat) : Int) = 122 - (s.size : Int) by omega] at HN
  rw [← hr] at HS ⊢
  rw [← hb] at HS
  rw [← hx] at HF
  rw [← hz] at HN
  clear hb hx hz hr
  go_enter Tryz.func92, Tryz.ntmps92
  go_wp2_with (first
    | (go_at_call 93; refine (HF.out _).mono ?_; rintro e w1 ⟨rfl, hb1⟩)
    | (go_at_call 124; refine (HN.out _).mono ?_; rintro e w2 ⟨rfl, rfl⟩)
    | (go_at_call 123; rw [hE.out]; refine (HS.out _).mono ?_; rintro e w3 ⟨rfl, hb3⟩))
  go_ret2
  exact ⟨rfl, hb1.trans (hb3.mono hb1.size)⟩
end Go.Proofs.YtopebghandojbaaGreat
