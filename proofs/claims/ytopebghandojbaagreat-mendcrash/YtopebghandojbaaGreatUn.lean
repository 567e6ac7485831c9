import Derived.Test.YtopebghandojbaaGreatBl
namespace Go.Proofs.YtopebghandojbaaGreat
open Go.RowKit

/-- the text that a block is, or why it is none -/
def unV (b : ByteArray) : ByteArray × Int :=
  if b.size ≠ 128 then (ByteArray.empty, 4)
  else if crc (b.data.toList.take 124) ≠ big (b.data.toList.drop 124) then (ByteArray.empty, 30)
  else if 122 < big (b.data.toList.take 2) then (ByteArray.empty, 4)
  else if (b.data.toList.take 124).drop (2 + big (b.data.toList.take 2)) ≠ zs (122 - big (b.data.toList.take 2)) then (ByteArray.empty, 4)
  else (b.extract 2 (2 + big (b.data.toList.take 2)), 0)

theorem open_ok (s : ByteArray) (n : Nat) (hsz : s.size = n + 4) (hs : n ≤ 150000000000000) (h : crc (s.data.toList.take n) = big (s.data.toList.drop n)) (w : World) :
    Calls Tryz.prog 125 #[.string s] w fun e w' => e = .returned (.tuple #[.string (s.extract 0 n), .int .i64 0]) ∧ Below w.heap.size w w' :=
  (open_any s n hsz hs w).mono fun _ _ k => ⟨k.1 h, k.2.2⟩
theorem open_bad (s : ByteArray) (n : Nat) (hsz : s.size = n + 4) (hs : n ≤ 150000000000000) (h : ¬ crc (s.data.toList.take n) = big (s.data.toList.drop n)) (w : World) :
    Calls Tryz.prog 125 #[.string s] w fun e w' => e = .returned (.tuple #[.string ByteArray.empty, .int .i64 30]) ∧ Below w.heap.size w w' :=
  (open_any s n hsz hs w).mono fun _ _ k => ⟨k.2.1 h, k.2.2⟩
theorem refOpen_ok (s : ByteArray) (n : Nat) (hsz : s.size = n + 4) (hs : n ≤ 150000000000000) (h : crc (s.data.toList.take n) = big (s.data.toList.drop n)) (w : World) :
    Calls Tryz.prog 136 #[.string s] w fun e w' => e = .returned (.tuple #[.string (s.extract 0 n), .int .i64 0]) ∧ Below w.heap.size w w' :=
  (refOpen s n hsz hs w).mono fun _ _ k => ⟨k.1 h, k.2.2⟩
theorem refOpen_bad (s : ByteArray) (n : Nat) (hsz : s.size = n + 4) (hs : n ≤ 150000000000000) (h : ¬ crc (s.data.toList.take n) = big (s.data.toList.drop n)) (w : World) :
    Calls Tryz.prog 136 #[.string s] w fun e w' => e = .returned (.tuple #[.string ByteArray.empty, .int .i64 30]) ∧ Below w.heap.size w w' :=
  (refOpen s n hsz hs w).mono fun _ _ k => ⟨k.2.1 h, k.2.2⟩

theorem ext_mid (b : ByteArray) (n : Nat) (hn : n ≤ 122) : (b.extract 0 124).extract 2 (2 + n) = b.extract 2 (2 + n) := by
  apply ByteArray.ext
  apply Array.toList_inj.1
  rw [ext_list, ext_head, ext_list, List.take_take, Nat.min_eq_left (by omega)]
theorem len128 (b : ByteArray) (h : b.size = 128) : (b.extract 0 124).size = 124 := ext_szh b 124 (by omega)
theorem take2 (b : ByteArray) : fval ((b.extract 0 124).data.toList.take 2) = big (b.data.toList.take 2) := by
  rw [ext_head, List.take_take, Nat.min_eq_left (by omega), fval_big]
theorem big2_lt (l : List UInt8) : big (l.take 2) < 65536 := by
  have h := big_lt (l.take 2)
  have : (l.take 2).length ≤ 2 := by rw [List.length_take]; omega
  have := Nat.pow_le_pow_right (n := 256) (by decide) this
  omega
theorem tail_list (b : ByteArray) (n : Nat) : ((b.extract 0 124).extract (2 + n) 124).data.toList = (b.data.toList.take 124).drop (2 + n) := by
  rw [ext_list, ext_head, List.take_take]; rfl
set_option maxRecDepth 100000 in
set_option maxHeartbeats 2000000 in
theorem unblock_any (b : ByteArray) (_hb : b.size ≤ 150000000000000) (w : World) : Calls Tryz.prog 94 #[.string b] w fun e w' => e = .returned (.tuple #[.string (unV b).1, .int .i64 (unV b).2]) ∧ Below w.heap.size w w' := by
  unfold unV
  by_cases h1 : b.size ≠ 128
  · rw [if_pos h1]
    have h1' : ((b.size : Int) == 128) = false := by simp; omega
    go_enter Tryz.func94, Tryz.ntmps94
    go_wp2
    go_ret2
    exact ⟨rfl, Below.refl _ _⟩
  rw [if_neg h1]
  have h1 : b.size = 128 := by omega
  by_cases h2 : crc (b.data.toList.take 124) ≠ big (b.data.toList.drop 124)
  · rw [if_pos h2]
    have HO := hid (fun w => open_bad b 124 h1 (by decide) h2 w)
    clear h2
    go_enter Tryz.func94, Tryz.ntmps94
    go_wp2_with (first | (go_at_call 125; refine (HO.out _).mono ?_; rintro e w1 ⟨rfl, hb1⟩))
    go_ret2
    exact ⟨rfl, hb1⟩
  rw [if_neg h2]
  have h2 : crc (b.data.toList.take 124) = big (b.data.toList.drop 124) := by omega
  have HO := hid (fun w => open_ok b 124 h1 (by decide) h2 w)
  clear h2
  have hz := len128 b h1
  have hn := big2_lt b.data.toList
  have HF := hid (fun g w h => fixedr_ok g (b.extract 0 124) 2 (by decide) (by rw [hz]; decide) (by decide) (by rw [hz]; decide) (by rw [take2 b]; omega) w h)
  rw [take2 b] at HF
  have HM := hid (ext_mid b)
  have HT := hid (tail_list b)
  obtain ⟨n, hn'⟩ : ∃ n, n = big (b.data.toList.take 2) := ⟨_, rfl⟩
  rw [← hn'] at HF hn ⊢
  clear hn'
  obtain ⟨a, ha⟩ : ∃ a, a = b.extract 0 124 := ⟨_, rfl⟩
  rw [← ha] at HF hz HO HM HT
  clear ha
  by_cases h3 : 122 < n
  · rw [if_pos h3]
    go_enter Tryz.func94, Tryz.ntmps94
    go_wp2_with (first
        | (go_at_call 125; refine (HO.out _).mono ?_; rintro e w1 ⟨rfl, hb1⟩)
        | (go_at_call 96; refine (of_any _ _).mono ?_; rintro e w2 ⟨rfl, rfl⟩; have hri := RIs.new a w1)
        | (go_at_call 97; refine (HF.out _ _ hri).mono ?_; rintro e w3 ⟨rfl, hr3, hk3⟩))
    go_ret2
    exact ⟨rfl, hb1.trans (((below_alloc w1 _).trans (hk3.below (by simp) (Nat.le_refl _))).mono hb1.size)⟩
  rw [if_neg h3]
  have hn2 : n ≤ 122 := by omega
  have HN := hid (fun w => noughts_any (122 - n) (by omega) w)
  rw [show ((122 - n : Nat) : Int) = 122 - (n : Int) by omega] at HN
  have HW : Hid (IntKind.i64.wrap (122 - (n : Int)) = 122 - (n : Int)) := by show _ = _; rw [IntKind.wrap_i64]; omega
  by_cases h4 : (b.data.toList.take 124).drop (2 + n) = zs (122 - n)
  · rw [if_neg (not_not_intro h4)]
    have HC : a.extract (2 + n) 124 = st (zs (122 - n)) := by rw [← h4, ← HT.out n, st_toList]
    rw [← HC] at HN
    clear h4 h3 HC
    have HM' := hid (HM.out n hn2)
    clear HM HT
    go_enter Tryz.func94, Tryz.ntmps94
    go_wp2_with (first
        | (go_at_call 125; refine (HO.out _).mono ?_; rintro e w1 ⟨rfl, hb1⟩)
        | (go_at_call 96; refine (of_any _ _).mono ?_; rintro e w2 ⟨rfl, rfl⟩; have hri := RIs.new a w1)
        | (go_at_call 97; refine (HF.out _ _ hri).mono ?_; rintro e w3 ⟨rfl, hr3, hk3⟩))
    go_region_with (go_at_call 121; (try rw [HW.out]); refine (HN.out _).mono ?_; rintro e w4 ⟨rfl, hb4⟩)
    all_goals
      have hbb : Below w.heap.size w w3 := hb1.trans (((below_alloc w1 _).trans (hk3.below (by simp) (Nat.le_refl _))).mono hb1.size)
      go_wp2
      go_ret2
      refine ⟨by first | rfl | (rw [HM'.out]; rfl), ?_⟩
      first
        | exact hbb.trans (hb4.mono hbb.size)
        | exact (hbb.drew.trans (hb4.mono hbb.size))
        | exact (hbb.trans (hb4.mono hbb.size)).drew
  · rw [if_pos h4]
    obtain ⟨z, hz2⟩ : ∃ z, z = st (zs (122 - n)) := ⟨_, rfl⟩
    have HC := str_ne (show ¬ a.extract (2 + n) 124 = z from fun hh => h4 (by rw [← HT.out n, hh, hz2, st_list]))
    rw [← hz2] at HN
    clear h4 h3 hz2
    have HM' := hid (HM.out n hn2)
    clear HM HT
    go_enter Tryz.func94, Tryz.ntmps94
    go_wp2_with (first
        | (go_at_call 125; refine (HO.out _).mono ?_; rintro e w1 ⟨rfl, hb1⟩)
        | (go_at_call 96; refine (of_any _ _).mono ?_; rintro e w2 ⟨rfl, rfl⟩; have hri := RIs.new a w1)
        | (go_at_call 97; refine (HF.out _ _ hri).mono ?_; rintro e w3 ⟨rfl, hr3, hk3⟩))
    go_region_with (go_at_call 121; (try rw [HW.out]); refine (HN.out _).mono ?_; rintro e w4 ⟨rfl, hb4⟩)
    all_goals
      have hbb : Below w.heap.size w w3 := hb1.trans (((below_alloc w1 _).trans (hk3.below (by simp) (Nat.le_refl _))).mono hb1.size)
      go_wp2
      go_ret2
      refine ⟨by first | rfl | (rw [HM'.out]; rfl), ?_⟩
      first
        | exact hbb.trans (hb4.mono hbb.size)
        | exact (hbb.drew.trans (hb4.mono hbb.size))
        | exact (hbb.trans (hb4.mono hbb.size)).drew

theorem back_block (b : ByteArray) (h : b.size = 128) (hs : crc (b.data.toList.take 124) = big (b.data.toList.drop 124)) (n : Nat) (hn : n = big (b.data.toList.take 2)) (hn2 : n ≤ 122) :
    st (sealL (bodyL (b.extract 2 (2 + n)).data.toList)) = b ↔ (b.data.toList.take 124).drop (2 + n) = zs (122 - n) := by
  have hl := len_list b
  obtain ⟨l, hll⟩ : ∃ l, l = b.data.toList := ⟨_, rfl⟩
  rw [ext_list]
  rw [← hll] at hl hs hn ⊢
  have hlen : ((l.take (2 + n)).drop 2).length = n := by rw [List.length_drop, List.length_take]; omega
  have hd4 : (l.drop 124).length = 4 := by rw [List.length_drop]; omega
  have h2 : fEnc n 2 = l.take 2 := by
    have := fEnc_big (l.take 2)
    rw [List.length_take, show min 2 l.length = 2 by omega, ← hn] at this
    exact this
  have hsum : fEnc (crc (l.take 124)) 4 = l.drop 124 := by
    have := fEnc_big (l.drop 124)
    rw [hd4, ← hs] at this
    exact this
  have hsplit : l.take 124 = l.take 2 ++ (l.take (2 + n)).drop 2 ++ (l.take 124).drop (2 + n) := by
    have e1 : l.take 2 = (l.take (2 + n)).take 2 := by rw [List.take_take]; congr 1; omega
    have e2 : l.take (2 + n) = (l.take 124).take (2 + n) := by rw [List.take_take]; congr 1; omega
    rw [e1, List.take_append_drop, e2, List.take_append_drop]
  have hb : bodyL ((l.take (2 + n)).drop 2) = l.take 2 ++ (l.take (2 + n)).drop 2 ++ zs (122 - n) := by rw [bodyL, hlen, h2]
  constructor
  · intro hh
    have h3 : sealL (bodyL ((l.take (2 + n)).drop 2)) = l := by
      have h9 := congrArg (fun x => x.data.toList) hh
      simp only [st_list] at h9
      rw [h9, ← hll]
    rw [sealL] at h3
    have h4 := congrArg (List.take 124) h3
    rw [List.take_append_of_le_length (by rw [bodyL_len _ (by omega)]; exact Nat.le_refl _), List.take_of_length_le (by rw [bodyL_len _ (by omega)]; exact Nat.le_refl _), hb] at h4
    conv at h4 => rhs; rw [hsplit]
    exact (List.append_cancel_left h4).symm
  · intro hh
    have h3 : bodyL ((l.take (2 + n)).drop 2) = l.take 124 := by rw [hb, ← hh]; exact hsplit.symm
    rw [h3, sealL, hsum, List.take_append_drop, hll, st_toList]
theorem below_drewN {B : Nat} {w w' : World} (h : Below B w w') (n : Nat) : Below B w (w'.drewN n) := ⟨h.os, h.tape, h.output, h.size, h.block⟩
theorem n_two (b : ByteArray) (h : b.size = 128) : big (b.data.toList.take 2) = (b[0]'(by omega)).toNat + 256 * (b[1]'(by omega)).toNat := by
  rw [take_snoc b 1 (by omega), take_snoc b 0 (by omega)]
  show big ([] ++ [_] ++ [_]) = _
  simp [big]

set_option maxRecDepth 100000 in
set_option maxHeartbeats 2000000 in
theorem refUnblock (b : ByteArray) (hb : b.size ≤ 150000000000000) (w : World) : Calls Tryz.prog 107 #[.string b] w fun e w' => e = .returned (.tuple #[.string (unV b).1, .int .i64 (unV b).2]) ∧ Below w.heap.size w w' := by
  unfold unV
  by_cases h1 : b.size ≠ 128
  · rw [if_pos h1]
    have h1' : ((b.size : Int) == 128) = false := by simp; omega
    go_enter Tryz.func107, Tryz.ntmps107
    go_wp2
    go_ret2
    exact ⟨rfl, Below.refl _ _⟩
  rw [if_neg h1]
  have h1 : b.size = 128 := by omega
  by_cases h2 : crc (b.data.toList.take 124) ≠ big (b.data.toList.drop 124)
  · rw [if_pos h2]
    have HO := hid (fun w => refOpen_bad b 124 h1 (by decide) h2 w)
    clear h2
    go_enter Tryz.func107, Tryz.ntmps107
    go_wp2_with (first | (go_at_call 136; refine (HO.out _).mono ?_; rintro e w1 ⟨rfl, hb1⟩))
    go_ret2
    exact ⟨rfl, hb1⟩
  rw [if_neg h2]
  have h2 : crc (b.data.toList.take 124) = big (b.data.toList.drop 124) := by omega
  have HO := hid (fun w => refOpen_ok b 124 h1 (by decide) h2 w)
  have HN2 := n_two b h1
  have hn := big2_lt b.data.toList
  have HB := hid (back_block b h1 h2 _ rfl)
  clear h2
  obtain ⟨n, hn'⟩ : ∃ n, n = big (b.data.toList.take 2) := ⟨_, rfl⟩
  rw [← hn'] at HN2 hn HB ⊢
  clear hn'
  have HNI := hid HN2
  clear HN2
  have hx0 : 0 < b.size := by omega
  have hx1 : 1 < b.size := by omega
  have HWN : Hid (wrap64 (wrap64 ((b[0]'hx0).toNat : Int) + wrap64 ((256 : Int) * wrap64 ((b[1]'hx1).toNat : Int))) = (n : Int)) := by
    show _ = _
    have e := HNI.out
    have l0 := (b[0]'hx0).toNat_lt
    have l1 := (b[1]'hx1).toNat_lt
    unfold wrap64
    omega
  clear HNI
  by_cases h3 : 122 < n
  · rw [if_pos h3]
    go_enter Tryz.func107, Tryz.ntmps107
    go_wp2_with (first
      | (go_at_call 136; refine (HO.out _).mono ?_; rintro e w1 ⟨rfl, hb1⟩))
    go_quiet ((fail))
    rw [HWN.out]
    go_wp2
    go_ret2
    exact ⟨rfl, below_drewN hb1 _⟩
  rw [if_neg h3]
  have hn2 : n ≤ 122 := by omega
  have hle : (b.extract 2 (2 + n)).size = n := by rw [← len_list, ext_list, List.length_drop, List.length_take, len_list]; omega
  have HK := hid (fun w => refBlock (b.extract 2 (2 + n)) (by rw [hle]; exact hn2) w)
  have HB' := HB.out hn2
  obtain ⟨z, hz⟩ : ∃ z, z = st (sealL (bodyL (b.extract 2 (2 + n)).data.toList)) := ⟨_, rfl⟩
  rw [← hz] at HK HB'
  clear hz HB
  by_cases h4 : z = b
  · rw [if_neg (not_not_intro (HB'.1 h4))]
    clear HB' h3
    subst h4
    go_enter Tryz.func107, Tryz.ntmps107
    go_wp2_with (first
      | (go_at_call 136; refine (HO.out _).mono ?_; rintro e w1 ⟨rfl, hb1⟩))
    go_quiet ((fail))
    rw [HWN.out]
    go_wp2_with (first
      | (go_at_call 92; refine (HK.out _).mono ?_; rintro e w2 ⟨rfl, hb2⟩))
    go_ret2
    exact ⟨rfl, (below_drewN hb1 _).trans (hb2.mono (below_drewN hb1 _).size)⟩
  · rw [if_pos (fun hh => h4 (HB'.2 hh))]
    have hc := str_ne h4
    clear HB' h3
    go_enter Tryz.func107, Tryz.ntmps107
    go_wp2_with (first
      | (go_at_call 136; refine (HO.out _).mono ?_; rintro e w1 ⟨rfl, hb1⟩))
    go_quiet ((fail))
    rw [HWN.out]
    go_wp2_with (first
      | (go_at_call 92; refine (HK.out _).mono ?_; rintro e w2 ⟨rfl, hb2⟩))
    go_ret2
    exact ⟨rfl, (below_drewN hb1 _).trans (hb2.mono (below_drewN hb1 _).size)⟩
end Go.Proofs.YtopebghandojbaaGreat
