import Derived.Test.YtopebghandojbaaGreatSl
import Derived.Test.YtopebghandojbaaGreatRep
namespace Go.Proofs.YtopebghandojbaaGreat
open Go.RowKit

theorem ext_list (s : ByteArray) (a b : Nat) : (s.extract a b).data.toList = (s.data.toList.take b).drop a := by
  simp [ByteArray.data_extract, List.drop_take]
theorem ext_head (s : ByteArray) (n : Nat) : (s.extract 0 n).data.toList = s.data.toList.take n := by rw [ext_list]; rfl
theorem ext_tail (s : ByteArray) (n k : Nat) (h : s.size = n + k) : (s.extract n (n + k)).data.toList = s.data.toList.drop n := by
  rw [ext_list, List.take_of_length_le (by rw [len_list]; omega)]
theorem ext_szt (s : ByteArray) (n k : Nat) (h : s.size = n + k) : (s.extract n (n + k)).size = k := by
  rw [← len_list, ext_tail s n k h, List.length_drop, len_list]; omega
theorem ext_szh (s : ByteArray) (n : Nat) (h : n ≤ s.size) : (s.extract 0 n).size = n := by
  rw [← len_list, ext_head, List.length_take, len_list]; omega
theorem tail4 (s : ByteArray) (n : Nat) (h : s.size = n + 4) : fval ((s.extract n (n + 4)).data.toList.take 4) = big (s.data.toList.drop n) := by
  rw [ext_tail s n 4 h, List.take_of_length_le (by rw [List.length_drop, len_list]; omega), fval_big]
theorem drop_lt (s : ByteArray) (n : Nat) (h : s.size = n + 4) : big (s.data.toList.drop n) < 4294967296 := by
  have := big_lt (s.data.toList.drop n)
  rw [List.length_drop, len_list, h, show n + 4 - n = 4 by omega] at this
  omega

set_option maxRecDepth 100000 in
set_option maxHeartbeats 1000000 in
theorem open_any (s : ByteArray) (n : Nat) (hsz : s.size = n + 4) (hs : n ≤ 150000000000000) (w : World) :
    Calls Tryz.prog 125 #[.string s] w fun e w' => (crc (s.data.toList.take n) = big (s.data.toList.drop n) → e = .returned (.tuple #[.string (s.extract 0 n), .int .i64 0])) ∧ (¬ crc (s.data.toList.take n) = big (s.data.toList.drop n) → e = .returned (.tuple #[.string ByteArray.empty, .int .i64 30])) ∧ Below w.heap.size w w' := by
  obtain ⟨c, hc⟩ : ∃ c, c = crc (s.data.toList.take n) := ⟨_, rfl⟩
  obtain ⟨d, hd⟩ : ∃ d, d = big (s.data.toList.drop n) := ⟨_, rfl⟩
  rw [← hc, ← hd]
  have hdl := drop_lt s n hsz
  have HS := hid (fun w => sumOf (s.extract 0 n) (by rw [ext_szh s n (by omega)]; unfold maxLen; omega) w)
  rw [ext_head, ← hc] at HS
  have HF := hid (fun g w h => fixedr_ok g (s.extract n (n + 4)) 4 (by decide) (by rw [ext_szt s n 4 hsz]; decide) (by decide) (by rw [ext_szt s n 4 hsz]; decide) (by rw [tail4 s n hsz]; omega) w h)
  rw [tail4 s n hsz, ← hd] at HF
  clear hc hd hdl
  have key : ∀ b : Bool, (b = decide (c = d)) → Calls Tryz.prog 125 #[.string s] w fun e w' => e = .returned (.tuple (if b then #[.string (s.extract 0 n), .int .i64 0] else #[.string ByteArray.empty, .int .i64 30])) ∧ Below w.heap.size w w' := by
    intro b hb
    cases b
    · have hne : c ≠ d := of_decide_eq_false hb.symm
      have hne' : ((d : Int) == (c : Int)) = false := by simp; omega
      clear hb
      go_enter Tryz.func125, Tryz.ntmps125
      go_wp2_with (first
        | (go_at_call 96; refine (of_any _ _).mono ?_; rintro e w1 ⟨rfl, rfl⟩; have hri := RIs.new (s.extract n (n + 4)) w)
        | (go_at_call 97; refine (HF.out _ _ hri).mono ?_; rintro e w2 ⟨rfl, hr2, hk2⟩)
        | (go_at_call 141; refine (HS.out _).mono ?_; rintro e w3 ⟨rfl, rfl⟩))
      go_ret2
      exact ⟨rfl, (below_alloc w _).trans (hk2.below (by simp) (Nat.le_refl _))⟩
    · have hne : c = d := of_decide_eq_true hb.symm
      subst hne
      clear hb
      go_enter Tryz.func125, Tryz.ntmps125
      go_wp2_with (first
        | (go_at_call 96; refine (of_any _ _).mono ?_; rintro e w1 ⟨rfl, rfl⟩; have hri := RIs.new (s.extract n (n + 4)) w)
        | (go_at_call 97; refine (HF.out _ _ hri).mono ?_; rintro e w2 ⟨rfl, hr2, hk2⟩)
        | (go_at_call 141; refine (HS.out _).mono ?_; rintro e w3 ⟨rfl, rfl⟩))
      go_ret2
      exact ⟨rfl, (below_alloc w _).trans (hk2.below (by simp) (Nat.le_refl _))⟩
  refine (key _ rfl).mono ?_
  rintro e w' ⟨rfl, hb⟩
  exact ⟨fun h => by rw [decide_eq_true h]; rfl, fun h => by rw [decide_eq_false h]; rfl, hb⟩
theorem str_ne {a b : ByteArray} (h : ¬ a = b) : (a.toList == b.toList) = false := by
  rw [Lib.toList_data, Lib.toList_data]
  simp only [beq_eq_false_iff_ne, ne_eq]
  intro hh
  exact h (by rw [← st_toList a, ← st_toList b, hh])
theorem seal_back (s : ByteArray) (n : Nat) (h : s.size = n + 4) : st (sealL (s.data.toList.take n)) = s ↔ crc (s.data.toList.take n) = big (s.data.toList.drop n) := by
  have hl : (s.data.toList.drop n).length = 4 := by rw [List.length_drop, len_list]; omega
  have e : s = st (s.data.toList.take n ++ s.data.toList.drop n) := by rw [List.take_append_drop, st_toList]
  have hc := crc_lt (s.data.toList.take n)
  constructor
  · intro hh
    have h2 := congrArg (fun x => x.data.toList) hh
    simp only [st_list] at h2
    rw [sealL] at h2
    conv at h2 => rhs; rw [← List.take_append_drop n s.data.toList]
    have h3 := List.append_cancel_left h2
    rw [← h3, big_fEnc 4 _ (by omega)]
  · intro hh
    conv => rhs; rw [e]
    rw [sealL, hh]
    have := fEnc_big (s.data.toList.drop n)
    rw [hl] at this
    rw [this]
set_option maxRecDepth 100000 in
set_option maxHeartbeats 1000000 in
theorem refOpen (s : ByteArray) (n : Nat) (hsz : s.size = n + 4) (hs : n ≤ 150000000000000) (w : World) :
    Calls Tryz.prog 136 #[.string s] w fun e w' => (crc (s.data.toList.take n) = big (s.data.toList.drop n) → e = .returned (.tuple #[.string (s.extract 0 n), .int .i64 0])) ∧ (¬ crc (s.data.toList.take n) = big (s.data.toList.drop n) → e = .returned (.tuple #[.string ByteArray.empty, .int .i64 30])) ∧ Below w.heap.size w w' := by
  rw [← seal_back s n hsz]
  have HS := hid (fun w => refSeal (s.extract 0 n) (by rw [ext_szh s n (by omega)]; omega) w)
  rw [ext_head] at HS
  obtain ⟨u, hu⟩ : ∃ u, u = st (sealL (s.data.toList.take n)) := ⟨_, rfl⟩
  rw [← hu] at HS ⊢
  clear hu
  have key : ∀ b : Bool, (b = decide (u = s)) → Calls Tryz.prog 136 #[.string s] w fun e w' => e = .returned (.tuple (if b then #[.string (s.extract 0 n), .int .i64 0] else #[.string ByteArray.empty, .int .i64 30])) ∧ Below w.heap.size w w' := by
    intro b hb
    cases b
    · have hne : ¬ u = s := of_decide_eq_false hb.symm
      have hne' := str_ne hne
      clear hb
      go_enter Tryz.func136, Tryz.ntmps136
      go_wp2_with (first
        | (go_at_call 123; refine (HS.out _).mono ?_; rintro e w3 ⟨rfl, hb3⟩))
      go_ret2
      exact ⟨rfl, hb3⟩
    · have hne : u = s := of_decide_eq_true hb.symm
      subst hne
      clear hb
      go_enter Tryz.func136, Tryz.ntmps136
      go_wp2_with (first
        | (go_at_call 123; refine (HS.out _).mono ?_; rintro e w3 ⟨rfl, hb3⟩))
      go_ret2
      exact ⟨rfl, hb3⟩
  refine (key _ rfl).mono ?_
  rintro e w' ⟨rfl, hb⟩
  exact ⟨fun h => by rw [decide_eq_true h]; rfl, fun h => by rw [decide_eq_false h]; rfl, hb⟩
end Go.Proofs.YtopebghandojbaaGreat
namespace Go.Proofs.YtopebghandojbaaGreat
open Go.RowKit

def zs (n : Nat) : List UInt8 := List.replicate n 0
theorem zs_len (n : Nat) : (zs n).length = n := List.length_replicate
theorem zs_succ (n : Nat) : zs (n + 1) = zs n ++ [0] := List.replicate_succ'
theorem rep_zs (n : Nat) : (⟨(Lib.repeatL ({ data := #[0] } : ByteArray).data.toList n).toArray⟩ : ByteArray) = st (zs n) := by
  have h := Lib.repeatL_replicate 0 1 n
  rw [Nat.mul_one] at h
  show (⟨(Lib.repeatL (List.replicate 1 0) n).toArray⟩ : ByteArray) = _
  rw [h]; rfl
theorem noughts_any (n : Nat) (hn : n ≤ 122) (w : World) : Calls Tryz.prog 121 #[.int .i64 n] w fun e w' => e = .returned (.string (st (zs n))) ∧ Below w.heap.size w w' := by
  have HR := hid (fun w => Tryz.strings_Repeat ({ data := #[0] } : ByteArray) n w (by omega) (by show 1 * n ≤ _; omega))
  rw [rep_zs] at HR
  go_enter Tryz.func121, Tryz.ntmps121
  go_wp2_with (first | (go_at_call 142; refine (HR.out _).mono ?_; rintro e w1 ⟨rfl, hb⟩))
  go_ret
  exact ⟨rfl, hb⟩
theorem refZeros (n : Nat) (hn : n ≤ 122) (w : World) : Calls Tryz.prog 124 #[.int .i64 n] w fun e w' => e = .returned (.string (st (zs n))) ∧ w' = w := by
  go_enter Tryz.func124, Tryz.ntmps124
  go_wp2
  go_loop [3, 4] (fun x i => ∃ j : Nat, i = .int .i64 j ∧ j ≤ n ∧ x = .string (st (zs j))) (fun _ i => n - (intOf i).toNat)
  case atStart => exact ⟨0, rfl, Nat.zero_le _, rfl⟩
  case round =>
    obtain ⟨j, rfl, hj, rfl⟩ := hrel
    obtain ⟨u, hu⟩ : ∃ u, u = st (zs j) := ⟨_, rfl⟩
    have hus : u.size ≤ 200 := by rw [hu, st_size, zs_len]; omega
    rw [← hu]
    have HU := hid hu
    clear hu
    by_cases hlt : j < n
    · go_wp2
      go_round
      case rel =>
        refine ⟨j + 1, by go_num, by omega, ?_⟩
        have : u ++ { data := #[0] } = st (zs (j + 1)) := by rw [HU.out, zs_succ]; apply ByteArray.ext; simp [st]
        rw [← this]
      case measure => simp [intOf]; omega
    · have : j = n := by omega
      have HE : Hid (u = st (zs n)) := by rw [← this]; exact HU
      go_wp2
      go_ret
      rw [HE.out]
      exact ⟨rfl, rfl⟩

/-- a block's bytes ahead of its sum -/
def bodyL (l : List UInt8) : List UInt8 := fEnc l.length 2 ++ l ++ zs (122 - l.length)
theorem bodyL_len (l : List UInt8) (h : l.length ≤ 122) : (bodyL l).length = 124 := by
  unfold bodyL; rw [List.length_append, List.length_append, fEnc_len, zs_len]; omega
theorem body_st (s : ByteArray) : st (fEnc s.size 2) ++ s ++ st (zs (122 - s.size)) = st (bodyL s.data.toList) := by
  rw [bodyL, len_list]; apply ByteArray.ext; simp [st]
set_option maxRecDepth 100000 in
set_option maxHeartbeats 1000000 in
theorem block_any (s : ByteArray) (h : s.size ≤ 122) (w : World) : Calls Tryz.prog 88 #[.string s] w fun e w' => e = .returned (.tuple #[.string (st (sealL (bodyL s.data.toList))), .int .i64 0]) ∧ Below w.heap.size w w' := by
  have HS := hid (fun w => seal_any (st (bodyL s.data.toList)) (by rw [st_size, bodyL_len _ (by rw [len_list]; exact h)]; omega) w)
  rw [st_list] at HS
  have HF := hid (fun w => fixed_any s.size 2 (by omega) (by decide) (fits2 _ (by omega)) w)
  have HN := hid (fun w => noughts_any (122 - s.size) (by omega) w)
  obtain ⟨b, hb⟩ : ∃ b, b = st (bodyL s.data.toList) := ⟨_, rfl⟩
  obtain ⟨x, hx⟩ : ∃ x, x = st (fEnc s.size 2) := ⟨_, rfl⟩
  obtain ⟨z, hz⟩ : ∃ z, z = st (zs (122 - s.size)) := ⟨_, rfl⟩
  obtain ⟨r, hr⟩ : ∃ r, r = st (sealL (bodyL s.data.toList)) := ⟨_, rfl⟩
  have hxs : x.size = 2 := by rw [hx, st_size, fEnc_len]
  have hzs : z.size ≤ 122 := by rw [hz, st_size, zs_len]; omega
  have hE : Hid (x ++ s ++ z = b) := by show _ = _; rw [hx, hz, hb, body_st]
  rw [show ((122 - s.size : Nat) : Int) = 122 - (s.size : Int) by omega] at HN
  rw [← hr] at HS ⊢
  rw [← hb] at HS
  rw [← hx] at HF
  rw [← hz] at HN
  clear hb hx hz hr
  go_enter Tryz.func88, Tryz.ntmps88
  go_wp2_with (first
    | (go_at_call 120; refine (HF.out _).mono ?_; rintro e w1 ⟨rfl, hb1⟩)
    | (go_at_call 121; refine (HN.out _).mono ?_; rintro e w2 ⟨rfl, hb2⟩)
    | (go_at_call 119; rw [hE.out]; refine (HS.out _).mono ?_; rintro e w3 ⟨rfl, hb3⟩))
  go_ret2
  exact ⟨rfl, hb1.trans ((hb2.mono hb1.size).trans (hb3.mono (Nat.le_trans hb1.size hb2.size)))⟩
set_option maxRecDepth 100000 in
set_option maxHeartbeats 1000000 in
theorem refBlock (s : ByteArray) (h : s.size ≤ 122) (w : World) : Calls Tryz.prog 92 #[.string s] w fun e w' => e = .returned (.tuple #[.string (st (sealL (bodyL s.data.toList))), .int .i64 0]) ∧ Below w.heap.size w w' := by
  have HS := hid (fun w => refSeal (st (bodyL s.data.toList)) (by rw [st_size, bodyL_len _ (by rw [len_list]; exact h)]; omega) w)
  rw [st_list] at HS
  have HF := hid (fun w => refFixed s.size 2 (by omega) (by decide) w)
  have HN := hid (fun w => refZeros (122 - s.size) (by omega) w)
  obtain ⟨b, hb⟩ : ∃ b, b = st (bodyL s.data.toList) := ⟨_, rfl⟩
  obtain ⟨x, hx⟩ : ∃ x, x = st (fEnc s.size 2) := ⟨_, rfl⟩
  obtain ⟨z, hz⟩ : ∃ z, z = st (zs (122 - s.size)) := ⟨_, rfl⟩
  obtain ⟨r, hr⟩ : ∃ r, r = st (sealL (bodyL s.data.toList)) := ⟨_, rfl⟩
  have hxs : x.size = 2 := by rw [hx, st_size, fEnc_len]
  have hzs : z.size ≤ 122 := by rw [hz, st_size, zs_len]; omega
  have hE : Hid (x ++ s ++ z = b) := by show _ = _; rw [hx, hz, hb, body_st]
  rw [show ((122 - s.size : Nat) : Int) = 122 - (s.size : Int) by omega] at HN
  rw [← hr] at HS ⊢
  rw [← hb] at HS
  rw [← hx] at HF
  rw [← hz] at HN
  clear hb hx hz hr
  go_enter Tryz.func92, Tryz.ntmps92
  go_wp2_with (first
    | (go_at_call 93; refine (HF.out _).mono ?_; rintro e w1 ⟨rfl, hb1⟩)
    | (go_at_call 124; refine (HN.out _).mono ?_; rintro e w2 ⟨rfl, rfl⟩)
    | (go_at_call 123; rw [hE.out]; refine (HS.out _).mono ?_; rintro e w3 ⟨rfl, hb3⟩))
  go_ret2
  exact ⟨rfl, hb1.trans (hb3.mono hb1.size)⟩
end Go.Proofs.YtopebghandojbaaGreat
namespace Go.Proofs.YtopebghandojbaaGreat
open Go.RowKit

/-- the text that a block is, or why it is none -/
def unV (b : ByteArray) : ByteArray × Int :=
  if b.size ≠ 128 then (ByteArray.empty, 4)
  else if crc (b.data.toList.take 124) ≠ big (b.data.toList.drop 124) then (ByteArray.empty, 30)
  else if 122 < big (b.data.toList.take 2) then (ByteArray.empty, 4)
  else if (b.data.toList.take 124).drop (2 + big (b.data.toList.take 2)) ≠ zs (122 - big (b.data.toList.take 2)) then (ByteArray.empty, 4)
  else (b.extract 2 (2 + big (b.data.toList.take 2)), 0)

theorem open_ok (s : ByteArray) (n : Nat) (hsz : s.size = n + 4) (hs : n ≤ 150000000000000) (h : crc (s.data.toList.take n) = big (s.data.toList.drop n)) (w : World) :
    Calls Tryz.prog 125 #[.string s] w fun e w' => e = .returned (.tuple #[.string (s.extract 0 n), .int .i64 0]) ∧ Below w.heap.size w w' :=
  (open_any s n hsz hs w).mono fun _ _ k => ⟨k.1 h, k.2.2⟩
theorem open_bad (s : ByteArray) (n : Nat) (hsz : s.size = n + 4) (hs : n ≤ 150000000000000) (h : ¬ crc (s.data.toList.take n) = big (s.data.toList.drop n)) (w : World) :
    Calls Tryz.prog 125 #[.string s] w fun e w' => e = .returned (.tuple #[.string ByteArray.empty, .int .i64 30]) ∧ Below w.heap.size w w' :=
  (open_any s n hsz hs w).mono fun _ _ k => ⟨k.2.1 h, k.2.2⟩
theorem refOpen_ok (s : ByteArray) (n : Nat) (hsz : s.size = n + 4) (hs : n ≤ 150000000000000) (h : crc (s.data.toList.take n) = big (s.data.toList.drop n)) (w : World) :
    Calls Tryz.prog 136 #[.string s] w fun e w' => e = .returned (.tuple #[.string (s.extract 0 n), .int .i64 0]) ∧ Below w.heap.size w w' :=
  (refOpen s n hsz hs w).mono fun _ _ k => ⟨k.1 h, k.2.2⟩
theorem refOpen_bad (s : ByteArray) (n : Nat) (hsz : s.size = n + 4) (hs : n ≤ 150000000000000) (h : ¬ crc (s.data.toList.take n) = big (s.data.toList.drop n)) (w : World) :
    Calls Tryz.prog 136 #[.string s] w fun e w' => e = .returned (.tuple #[.string ByteArray.empty, .int .i64 30]) ∧ Below w.heap.size w w' :=
  (refOpen s n hsz hs w).mono fun _ _ k => ⟨k.2.1 h, k.2.2⟩

theorem ext_mid (b : ByteArray) (n : Nat) (hn : n ≤ 122) : (b.extract 0 124).extract 2 (2 + n) = b.extract 2 (2 + n) := by
  apply ByteArray.ext
  apply Array.toList_inj.1
  rw [ext_list, ext_head, ext_list, List.take_take, Nat.min_eq_left (by omega)]
theorem len128 (b : ByteArray) (h : b.size = 128) : (b.extract 0 124).size = 124 := ext_szh b 124 (by omega)
theorem take2 (b : ByteArray) : fval ((b.extract 0 124).data.toList.take 2) = big (b.data.toList.take 2) := by
  rw [ext_head, List.take_take, Nat.min_eq_left (by omega), fval_big]
theorem big2_lt (l : List UInt8) : big (l.take 2) < 65536 := by
  have h := big_lt (l.take 2)
  have : (l.take 2).length ≤ 2 := by rw [List.length_take]; omega
  have := Nat.pow_le_pow_right (n := 256) (by decide) this
  omega
theorem tail_list (b : ByteArray) (n : Nat) : ((b.extract 0 124).extract (2 + n) 124).data.toList = (b.data.toList.take 124).drop (2 + n) := by
  rw [ext_list, ext_head, List.take_take]; rfl
set_option maxRecDepth 100000 in
set_option maxHeartbeats 2000000 in
theorem unblock_any (b : ByteArray) (_hb : b.size ≤ 150000000000000) (w : World) : Calls Tryz.prog 94 #[.string b] w fun e w' => e = .returned (.tuple #[.string (unV b).1, .int .i64 (unV b).2]) ∧ Below w.heap.size w w' := by
  unfold unV
  by_cases h1 : b.size ≠ 128
  · rw [if_pos h1]
    have h1' : ((b.size : Int) == 128) = false := by simp; omega
    go_enter Tryz.func94, Tryz.ntmps94
    go_wp2
    go_ret2
    exact ⟨rfl, Below.refl _ _⟩
  rw [if_neg h1]
  have h1 : b.size = 128 := by omega
  by_cases h2 : crc (b.data.toList.take 124) ≠ big (b.data.toList.drop 124)
  · rw [if_pos h2]
    have HO := hid (fun w => open_bad b 124 h1 (by decide) h2 w)
    clear h2
    go_enter Tryz.func94, Tryz.ntmps94
    go_wp2_with (first | (go_at_call 125; refine (HO.out _).mono ?_; rintro e w1 ⟨rfl, hb1⟩))
    go_ret2
    exact ⟨rfl, hb1⟩
  rw [if_neg h2]
  have h2 : crc (b.data.toList.take 124) = big (b.data.toList.drop 124) := by omega
  have HO := hid (fun w => open_ok b 124 h1 (by decide) h2 w)
  clear h2
  have hz := len128 b h1
  have hn := big2_lt b.data.toList
  have HF := hid (fun g w h => fixedr_ok g (b.extract 0 124) 2 (by decide) (by rw [hz]; decide) (by decide) (by rw [hz]; decide) (by rw [take2 b]; omega) w h)
  rw [take2 b] at HF
  have HM := hid (ext_mid b)
  have HT := hid (tail_list b)
  obtain ⟨n, hn'⟩ : ∃ n, n = big (b.data.toList.take 2) := ⟨_, rfl⟩
  rw [← hn'] at HF hn ⊢
  clear hn'
  obtain ⟨a, ha⟩ : ∃ a, a = b.extract 0 124 := ⟨_, rfl⟩
  rw [← ha] at HF hz HO HM HT
  clear ha
  by_cases h3 : 122 < n
  · rw [if_pos h3]
    go_enter Tryz.func94, Tryz.ntmps94
    go_wp2_with (first
        | (go_at_call 125; refine (HO.out _).mono ?_; rintro e w1 ⟨rfl, hb1⟩)
        | (go_at_call 96; refine (of_any _ _).mono ?_; rintro e w2 ⟨rfl, rfl⟩; have hri := RIs.new a w1)
        | (go_at_call 97; refine (HF.out _ _ hri).mono ?_; rintro e w3 ⟨rfl, hr3, hk3⟩))
    go_ret2
    exact ⟨rfl, hb1.trans (((below_alloc w1 _).trans (hk3.below (by simp) (Nat.le_refl _))).mono hb1.size)⟩
  rw [if_neg h3]
  have hn2 : n ≤ 122 := by omega
  have HN := hid (fun w => noughts_any (122 - n) (by omega) w)
  rw [show ((122 - n : Nat) : Int) = 122 - (n : Int) by omega] at HN
  have HW : Hid (IntKind.i64.wrap (122 - (n : Int)) = 122 - (n : Int)) := by show _ = _; rw [IntKind.wrap_i64]; omega
  by_cases h4 : (b.data.toList.take 124).drop (2 + n) = zs (122 - n)
  · rw [if_neg (not_not_intro h4)]
    have HC : a.extract (2 + n) 124 = st (zs (122 - n)) := by rw [← h4, ← HT.out n, st_toList]
    rw [← HC] at HN
    clear h4 h3 HC
    have HM' := hid (HM.out n hn2)
    clear HM HT
    go_enter Tryz.func94, Tryz.ntmps94
    go_wp2_with (first
        | (go_at_call 125; refine (HO.out _).mono ?_; rintro e w1 ⟨rfl, hb1⟩)
        | (go_at_call 96; refine (of_any _ _).mono ?_; rintro e w2 ⟨rfl, rfl⟩; have hri := RIs.new a w1)
        | (go_at_call 97; refine (HF.out _ _ hri).mono ?_; rintro e w3 ⟨rfl, hr3, hk3⟩))
    go_region_with (go_at_call 121; (try rw [HW.out]); refine (HN.out _).mono ?_; rintro e w4 ⟨rfl, hb4⟩)
    all_goals
      have hbb : Below w.heap.size w w3 := hb1.trans (((below_alloc w1 _).trans (hk3.below (by simp) (Nat.le_refl _))).mono hb1.size)
      go_wp2
      go_ret2
      refine ⟨by first | rfl | (rw [HM'.out]; rfl), ?_⟩
      first
        | exact hbb.trans (hb4.mono hbb.size)
        | exact (hbb.drew.trans (hb4.mono hbb.size))
        | exact (hbb.trans (hb4.mono hbb.size)).drew
  · rw [if_pos h4]
    obtain ⟨z, hz2⟩ : ∃ z, z = st (zs (122 - n)) := ⟨_, rfl⟩
    have HC := str_ne (show ¬ a.extract (2 + n) 124 = z from fun hh => h4 (by rw [← HT.out n, hh, hz2, st_list]))
    rw [← hz2] at HN
    clear h4 h3 hz2
    have HM' := hid (HM.out n hn2)
    clear HM HT
    go_enter Tryz.func94, Tryz.ntmps94
    go_wp2_with (first
        | (go_at_call 125; refine (HO.out _).mono ?_; rintro e w1 ⟨rfl, hb1⟩)
        | (go_at_call 96; refine (of_any _ _).mono ?_; rintro e w2 ⟨rfl, rfl⟩; have hri := RIs.new a w1)
        | (go_at_call 97; refine (HF.out _ _ hri).mono ?_; rintro e w3 ⟨rfl, hr3, hk3⟩))
    go_region_with (go_at_call 121; (try rw [HW.out]); refine (HN.out _).mono ?_; rintro e w4 ⟨rfl, hb4⟩)
    all_goals
      have hbb : Below w.heap.size w w3 := hb1.trans (((below_alloc w1 _).trans (hk3.below (by simp) (Nat.le_refl _))).mono hb1.size)
      go_wp2
      go_ret2
      refine ⟨by first | rfl | (rw [HM'.out]; rfl), ?_⟩
      first
        | exact hbb.trans (hb4.mono hbb.size)
        | exact (hbb.drew.trans (hb4.mono hbb.size))
        | exact (hbb.trans (hb4.mono hbb.size)).drew

theorem back_block (b : ByteArray) (h : b.size = 128) (hs : crc (b.data.toList.take 124) = big (b.data.toList.drop 124)) (n : Nat) (hn : n = big (b.data.toList.take 2)) (hn2 : n ≤ 122) :
    st (sealL (bodyL (b.extract 2 (2 + n)).data.toList)) = b ↔ (b.data.toList.take 124).drop (2 + n) = zs (122 - n) := by
  have hl := len_list b
  obtain ⟨l, hll⟩ : ∃ l, l = b.data.toList := ⟨_, rfl⟩
  rw [ext_list]
  rw [← hll] at hl hs hn ⊢
  have hlen : ((l.take (2 + n)).drop 2).length = n := by rw [List.length_drop, List.length_take]; omega
  have hd4 : (l.drop 124).length = 4 := by rw [List.length_drop]; omega
  have h2 : fEnc n 2 = l.take 2 := by
    have := fEnc_big (l.take 2)
    rw [List.length_take, show min 2 l.length = 2 by omega, ← hn] at this
    exact this
  have hsum : fEnc (crc (l.take 124)) 4 = l.drop 124 := by
    have := fEnc_big (l.drop 124)
    rw [hd4, ← hs] at this
    exact this
  have hsplit : l.take 124 = l.take 2 ++ (l.take (2 + n)).drop 2 ++ (l.take 124).drop (2 + n) := by
    have e1 : l.take 2 = (l.take (2 + n)).take 2 := by rw [List.take_take]; congr 1; omega
    have e2 : l.take (2 + n) = (l.take 124).take (2 + n) := by rw [List.take_take]; congr 1; omega
    rw [e1, List.take_append_drop, e2, List.take_append_drop]
  have hb : bodyL ((l.take (2 + n)).drop 2) = l.take 2 ++ (l.take (2 + n)).drop 2 ++ zs (122 - n) := by rw [bodyL, hlen, h2]
  constructor
  · intro hh
    have h3 : sealL (bodyL ((l.take (2 + n)).drop 2)) = l := by
      have h9 := congrArg (fun x => x.data.toList) hh
      simp only [st_list] at h9
      rw [h9, ← hll]
    rw [sealL] at h3
    have h4 := congrArg (List.take 124) h3
    rw [List.take_append_of_le_length (by rw [bodyL_len _ (by omega)]; exact Nat.le_refl _), List.take_of_length_le (by rw [bodyL_len _ (by omega)]; exact Nat.le_refl _), hb] at h4
    conv at h4 => rhs; rw [hsplit]
    exact (List.append_cancel_left h4).symm
  · intro hh
    have h3 : bodyL ((l.take (2 + n)).drop 2) = l.take 124 := by rw [hb, ← hh]; exact hsplit.symm
    rw [h3, sealL, hsum, List.take_append_drop, hll, st_toList]
theorem below_drewN {B : Nat} {w w' : World} (h : Below B w w') (n : Nat) : Below B w (w'.drewN n) := ⟨h.os, h.tape, h.output, h.size, h.block⟩
theorem n_two (b : ByteArray) (h : b.size = 128) : big (b.data.toList.take 2) = (b[0]'(by omega)).toNat + 256 * (b[1]'(by omega)).toNat := by
  rw [take_snoc b 1 (by omega), take_snoc b 0 (by omega)]
  show big ([] ++ [_] ++ [_]) = _
  simp [big]

set_option maxRecDepth 100000 in
set_option maxHeartbeats 2000000 in
theorem refUnblock (b : ByteArray) (hb : b.size ≤ 150000000000000) (w : World) : Calls Tryz.prog 107 #[.string b] w fun e w' => e = .returned (.tuple #[.string (unV b).1, .int .i64 (unV b).2]) ∧ Below w.heap.size w w' := by
  unfold unV
  by_cases h1 : b.size ≠ 128
  · rw [if_pos h1]
    have h1' : ((b.size : Int) == 128) = false := by simp; omega
    go_enter Tryz.func107, Tryz.ntmps107
    go_wp2
    go_ret2
    exact ⟨rfl, Below.refl _ _⟩
  rw [if_neg h1]
  have h1 : b.size = 128 := by omega
  by_cases h2 : crc (b.data.toList.take 124) ≠ big (b.data.toList.drop 124)
  · rw [if_pos h2]
    have HO := hid (fun w => refOpen_bad b 124 h1 (by decide) h2 w)
    clear h2
    go_enter Tryz.func107, Tryz.ntmps107
    go_wp2_with (first | (go_at_call 136; refine (HO.out _).mono ?_; rintro e w1 ⟨rfl, hb1⟩))
    go_ret2
    exact ⟨rfl, hb1⟩
  rw [if_neg h2]
  have h2 : crc (b.data.toList.take 124) = big (b.data.toList.drop 124) := by omega
  have HO := hid (fun w => refOpen_ok b 124 h1 (by decide) h2 w)
  have HN2 := n_two b h1
  have hn := big2_lt b.data.toList
  have HB := hid (back_block b h1 h2 _ rfl)
  clear h2
  obtain ⟨n, hn'⟩ : ∃ n, n = big (b.data.toList.take 2) := ⟨_, rfl⟩
  rw [← hn'] at HN2 hn HB ⊢
  clear hn'
  have HNI := hid HN2
  clear HN2
  have hx0 : 0 < b.size := by omega
  have hx1 : 1 < b.size := by omega
  have HWN : Hid (wrap64 (wrap64 ((b[0]'hx0).toNat : Int) + wrap64 ((256 : Int) * wrap64 ((b[1]'hx1).toNat : Int))) = (n : Int)) := by
    show _ = _
    have e := HNI.out
    have l0 := (b[0]'hx0).toNat_lt
    have l1 := (b[1]'hx1).toNat_lt
    unfold wrap64
    omega
  clear HNI
  by_cases h3 : 122 < n
  · rw [if_pos h3]
    go_enter Tryz.func107, Tryz.ntmps107
    go_wp2_with (first
      | (go_at_call 136; refine (HO.out _).mono ?_; rintro e w1 ⟨rfl, hb1⟩))
    go_quiet ((fail))
    rw [HWN.out]
    go_wp2
    go_ret2
    exact ⟨rfl, below_drewN hb1 _⟩
  rw [if_neg h3]
  have hn2 : n ≤ 122 := by omega
  have hle : (b.extract 2 (2 + n)).size = n := by rw [← len_list, ext_list, List.length_drop, List.length_take, len_list]; omega
  have HK := hid (fun w => refBlock (b.extract 2 (2 + n)) (by rw [hle]; exact hn2) w)
  have HB' := HB.out hn2
  obtain ⟨z, hz⟩ : ∃ z, z = st (sealL (bodyL (b.extract 2 (2 + n)).data.toList)) := ⟨_, rfl⟩
  rw [← hz] at HK HB'
  clear hz HB
  by_cases h4 : z = b
  · rw [if_neg (not_not_intro (HB'.1 h4))]
    clear HB' h3
    subst h4
    go_enter Tryz.func107, Tryz.ntmps107
    go_wp2_with (first
      | (go_at_call 136; refine (HO.out _).mono ?_; rintro e w1 ⟨rfl, hb1⟩))
    go_quiet ((fail))
    rw [HWN.out]
    go_wp2_with (first
      | (go_at_call 92; refine (HK.out _).mono ?_; rintro e w2 ⟨rfl, hb2⟩))
    go_ret2
    exact ⟨rfl, (below_drewN hb1 _).trans (hb2.mono (below_drewN hb1 _).size)⟩
  · rw [if_pos (fun hh => h4 (HB'.2 hh))]
    have hc := str_ne h4
    clear HB' h3
    go_enter Tryz.func107, Tryz.ntmps107
    go_wp2_with (first
      | (go_at_call 136; refine (HO.out _).mono ?_; rintro e w1 ⟨rfl, hb1⟩))
    go_quiet ((fail))
    rw [HWN.out]
    go_wp2_with (first
      | (go_at_call 92; refine (HK.out _).mono ?_; rintro e w2 ⟨rfl, hb2⟩))
    go_ret2
    exact ⟨rfl, (below_drewN hb1 _).trans (hb2.mono (below_drewN hb1 _).size)⟩
end Go.Proofs.YtopebghandojbaaGreat
namespace Go.Proofs.YtopebghandojbaaGreat
open Go.RowKit

theorem take_body (l : List UInt8) (h : l.length ≤ 122) : (sealL (bodyL l)).take 124 = bodyL l := by
  have hl := bodyL_len l h
  rw [sealL, List.take_append_of_le_length (by omega), List.take_of_length_le (by omega)]
theorem drop_body (l : List UInt8) (h : l.length ≤ 122) : (sealL (bodyL l)).drop 124 = fEnc (crc (bodyL l)) 4 := by
  have hl := bodyL_len l h
  rw [sealL, ← hl, List.drop_left]
theorem take2_body (l : List UInt8) (h : l.length ≤ 122) : big ((sealL (bodyL l)).take 2) = l.length := by
  have e : (sealL (bodyL l)).take 2 = fEnc l.length 2 := by
    have hf := fEnc_len 2 l.length
    rw [sealL, bodyL, List.append_assoc, List.append_assoc]
    conv => lhs; arg 1; rw [← hf]
    exact List.take_left
  rw [e, big_fEnc 2 _ (by omega)]
theorem drop_mid (l : List UInt8) : (bodyL l).drop (2 + l.length) = zs (122 - l.length) := by
  have hf := fEnc_len 2 l.length
  have : 2 + l.length = (fEnc l.length 2 ++ l).length := by rw [List.length_append, hf]
  rw [bodyL, this, List.drop_left]
theorem mid_body (l : List UInt8) : ((bodyL l).take (2 + l.length)).drop 2 = l := by
  have hf := fEnc_len 2 l.length
  have : 2 + l.length = (fEnc l.length 2 ++ l).length := by rw [List.length_append, hf]
  rw [bodyL, this, List.take_left]
  conv => lhs; arg 1; rw [← hf]
  exact List.drop_left
theorem un_block (l : List UInt8) (h : l.length ≤ 122) : unV (st (sealL (bodyL l))) = (st l, 0) := by
  have hl := bodyL_len l h
  have hs : (st (sealL (bodyL l))).size = 128 := by rw [st_size, sealL_len, hl]
  unfold unV
  rw [if_neg (by omega), st_list, take_body l h, drop_body l h, big_fEnc 4 _ (by have := crc_lt (bodyL l); omega), if_neg (by simp), take2_body l h, if_neg (by omega), drop_mid, if_neg (by simp)]
  have : (st (sealL (bodyL l))).extract 2 (2 + l.length) = st l := by
    rw [← st_toList ((st (sealL (bodyL l))).extract 2 (2 + l.length)), ext_list, st_list]
    have e2 : (sealL (bodyL l)).take (2 + l.length) = (bodyL l).take (2 + l.length) := by
      rw [sealL, List.take_append_of_le_length (by omega)]
    rw [e2, mid_body]
  rw [this]
/-- a block that is a text's is made of it -/
theorem un_back (b : ByteArray) (h : (unV b).2 = 0) : st (sealL (bodyL (unV b).1.data.toList)) = b ∧ (unV b).1.size ≤ 122 := by
  unfold unV at h ⊢
  by_cases h1 : b.size ≠ 128
  · rw [if_pos h1] at h; exact absurd h (by decide)
  rw [if_neg h1] at h ⊢
  have h1' : b.size = 128 := by omega
  by_cases h2 : crc (b.data.toList.take 124) ≠ big (b.data.toList.drop 124)
  · rw [if_pos h2] at h; exact absurd h (by decide)
  rw [if_neg h2] at h ⊢
  have h2' : crc (b.data.toList.take 124) = big (b.data.toList.drop 124) := by omega
  by_cases h3 : 122 < big (b.data.toList.take 2)
  · rw [if_pos h3] at h; exact absurd h (by decide)
  rw [if_neg h3] at h ⊢
  by_cases h4 : (b.data.toList.take 124).drop (2 + big (b.data.toList.take 2)) ≠ zs (122 - big (b.data.toList.take 2))
  · rw [if_pos h4] at h; exact absurd h (by decide)
  rw [if_neg h4]
  refine ⟨(back_block b h1' h2' _ rfl (by omega)).2 (Decidable.not_not.1 h4), ?_⟩
  show (b.extract 2 (2 + big (b.data.toList.take 2))).size ≤ 122
  rw [ByteArray.size_extract]
  omega
end Go.Proofs.YtopebghandojbaaGreat
