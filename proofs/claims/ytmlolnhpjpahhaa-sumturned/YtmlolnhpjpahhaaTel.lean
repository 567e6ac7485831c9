import Derived.Test.YtmlolnhpjpahhaaSp
namespace Go.Proofs.Ytmlolnhpjpahhaa
open Go.RowKit

theorem _root_.Go.RowKit.Below.next {w w1 w2 : World} (a : Below w.heap.size w w1) (b : Below w1.heap.size w1 w2) : Below w.heap.size w w2 := a.trans (b.mono a.size)
/-- what is opened, or why nothing -/
def opV (s : ByteArray) : ByteArray × Int :=
  if s.size < 4 then (ByteArray.empty, 20)
  else if crc (s.data.toList.take (s.size - 4)) = big (s.data.toList.drop (s.size - 4)) then (s.extract 0 (s.size - 4), 0) else (ByteArray.empty, 30)
theorem open_is (s : ByteArray) (hs : s.size ≤ 150000000000000) (w : World) : Calls Try.prog 9 #[.string s] w fun e w' => e = .returned (.tuple #[.string (opV s).1, .int .i64 (opV s).2]) ∧ Below w.heap.size w w' := by
  unfold opV
  by_cases h : s.size < 4
  · rw [if_pos h]
    exact (open_cut s h w).mono fun e w' k => ⟨k.1, by rw [k.2]; exact Below.refl _ _⟩
  · rw [if_neg h]
    refine (open_any s (s.size - 4) (by omega) (by omega) w).mono fun e w' k => ⟨?_, k.2.2⟩
    by_cases h2 : crc (s.data.toList.take (s.size - 4)) = big (s.data.toList.drop (s.size - 4))
    · rw [if_pos h2]; exact k.1 h2
    · rw [if_neg h2]; exact k.2.1 h2
theorem refOpen_is (s : ByteArray) (hs : s.size ≤ 150000000000000) (w : World) : Calls Try.prog 10 #[.string s] w fun e w' => e = .returned (.tuple #[.string (opV s).1, .int .i64 (opV s).2]) ∧ Below w.heap.size w w' := by
  unfold opV
  by_cases h : s.size < 4
  · rw [if_pos h]
    exact (ref_cut s h w).mono fun e w' k => ⟨k.1, by rw [k.2]; exact Below.refl _ _⟩
  · rw [if_neg h]
    refine (refOpen s (s.size - 4) (by omega) (by omega) w).mono fun e w' k => ⟨?_, k.2.2⟩
    by_cases h2 : crc (s.data.toList.take (s.size - 4)) = big (s.data.toList.drop (s.size - 4))
    · rw [if_pos h2]; exact k.1 h2
    · rw [if_neg h2]; exact k.2.1 h2
theorem opV_range (s : ByteArray) : 0 ≤ (opV s).2 ∧ (opV s).2 ≤ 30 := by
  unfold opV
  split
  · decide
  · split
    · exact ⟨Int.le_refl _, by omega⟩
    · decide

set_option maxRecDepth 100000 in
set_option maxHeartbeats 2000000 in
theorem tells_walk (s : ByteArray) (hs : s.size ≤ 150000000000000) (w : World) : Calls Try.prog 3 #[.string s] w fun e w' => e = .returned (.bool true) ∧ Below w.heap.size w w' := by
  have HO := hid (fun w => open_is s hs w)
  have HP := hid (fun w => refOpen_is s hs w)
  have HS := hid (fun w => seal_any s hs w)
  have HT := hid (fun w => refSeal s hs w)
  have HA := hid (fun w => sumOf s (by unfold maxLen; omega) w)
  have HB := hid (fun w => refOf s (by unfold maxLen; omega) w)
  have hr := opV_range s
  obtain ⟨a, ha⟩ : ∃ a, a = (opV s).1 := ⟨_, rfl⟩
  obtain ⟨f, hf⟩ : ∃ f, f = (opV s).2 := ⟨_, rfl⟩
  obtain ⟨t, ht⟩ : ∃ t, t = st (sealL s.data.toList) := ⟨_, rfl⟩
  obtain ⟨c, hc⟩ : ∃ c, c = crc s.data.toList := ⟨_, rfl⟩
  rw [← ha, ← hf] at HO HP
  rw [← hf] at hr
  rw [← ht] at HS HT
  rw [← hc] at HA HB
  clear ha hf ht hc
  go_enter Try.func3, Try.ntmps3
  go_wp2_with (first
    | (go_at_call 9; refine (HO.out _).mono ?_; rintro e w1 ⟨rfl, hb1⟩)
    | (go_at_call 10; refine (HP.out _).mono ?_; rintro e w2 ⟨rfl, hb2⟩)
    | (go_at_call 11; refine (HA.out _).mono ?_; rintro e w3 ⟨rfl, rfl⟩)
    | (go_at_call 12; refine (HB.out _).mono ?_; rintro e w4 ⟨rfl, rfl⟩)
    | (go_at_call 13; refine (HS.out _).mono ?_; rintro e w5 ⟨rfl, hb5⟩)
    | (go_at_call 14; refine (HT.out _).mono ?_; rintro e w6 ⟨rfl, hb6⟩)
    | (go_at_call 15; refine (speaks_any _).mono ?_; rintro e w7 ⟨rfl, hb7⟩))
  go_ret
  exact ⟨rfl, (((hb1.next hb2).next hb5).next hb6).next hb7⟩

/-- a text's block, or why there is none -/
def blV (s : ByteArray) : ByteArray × Int := if 122 < s.size then (ByteArray.empty, 2) else (st (sealL (bodyL s.data.toList)), 0)
theorem block_is (s : ByteArray) (w : World) : Calls Try.prog 16 #[.string s] w fun e w' => e = .returned (.tuple #[.string (blV s).1, .int .i64 (blV s).2]) ∧ Below w.heap.size w w' := by
  unfold blV
  by_cases h : 122 < s.size
  · rw [if_pos h]
    exact (block_long s h w).mono fun e w' k => ⟨k.1, by rw [k.2]; exact Below.refl _ _⟩
  · rw [if_neg h]
    exact block_any s (by omega) w
theorem refBlock_is (s : ByteArray) (w : World) : Calls Try.prog 17 #[.string s] w fun e w' => e = .returned (.tuple #[.string (blV s).1, .int .i64 (blV s).2]) ∧ Below w.heap.size w w' := by
  unfold blV
  by_cases h : 122 < s.size
  · rw [if_pos h]
    exact (ref_long s h w).mono fun e w' k => ⟨k.1, by rw [k.2]; exact Below.refl _ _⟩
  · rw [if_neg h]
    exact refBlock s (by omega) w
theorem blV_range (s : ByteArray) : 0 ≤ (blV s).2 ∧ (blV s).2 ≤ 30 := by
  unfold blV
  split
  · decide
  · exact ⟨Int.le_refl _, by omega⟩
theorem unV_range (s : ByteArray) : 0 ≤ (unV s).2 ∧ (unV s).2 ≤ 30 := by
  unfold unV
  split
  · decide
  · split
    · decide
    · split
      · decide
      · split
        · decide
        · exact ⟨Int.le_refl _, by omega⟩
set_option maxRecDepth 100000 in
set_option maxHeartbeats 2000000 in
theorem blocks_walk (s b : ByteArray) (hb : b.size ≤ 150000000000000) (w : World) : Calls Try.prog 4 #[.string s, .string b] w fun e w' => e = .returned (.bool true) ∧ Below w.heap.size w w' := by
  have HO := hid (fun w => block_is s w)
  have HP := hid (fun w => refBlock_is s w)
  have HS := hid (fun w => unblock_any b hb w)
  have HT := hid (fun w => refUnblock b hb w)
  have hr := blV_range s
  have hq := unV_range b
  obtain ⟨a, ha⟩ : ∃ a, a = (blV s).1 := ⟨_, rfl⟩
  obtain ⟨f, hf⟩ : ∃ f, f = (blV s).2 := ⟨_, rfl⟩
  obtain ⟨t, ht⟩ : ∃ t, t = (unV b).1 := ⟨_, rfl⟩
  obtain ⟨c, hc⟩ : ∃ c, c = (unV b).2 := ⟨_, rfl⟩
  rw [← ha, ← hf] at HO HP
  rw [← hf] at hr
  rw [← ht, ← hc] at HS HT
  rw [← hc] at hq
  clear ha hf ht hc
  go_enter Try.func4, Try.ntmps4
  go_wp2_with (first
    | (go_at_call 16; refine (HO.out _).mono ?_; rintro e w1 ⟨rfl, hb1⟩)
    | (go_at_call 17; refine (HP.out _).mono ?_; rintro e w2 ⟨rfl, hb2⟩)
    | (go_at_call 18; refine (HS.out _).mono ?_; rintro e w5 ⟨rfl, hb5⟩)
    | (go_at_call 19; refine (HT.out _).mono ?_; rintro e w6 ⟨rfl, hb6⟩)
    | (go_at_call 15; refine (speaks_any _).mono ?_; rintro e w7 ⟨rfl, hb7⟩))
  go_ret
  exact ⟨rfl, (((hb1.next hb2).next hb5).next hb6).next hb7⟩

theorem open_seal (s : ByteArray) (hs : s.size ≤ 141000000000000) (w : World) : Calls Try.prog 9 #[.string (st (sealL s.data.toList))] w fun e w' => e = .returned (.tuple #[.string s, .int .i64 0]) ∧ Below w.heap.size w w' := by
  have hl := len_list s
  have hz : (st (sealL s.data.toList)).size = s.size + 4 := by rw [st_size, sealL_len, hl]
  have ht : (sealL s.data.toList).take s.size = s.data.toList := by rw [sealL, ← hl, List.take_left]
  have hd : (sealL s.data.toList).drop s.size = fEnc (crc s.data.toList) 4 := by rw [sealL, ← hl, List.drop_left]
  have hc := crc_lt s.data.toList
  refine (open_ok (st (sealL s.data.toList)) s.size hz (by omega) (by rw [st_list, ht, hd, big_fEnc 4 _ (by omega)]) w).mono fun e w' k => ⟨?_, k.2⟩
  rw [k.1]
  have : (st (sealL s.data.toList)).extract 0 s.size = s := by
    rw [← st_toList ((st (sealL s.data.toList)).extract 0 s.size), ext_head, st_list, ht, st_toList]
  rw [this]
set_option maxRecDepth 100000 in
set_option maxHeartbeats 2000000 in
theorem back_walk (s : ByteArray) (hs : s.size ≤ 141000000000000) (w : World) : Calls Try.prog 5 #[.string s] w fun e w' => e = .returned (.bool true) ∧ Below w.heap.size w w' := by
  have HO := hid (fun w => open_seal s hs w)
  have HS := hid (fun w => seal_any s (by omega) w)
  obtain ⟨t, ht⟩ : ∃ t, t = st (sealL s.data.toList) := ⟨_, rfl⟩
  rw [← ht] at HO HS
  clear ht
  by_cases h : 122 < s.size
  · have HB := hid (fun w => block_long s h w)
    go_enter Try.func5, Try.ntmps5
    go_wp2_with (first
      | (go_at_call 13; refine (HS.out _).mono ?_; rintro e w1 ⟨rfl, hb1⟩)
      | (go_at_call 9; refine (HO.out _).mono ?_; rintro e w2 ⟨rfl, hb2⟩)
      | (go_at_call 16; refine (HB.out _).mono ?_; rintro e w3 ⟨rfl, rfl⟩)
      | (go_at_call 15; refine (speaks_any _).mono ?_; rintro e w7 ⟨rfl, hb7⟩))
    go_ret
    exact ⟨rfl, (hb1.next hb2).next hb7⟩
  · have HB := hid (fun w => block_any s (by omega) w)
    have hl := len_list s
    have hz : (st (sealL (bodyL s.data.toList))).size = 128 := by rw [st_size, sealL_len, bodyL_len _ (by omega)]
    have HU := hid (fun w => unblock_any (st (sealL (bodyL s.data.toList))) (by rw [hz]; decide) w)
    rw [un_block _ (by omega), st_toList] at HU
    obtain ⟨b, hb⟩ : ∃ b, b = st (sealL (bodyL s.data.toList)) := ⟨_, rfl⟩
    rw [← hb] at HB HU hz
    clear hb hl
    go_enter Try.func5, Try.ntmps5
    go_wp2_with (first
      | (go_at_call 13; refine (HS.out _).mono ?_; rintro e w1 ⟨rfl, hb1⟩)
      | (go_at_call 9; refine (HO.out _).mono ?_; rintro e w2 ⟨rfl, hb2⟩)
      | (go_at_call 16; refine (HB.out _).mono ?_; rintro e w3 ⟨rfl, hb3⟩)
      | (go_at_call 18; refine (HU.out _).mono ?_; rintro e w4 ⟨rfl, hb4⟩)
      | (go_at_call 15; refine (speaks_any _).mono ?_; rintro e w7 ⟨rfl, hb7⟩))
    go_ret
    exact ⟨rfl, (((hb1.next hb2).next hb3).next hb4).next hb7⟩
end Go.Proofs.Ytmlolnhpjpahhaa
