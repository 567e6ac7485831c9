import Derived.Test.YtiggfoijinnfmaaBh
namespace Go.Proofs.Ytiggfoijinnfmaa
open Go.RowKit

theorem _root_.Go.RowKit.Below.nextD {w w1 w2 : World} {k : Nat} (a : Below w.heap.size w w1) (b : Below (w1.drewN k).heap.size (w1.drewN k) w2) : Below w.heap.size w w2 :=
  a.next ⟨b.os, b.tape, b.output, b.size, b.block⟩
theorem bitE_ok {b : ByteArray} {n : Nat} (hb : b.size = 128) (hn : n < 1024) : bitE b (n : Int) = 0 := by unfold bitE; rw [if_pos hb, if_pos (by omega)]
theorem hasV_ok {b : ByteArray} {n : Nat} (hb : b.size = 128) (hn : n < 1024) : hasV b (n : Int) = tk b.data.toList n := by unfold hasV; rw [if_pos (bitE_ok hb hn)]; rfl
theorem setV_ok {b : ByteArray} {n : Nat} (t : Bool) (hb : b.size = 128) (hn : n < 1024) : setV b (n : Int) t = st (stB b.data.toList n t) := by unfold setV; rw [if_pos (bitE_ok hb hn)]; rfl
theorem rngE_ok {b : ByteArray} {a n : Nat} (hb : b.size = 128) (hn : a + n ≤ 1024) : rngE b (a : Int) ((a : Int) + n) = 0 := by unfold rngE; rw [if_pos hb, if_pos (by omega)]
theorem cntV_all {b : ByteArray} (hb : b.size = 128) : cntV b 0 1024 = cnt b.data.toList 0 1024 ∧ rngE b 0 1024 = 0 := by
  have h := rngE_ok (b := b) (a := 0) (n := 1024) hb (by decide)
  exact ⟨cntV_ok b 0 1024 h, h⟩
theorem bitE_size {b c : ByteArray} (h : b.size = c.size) (k : Int) : bitE b k = bitE c k := by unfold bitE; rw [h]
set_option maxRecDepth 100000 in
set_option maxHeartbeats 1000000 in
theorem back_no (b : ByteArray) (i k : Int) (h : bitE b i ≠ 0) (w : World) : Calls Try.prog 5 #[.string b, .int .i64 i, .int .i64 k] w fun e w' => e = .returned (.bool true) ∧ Below w.heap.size w w' := by
  have HH := hid (has_any b i)
  have hS : setV b i (!hasV b i) = ByteArray.empty := by unfold setV; rw [if_neg h]
  have HS := hid (set_any b i (!hasV b i))
  rw [hS] at HS
  obtain ⟨v, hv⟩ : ∃ v, v = hasV b i := ⟨_, rfl⟩
  obtain ⟨n, hn⟩ : ∃ v, v = bitE b i := ⟨_, rfl⟩
  rw [← hv, ← hn] at HH
  rw [← hv, ← hn] at HS
  rw [← hn] at h
  clear hv hn hS
  go_enter Try.func5, Try.ntmps5
  go_wp2_with (first
    | (go_at_call 8; refine (HH.out _).mono ?_; rintro e w1 ⟨rfl, k1, rfl⟩)
    | (go_at_call 10; refine (HS.out _).mono ?_; rintro e w3 ⟨rfl, hb3⟩)
    | (go_at_call 12; refine (speaks_any _).mono ?_; rintro e w5 ⟨rfl, hb5⟩))
  go_ret
  exact ⟨rfl, (((Below.refl _ _).dN _).next hb3).next hb5⟩
set_option maxRecDepth 100000 in
set_option maxHeartbeats 2000000 in
theorem back_go (b X : ByteArray) (i k : Int) (v : Bool) (c : Nat) (hv : hasV b i = v) (he : bitE b i = 0) (hX : setV b i (!v) = X) (hXe : bitE X i = 0) (hXv : hasV X i = !v) (hback : setV X i v = b)
    (hc : cntV b 0 1024 = c) (hc1 : c ≤ 1024) (hce : rngE b 0 1024 = 0) (hcX : cntV X 0 1024 = if v then (c : Int) - 1 else (c : Int) + 1) (hcXe : rngE X 0 1024 = 0)
    (hk : k ≠ i → hasV X k = hasV b k) (hke : bitE X k = bitE b k) (w : World) : Calls Try.prog 5 #[.string b, .int .i64 i, .int .i64 k] w fun e w' => e = .returned (.bool true) ∧ Below w.heap.size w w' := by
  have hbb : (b.toList == b.toList) = true := str_eq rfl
  have hB := Below.refl w.heap.size w
  cases v with
  | false =>
    replace hX : setV b i true = X := hX
    replace hXv : hasV X i = true := hXv
    replace hcX : cntV X 0 1024 = (c : Int) + 1 := hcX
    by_cases hki : k = i
    · clear hk
      go_enter Try.func5, Try.ntmps5
      go_wp2_with (first
        | (go_at_call 8; refine (has_any _ _ _).mono ?_; rintro e w1 ⟨rfl, k1, rfl⟩)
        | (go_at_call 10; refine (set_any _ _ _ _).mono ?_; rintro e w3 ⟨rfl, hb3⟩; replace hB := hB.nextD hb3; clear hb3)
        | (go_at_call 16; refine (count_any _ _ _ _).mono ?_; rintro e w4 ⟨rfl, k4, rfl⟩)
        | (go_at_call 12; refine (speaks_any _).mono ?_; rintro e w5 ⟨rfl, hb5⟩))
      go_ret
      exact ⟨rfl, hB.nextD hb5⟩
    · have hk2 := hk hki
      clear hk
      go_enter Try.func5, Try.ntmps5
      go_wp2_with (first
        | (go_at_call 8; refine (has_any _ _ _).mono ?_; rintro e w1 ⟨rfl, k1, rfl⟩)
        | (go_at_call 10; refine (set_any _ _ _ _).mono ?_; rintro e w3 ⟨rfl, hb3⟩; replace hB := hB.nextD hb3; clear hb3)
        | (go_at_call 16; refine (count_any _ _ _ _).mono ?_; rintro e w4 ⟨rfl, k4, rfl⟩)
        | (go_at_call 12; refine (speaks_any _).mono ?_; rintro e w5 ⟨rfl, hb5⟩))
      go_ret
      exact ⟨rfl, hB.nextD hb5⟩
  | true =>
    replace hX : setV b i false = X := hX
    replace hXv : hasV X i = false := hXv
    replace hcX : cntV X 0 1024 = (c : Int) - 1 := hcX
    by_cases hki : k = i
    · clear hk
      go_enter Try.func5, Try.ntmps5
      go_wp2_with (first
        | (go_at_call 8; refine (has_any _ _ _).mono ?_; rintro e w1 ⟨rfl, k1, rfl⟩)
        | (go_at_call 10; refine (set_any _ _ _ _).mono ?_; rintro e w3 ⟨rfl, hb3⟩; replace hB := hB.nextD hb3; clear hb3)
        | (go_at_call 16; refine (count_any _ _ _ _).mono ?_; rintro e w4 ⟨rfl, k4, rfl⟩)
        | (go_at_call 12; refine (speaks_any _).mono ?_; rintro e w5 ⟨rfl, hb5⟩))
      go_ret
      exact ⟨rfl, hB.nextD hb5⟩
    · have hk2 := hk hki
      clear hk
      go_enter Try.func5, Try.ntmps5
      go_wp2_with (first
        | (go_at_call 8; refine (has_any _ _ _).mono ?_; rintro e w1 ⟨rfl, k1, rfl⟩)
        | (go_at_call 10; refine (set_any _ _ _ _).mono ?_; rintro e w3 ⟨rfl, hb3⟩; replace hB := hB.nextD hb3; clear hb3)
        | (go_at_call 16; refine (count_any _ _ _ _).mono ?_; rintro e w4 ⟨rfl, k4, rfl⟩)
        | (go_at_call 12; refine (speaks_any _).mono ?_; rintro e w5 ⟨rfl, hb5⟩))
      go_ret
      exact ⟨rfl, hB.nextD hb5⟩
theorem back_walk (b : ByteArray) (i k : Int) (w : World) : Calls Try.prog 5 #[.string b, .int .i64 i, .int .i64 k] w fun e w' => e = .returned (.bool true) ∧ Below w.heap.size w w' := by
  by_cases h : bitE b i = 0
  · obtain ⟨hb, n, rfl, hn⟩ := bit_ok h
    have h8 : n / 8 < b.data.toList.length := by rw [len_list]; omega
    have hsz : (st (stB b.data.toList n (!tk b.data.toList n))).size = 128 := by rw [st_size, stB_len, len_list, hb]
    have hcs := cnt_set b.data.toList n (!tk b.data.toList n) h8 0 1024
    have hin : 0 ≤ n ∧ n < 0 + 1024 := by omega
    rw [if_pos hin, if_pos hin] at hcs
    refine back_go b (st (stB b.data.toList n (!tk b.data.toList n))) n k (tk b.data.toList n) (cnt b.data.toList 0 1024) (hasV_ok hb hn) h (setV_ok _ hb hn) (bitE_ok hsz hn) ?_ ?_ (cntV_all hb).1 (cnt_le _ _ _) (cntV_all hb).2 ?_ (cntV_all hsz).2 ?_ (bitE_size (hsz.trans hb.symm) k) w
    · rw [hasV_ok hsz hn, st_list, stB_tk _ _ _ _ h8, if_pos rfl]
    · rw [setV_ok _ hsz hn, st_list, stB_back _ _ _ h8, st_toList]
    · rw [(cntV_all hsz).1, st_list]
      cases ht : tk b.data.toList n <;> rw [ht] at hcs <;> simp at hcs ⊢ <;> omega
    · intro hne
      unfold hasV
      rw [bitE_size (hsz.trans hb.symm) k]
      split
      · rename_i hk
        obtain ⟨_, m, rfl, _⟩ := bit_ok hk
        rw [st_list, stB_tk _ _ _ _ h8, if_neg (by simp; omega)]
      · rfl
  · exact back_no b i k h w
end Go.Proofs.Ytiggfoijinnfmaa
