import Derived.Test.YtogiiefaakejlaaCc
namespace Go.Proofs.Ytogiiefaakejlaa
open Go.RowKit

set_option maxRecDepth 100000 in
set_option maxHeartbeats 1000000 in
theorem check_any (c : Ck) (hs : c.dat.size ≤ maxLen) (w : World) : Calls Try.prog 11 #[c.v] w fun e w' => e = .returned (.int .i64 (if rgt c then 0 else 4)) ∧ Below w.heap.size w w' := by
  obtain ⟨dg, t, n, d, sm⟩ := c
  have hs' := hs
  simp only at hs hs'
  unfold maxLen at hs'
  have HS := hid (sumOf d hs)
  obtain ⟨k, hk⟩ : ∃ k : Nat, k = crc d.data.toList := ⟨_, rfl⟩
  rw [← hk] at HS
  obtain ⟨r, hr⟩ : ∃ r : Int, r = if rgt ⟨dg, t, n, d, sm⟩ then 0 else 4 := ⟨_, rfl⟩
  rw [← hr]
  have HZ : Hid (r = if decide (1 ≤ t ∧ t ≤ 1024 ∧ 0 ≤ n ∧ n < cnt t ∧ (d.size : Int) = 128 * siz t n ∧ sm = (k : Int)) = true then 0 else 4) := by show _ = _; rw [hr, hk]; rfl
  clear hr hk hs
  have HB := hid (below_alloc w (.cells #[.int .i64 dg, .int .i64 t, .int .i64 n, .string d, .int .i64 sm] 24))
  by_cases h1 : 1 ≤ t ∧ t ≤ 1024
  · have hc0 : 0 ≤ cnt t := by unfold cnt; omega
    have hc1 : cnt t ≤ 128 := by unfold cnt; omega
    by_cases h2 : n < 0
    · have hd : decide (n < 0) = true := by simpa using h2
      go_enter Try.func11, Try.ntmps11
      go_wp2_with (go_at_call 23; refine (isTotal_any _ _).mono ?_; rintro e w1 ⟨rfl, hw⟩; have hw := hw.symm; subst hw)
      go_quiet ((go_at_call 26; exact Calls.quiet_of_same (count_any _ (by omega) (by omega) _)))
      go_wp2
      go_ret
      refine ⟨ret_int ?_, HB.out.dN _⟩
      rw [HZ.out, if_neg]
      simp; omega
    · have hd : decide (n < 0) = false := by simpa using h2
      obtain ⟨q, hq⟩ : ∃ q, q = cnt t := ⟨_, rfl⟩
      by_cases h3 : n < cnt t
      · have hs0 : 0 ≤ siz t n := by unfold siz; unfold cnt at h3; omega
        have hs1 : siz t n ≤ 8 := by unfold siz; omega
        have HSZ := hid (size_any t n (by omega) (by omega) (by omega) (by omega))
        by_cases h4 : (d.size : Int) = 128 * siz t n
        · by_cases h5 : sm = (k : Int)
          · go_enter Try.func11, Try.ntmps11
            go_wp2_with (go_at_call 23; refine (isTotal_any _ _).mono ?_; rintro e w1 ⟨rfl, hw⟩; have hw := hw.symm; subst hw)
            go_quiet ((go_at_call 26; exact Calls.quiet_of_same (count_any _ (by omega) (by omega) _)))
            go_wp2
            go_quiet ((go_at_call 30; exact quiet2 (HSZ.out _)))
            go_wp2
            go_quiet ((go_at_call 24; exact quiet2 (HS.out _)))
            go_wp2
            go_ret
            refine ⟨ret_int ?_, ?_⟩
            · rw [HZ.out, if_pos]
              simp; omega
            · exact (((below_alloc w _).dN _).dN _).dN _
          · go_enter Try.func11, Try.ntmps11
            go_wp2_with (go_at_call 23; refine (isTotal_any _ _).mono ?_; rintro e w1 ⟨rfl, hw⟩; have hw := hw.symm; subst hw)
            go_quiet ((go_at_call 26; exact Calls.quiet_of_same (count_any _ (by omega) (by omega) _)))
            go_wp2
            go_quiet ((go_at_call 30; exact quiet2 (HSZ.out _)))
            go_wp2
            go_quiet ((go_at_call 24; exact quiet2 (HS.out _)))
            go_wp2
            go_ret
            refine ⟨ret_int ?_, ?_⟩
            · rw [HZ.out, if_neg]
              simp; omega
            · exact (((below_alloc w _).dN _).dN _).dN _
        · go_enter Try.func11, Try.ntmps11
          go_wp2_with (go_at_call 23; refine (isTotal_any _ _).mono ?_; rintro e w1 ⟨rfl, hw⟩; have hw := hw.symm; subst hw)
          go_quiet ((go_at_call 26; exact Calls.quiet_of_same (count_any _ (by omega) (by omega) _)))
          go_wp2
          go_quiet ((go_at_call 30; exact quiet2 (HSZ.out _)))
          go_wp2
          go_ret
          refine ⟨ret_int ?_, ?_⟩
          · rw [HZ.out, if_neg]
            simp; omega
          · exact ((below_alloc w _).dN _).dN _
      · go_enter Try.func11, Try.ntmps11
        go_wp2_with (go_at_call 23; refine (isTotal_any _ _).mono ?_; rintro e w1 ⟨rfl, hw⟩; have hw := hw.symm; subst hw)
        go_quiet ((go_at_call 26; exact Calls.quiet_of_same (count_any _ (by omega) (by omega) _)))
        go_wp2
        go_ret
        refine ⟨ret_int ?_, HB.out.dN _⟩
        rw [HZ.out, if_neg]
        simp; omega
  · go_enter Try.func11, Try.ntmps11
    have h1' : decide (1 ≤ t ∧ t ≤ 1024) = false := by simpa using h1
    go_wp2_with (first
        | (go_at_call 23; refine (isTotal_any _ _).mono ?_; rintro e w1 ⟨rfl, hw⟩; have hw := hw.symm; subst hw; rw [h1']))
    go_ret
    refine ⟨ret_int ?_, HB.out⟩
    rw [HZ.out, if_neg]
    simp; omega
end Go.Proofs.Ytogiiefaakejlaa
