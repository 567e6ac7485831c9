import Derived.Test.YtogiiefaakejlaaCc
namespace Go.Proofs.Ytogiiefaakejlaa
open Go.RowKit

set_option maxRecDepth 100000 in
set_option maxHeartbeats 1000000 in
theorem right_any (c : Ck) (hs : c.dat.size ≤ maxLen) (w : World) : Calls Try.prog 12 #[c.v] w fun e w' => e = .returned (.bool (rgt c)) ∧ Below w.heap.size w w' := by
  obtain ⟨dg, t, n, d, sm⟩ := c
  have hs' := hs
  simp only at hs hs'
  unfold maxLen at hs'
  have HS := hid (refOf d hs)
  obtain ⟨k, hk⟩ : ∃ k : Nat, k = crc d.data.toList := ⟨_, rfl⟩
  rw [← hk] at HS
  obtain ⟨r, hr⟩ : ∃ r : Bool, r = rgt ⟨dg, t, n, d, sm⟩ := ⟨_, rfl⟩
  rw [← hr]
  obtain ⟨m, hm⟩ : ∃ m, m = many t n := ⟨_, rfl⟩
  have HM := hid (many_any t n)
  have hml := many_le t n
  have HZ : Hid (r = decide (0 < m ∧ (d.size : Int) = m * 128 ∧ sm = (k : Int))) := by show _ = _; rw [hr, rgt_many, hm, hk]
  rw [← hm] at HM hml
  clear hr hk hs hm
  have HB := hid (below_alloc w (.cells #[.int .i64 dg, .int .i64 t, .int .i64 n, .string d, .int .i64 sm] 35))
  by_cases h1 : 0 < m
  · have hd1 : decide (m > 0) = true := by simpa using h1
    by_cases h2 : (d.size : Int) = m * 128
    · have hd2 : decide ((d.size : Int) = m * 128) = true := by simpa using h2
      go_enter Try.func12, Try.ntmps12
      go_wp2_with (first
        | (go_at_call 29; refine (HM.out _).mono ?_; rintro e w1 ⟨rfl, hw⟩; have hw := hw.symm; subst hw)
        | (go_quiet ((go_at_call 28; exact Calls.quiet_of_same (HS.out _))); go_wp2))
      go_ret
      refine ⟨?_, HB.out.dN _⟩
      rw [HZ.out]
      simp [h1, h2]
      rfl
    · have hd2 : ((d.size : Int) == m * 128) = false := by simpa using h2
      go_enter Try.func12, Try.ntmps12
      go_wp2_with (first
        | (go_at_call 29; refine (HM.out _).mono ?_; rintro e w1 ⟨rfl, hw⟩; have hw := hw.symm; subst hw)
        | (go_quiet ((go_at_call 28; exact Calls.quiet_of_same (HS.out _))); go_wp2))
      go_ret
      refine ⟨?_, HB.out.dN _⟩
      rw [HZ.out]
      simp [h2]
  · have hd1 : decide (m > 0) = false := by simpa using h1
    go_enter Try.func12, Try.ntmps12
    go_wp2_with (first
      | (go_at_call 29; refine (HM.out _).mono ?_; rintro e w1 ⟨rfl, hw⟩; have hw := hw.symm; subst hw)
      | (go_quiet ((go_at_call 28; exact Calls.quiet_of_same (HS.out _))); go_wp2))
    go_ret
    refine ⟨?_, HB.out.dN _⟩
    rw [HZ.out]
    simp
    omega
set_option maxRecDepth 100000 in
theorem load35 {g : Nat} {w : World} {c : Ck} {t : TypeId} (h : KBox t g w c) : (loadVar 35 ⟨g, 0, none⟩).run Try.prog w = .ok c.v w := by
  obtain ⟨c0, c1, c2, c3, c4⟩ := h.cell
  have a35 := Try.isAgg35
  have z35 := Try.sizeOf35
  go_simp
theorem ret13 {a : Act} {w : World} {R : Nat} {c : Ck} {post : Ending → World → Prop} (hb : KBox 35 R w c) (h2 : a.tmps.getD 2 undef = .pointer (some ⟨R, 0, none⟩)) (hd : a.defers = []) (hp : post (.returned c.v) w) : bodyPost Try.prog Try.f13 post .ret a w := by
  refine bodyPost_ret (v := c.v) ?_ hd hp
  simp only [results, show Try.f13.results = #[.cell 2 35] from rfl]
  rw [Array.getD_eq_getD_getElem?] at h2
  simp [h2, asAddr, load35 hb]
set_option maxRecDepth 100000 in
theorem ref_any (c : Ck) (w : World) : Calls Try.prog 13 #[c.v] w fun e w' => e = .returned c.v ∧ Below w.heap.size w w' := by
  obtain ⟨dg, t, n, d, sm⟩ := c
  go_enter Try.func13, Try.ntmps13
  go_wp2
  refine ret13 (R := w.heap.size + 1) (c := ⟨dg, t, n, d, sm⟩) ?_ rfl rfl ⟨rfl, (below_alloc w _).next (below_alloc _ _)⟩
  have := box_at (w.alloc (.cells #[.int .i64 dg, .int .i64 t, .int .i64 n, .string d, .int .i64 sm] 24)) (.cells #[.int .i64 dg, .int .i64 t, .int .i64 n, .string d, .int .i64 sm] 35)
  simpa [KBox, Ck.cs] using this
end Go.Proofs.Ytogiiefaakejlaa
