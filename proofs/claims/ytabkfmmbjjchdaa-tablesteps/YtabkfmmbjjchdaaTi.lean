import Derived.Test.YtabkfmmbjjchdaaTh
namespace Go.Proofs.Ytabkfmmbjjchdaa
open Go.RowKit Go.Maps

set_option maxRecDepth 100000 in
set_option maxHeartbeats 1000000 in
theorem texts_same {w : World} {v u : Value} {l : List ByteArray} (h : SLie w v l) (k : SLie w u l) : Calls Try.prog 26 #[v, u] w fun e w' => e = .returned (.bool true) ∧ Below w.heap.size w w' := by
  obtain ⟨ao, cap, rfl, h1, h2, _, h3⟩ := h
  obtain ⟨bo, cap', rfl, k1, k2, _, k3⟩ := k
  replace h3 := hid h3
  replace k3 := hid k3
  obtain ⟨n, hn⟩ : ∃ n, n = l.length := ⟨_, rfl⟩
  rw [← hn] at h1 k1 ⊢
  have hm : n ≤ 9223372036854775807 := by unfold maxLen at h2; omega
  replace hn := hid hn
  clear h1 k1 h2 k2
  go_enter Try.func26, Try.ntmps26
  go_wp2
  go_loopw [13] (fun i wr => ∃ j : Nat, j ≤ n ∧ i = .int .i64 j ∧ Hid (Below w.heap.size w wr)) (fun i _ => n - (intOf i).toNat)
  case atStart => exact ⟨0, Nat.zero_le _, rfl, hid (Below.refl _ _)⟩
  case round =>
    obtain ⟨j, hj, rfl, HB⟩ := hrel
    by_cases hlt : j < n
    · have hj' : j < l.length := by rw [← hn.out]; exact hlt
      obtain ⟨ga, oa, ea, hga, ca⟩ := h3.out j hj'
      obtain ⟨gc, oc, ec, hgc, cc⟩ := k3.out j hj'
      subst ea ec
      obtain ⟨x, hx⟩ : ∃ x, x = l[j]'hj' := ⟨_, rfl⟩
      rw [← hx] at ca cc
      rw [← HB.out.cell (p := ⟨ga, oa + j, none⟩) hga] at ca
      rw [← HB.out.cell (p := ⟨gc, oc + j, none⟩) hgc] at cc
      clear hx hj'
      go_wp2
      go_quiet (fail)
      go_wp2
      go_roundw
      case rel => exact ⟨j + 1, hlt, by simp, hid (HB.out.dN _)⟩
      case measure => simp [intOf]; omega
    · go_wp2
      go_ret
      exact ⟨rfl, HB.out⟩
set_option maxRecDepth 100000 in
set_option maxHeartbeats 1000000 in
/-- two results that read the same -/
theorem result_same {w : World} {e a b c : Int} {t : ByteArray} {v u : Value} {l : List ByteArray} (h : SLie w v l) (k : SLie w u l) : Calls Try.prog 14 #[.agg #[.int .i64 e, .string t, .int .i64 a, .int .i64 b, .int .i64 c, v], .agg #[.int .i64 e, .string t, .int .i64 a, .int .i64 b, .int .i64 c, u]] w fun x w' => x = .returned (.bool true) ∧ Below w.heap.size w w' := by
  have HT := hid (fun (W : World) (hW : Below w.heap.size w W) => texts_same (h.below hW) (k.below hW))
  obtain ⟨ao, cap, rfl, _⟩ := h
  obtain ⟨bo, cap', rfl, _⟩ := k
  obtain ⟨n, hn⟩ : ∃ n, n = l.length := ⟨_, rfl⟩
  rw [← hn] at HT ⊢
  clear hn
  go_enter Try.func14, Try.ntmps14
  go_wp2_with (first
    | (go_at_call 26; refine (HT.out _ ((below_alloc _ _).next (below_alloc _ _))).mono ?_; rintro x w1 ⟨rfl, hb1⟩))
  go_ret
  exact ⟨rfl, ((below_alloc _ _).next (below_alloc _ _)).next hb1⟩
end Go.Proofs.Ytabkfmmbjjchdaa
