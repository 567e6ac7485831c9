import Derived.Test.YtjphfpfagnhelaaFa
namespace Go.Proofs.Ytjphfpfagnhelaa
open Go.RowKit Go.Maps

theorem drewN2 (w : World) (a b : Nat) : (w.drewN a).drewN b = w.drewN (a + b) := by simp [World.drewN, Nat.add_assoc]
set_option maxRecDepth 100000 in
set_option maxHeartbeats 1000000 in
theorem entries_any {w : World} {u v : Value} {l m : List Ent} (hu : ELie w u l) (hv : ELie w v m) : Calls Try.prog 30 #[u, v] w fun e w' => e = .returned (.bool (decide (l = m))) ∧ ∃ q, w' = w.drewN q := by
  obtain ⟨ao, ca, rfl, hla, hma, hca⟩ := hu
  obtain ⟨bo, cb, rfl, hlb, hmb, hcb⟩ := hv
  unfold maxLen at hma hmb
  by_cases hlen : l.length = m.length
  · obtain ⟨n, hn⟩ : ∃ n, n = l.length := ⟨_, rfl⟩
    have HA := hid hca
    have HB := hid hcb
    have HN := hid hn
    have HM : Hid (m.length = n) := hid (by omega)
    rw [← hlen, ← hn]
    rw [← hn] at hla
    rw [← hlen, ← hn] at hlb
    clear hca hcb hlen hn
    have hnn : ((n : Int) != n) = false := by simp
    obtain ⟨b, hb⟩ : ∃ b, b = decide (l = m) := ⟨_, rfl⟩
    rw [← hb]
    have HQ := hid hb
    clear hb
    go_enter Try.func30, Try.ntmps30
    go_wp2
    go_loopw [13] (fun i wr => ∃ j : Nat, i = .int .i64 j ∧ j ≤ n ∧ Hid (l.take j = m.take j) ∧ ∃ q, wr = w.drewN q) (fun i _ => n - (intOf i).toNat)
    case atStart => exact ⟨0, rfl, Nat.zero_le _, hid rfl, 0, rfl⟩
    case round =>
      obtain ⟨j, rfl, hj, HT, q, rfl⟩ := hrel
      by_cases hlt : j < n
      · obtain ⟨ga, oa, ea, hga, hat⟩ := HA.out j (by rw [← HN.out]; exact hlt)
        obtain ⟨gb, ob, eb, hgb, hbt⟩ := HB.out j (by rw [HM.out]; exact hlt)
        subst ea
        subst eb
        have hjl : j < l.length := by rw [← HN.out]; exact hlt
        have hjm : j < m.length := by rw [HM.out]; exact hlt
        have hq := eqE (l[j]'hjl) (m[j]'hjm)
        have HD : Hid ((l[j]'hjl = m[j]'hjm) → l.take (j + 1) = m.take (j + 1)) := hid fun e => by
          rw [List.take_succ_eq_append_getElem hjl, List.take_succ_eq_append_getElem hjm, HT.out, e]
        have HE : Hid (l = m → l[j]'hjl = m[j]'hjm) := hid fun e => by simp only [e]
        obtain ⟨x, hx⟩ : ∃ x, x = l[j]'hjl := ⟨_, rfl⟩
        obtain ⟨y, hy⟩ : ∃ y, y = m[j]'hjm := ⟨_, rfl⟩
        rw [← hx] at hat hq HD HE
        rw [← hy] at hbt hq HD HE
        clear hx hy hjl hjm
        obtain ⟨c0, c1, c2, c3, c4, c5, c6, c7, c8⟩ := hat
        obtain ⟨d0, d1, d2, d3, d4, d5, d6, d7, d8⟩ := hbt
        by_cases hxy : x = y
        · rw [decide_eq_true hxy] at hq
          have HD2 := hid (HD.out hxy)
          clear hxy HD HE
          obtain ⟨V, C, R, K, A, N, p, t, d⟩ := x
          obtain ⟨V1, C1, R1, K1, A1, N1, p1, t1, d'⟩ := y
          simp only [Ent.v] at hq c0 c1 c2 c3 c4 c5 c6 c7 c8 d0 d1 d2 d3 d4 d5 d6 d7 d8
          go_wp2
          go_quiet (fail)
          go_wp2
          go_roundw
          case rel => exact ⟨j + 1, by go_num, by omega, HD2, _, by first | exact drewN2 _ _ _ | rfl⟩
          case measure => simp [intOf]; omega
        · rw [decide_eq_false hxy] at hq
          have HD2 : Hid (decide (l = m) = false) := hid (decide_eq_false fun e => hxy (HE.out e))
          clear hxy HD HE
          obtain ⟨V, C, R, K, A, N, p, t, d⟩ := x
          obtain ⟨V1, C1, R1, K1, A1, N1, p1, t1, d'⟩ := y
          simp only [Ent.v] at hq c0 c1 c2 c3 c4 c5 c6 c7 c8 d0 d1 d2 d3 d4 d5 d6 d7 d8
          go_wp2
          go_quiet (fail)
          go_wp2
          go_ret
          exact ⟨by rw [show b = false from HQ.out.trans HD2.out]; rfl, _, by first | exact drewN2 _ _ _ | rfl⟩
      · have hjn : j = n := by omega
        have HD2 : Hid (decide (l = m) = true) := hid (by
          refine decide_eq_true ?_
          have e := HT.out
          rw [hjn, List.take_of_length_le (by rw [← HN.out]; exact Nat.le_refl _), List.take_of_length_le (by rw [HM.out]; exact Nat.le_refl _)] at e
          exact e)
        clear hjn
        go_wp2
        go_ret
        exact ⟨by rw [show b = true from HQ.out.trans HD2.out]; rfl, _, by first | exact drewN2 _ _ _ | rfl⟩
  · have HD2 : Hid (decide (l = m) = false) := hid (decide_eq_false fun e => hlen (by rw [e]))
    rw [HD2.out]
    have hne : ((l.length : Int) != m.length) = true := by simp; omega
    clear hca hcb
    go_enter Try.func30, Try.ntmps30
    go_wp2
    go_ret
    exact ⟨rfl, 0, rfl⟩
end Go.Proofs.Ytjphfpfagnhelaa
