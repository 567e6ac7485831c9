import Derived.Test.YtmabnnimacjplaaIb
namespace Go.Proofs.Ytmabnnimacjplaa
open Go.RowKit

theorem okN_cases (x : Int) : (okN x = true ∧ 0 ≤ x ∧ x < 1024) ∨ (okN x = false ∧ (x < 0 ∨ (0 ≤ x ∧ 1024 ≤ x))) := by
  unfold okN
  by_cases h : 0 ≤ x ∧ x < 1024
  · left; exact ⟨decide_eq_true h, h.1, h.2⟩
  · right; exact ⟨decide_eq_false h, by omega⟩
theorem right_cases (n : Ino) : (n.k = 0 ∧ rightI n = freeI n) ∨ (¬ n.k = 0 ∧ ((¬ n.k = 1 ∧ ¬ n.k = 2 ∧ rightI n = false) ∨ ((n.k = 1 ∨ n.k = 2) ∧ ((n.l < 1 ∧ rightI n = false) ∨ (¬ n.l < 1 ∧ ((n.l > 100 ∧ rightI n = false) ∨ (¬ n.l > 100 ∧ ((n.k = 2 ∧ ¬ n.l = 1 ∧ rightI n = false) ∨ ((n.k = 1 ∨ n.l = 1) ∧ ((n.z < 0 ∧ rightI n = false) ∨ (¬ n.z < 0 ∧ ((n.z > 533248 ∧ rightI n = false) ∨ (¬ n.z > 533248 ∧ rightI n = namesB n))))))))))))) := by
  have hfree : ¬ n.k = 0 → freeI n = false := fun h => decide_eq_false fun e => h (by rw [e]; rfl)
  by_cases h0 : n.k = 0
  · left
    refine ⟨h0, ?_⟩
    unfold rightI usedI lnk
    rw [h0]
    simp
  · right
    refine ⟨h0, ?_⟩
    have hf := hfree h0
    unfold rightI usedI lnk
    rw [hf]
    by_cases h1 : n.k = 1
    · right
      refine ⟨.inl h1, ?_⟩
      by_cases h2 : n.l < 1
      · left; refine ⟨h2, ?_⟩; rw [h1]; simp; omega
      · right; refine ⟨h2, ?_⟩
        by_cases h3 : n.l > 100
        · left; refine ⟨h3, ?_⟩; rw [h1]; simp; omega
        · right; refine ⟨h3, ?_⟩
          right; refine ⟨.inl h1, ?_⟩
          by_cases h4 : n.z < 0
          · left; refine ⟨h4, ?_⟩; rw [h1]; simp; omega
          · right; refine ⟨h4, ?_⟩
            by_cases h5 : n.z > 533248
            · left; refine ⟨h5, ?_⟩; rw [h1]; simp; omega
            · right; refine ⟨h5, ?_⟩; rw [h1]; simp; omega
    · by_cases h1' : n.k = 2
      · right
        refine ⟨.inr h1', ?_⟩
        by_cases h2 : n.l < 1
        · left; refine ⟨h2, ?_⟩; rw [h1']; simp; omega
        · right; refine ⟨h2, ?_⟩
          by_cases h3 : n.l > 100
          · left; refine ⟨h3, ?_⟩; rw [h1']; simp; omega
          · right; refine ⟨h3, ?_⟩
            by_cases h6 : n.l = 1
            · right; refine ⟨.inr h6, ?_⟩
              by_cases h4 : n.z < 0
              · left; refine ⟨h4, ?_⟩; rw [h1']; simp; omega
              · right; refine ⟨h4, ?_⟩
                by_cases h5 : n.z > 533248
                · left; refine ⟨h5, ?_⟩; rw [h1']; simp; omega
                · right; refine ⟨h5, ?_⟩; rw [h1']; simp; omega
            · left; refine ⟨h1', h6, ?_⟩; rw [h1']; simp [h6]
      · left; exact ⟨h1, h1', by rw [if_neg h1, if_neg h1']; rfl⟩
set_option maxRecDepth 100000 in
set_option maxHeartbeats 4000000 in
theorem rright_any (n : Ino) (w : World) : Calls Try.prog 14 #[n.v] w fun e w' => e = .returned (.bool (rightI n)) ∧ Below w.heap.size w w' := by
  have heq := wrapv n
  have hN : Hid (namesB n = (okN n.a && okN n.b && okN n.c && okN n.d && okN n.e && okN n.f && okN n.s && okN n.t)) := rfl
  have hc := right_cases n
  obtain ⟨r, hr⟩ : ∃ r, r = rightI n := ⟨_, rfl⟩
  obtain ⟨q, hq⟩ : ∃ r, r = freeI n := ⟨_, rfl⟩
  obtain ⟨p, hp⟩ : ∃ r, r = namesB n := ⟨_, rfl⟩
  rw [← hr, ← hq, ← hp] at hc
  rw [← hp] at hN
  rw [← hq] at heq
  rw [← hr]
  clear hr hq hp
  obtain ⟨k, l, z, a, b, c, d, e, f, s, t⟩ := n
  simp only [Ino.v, Ino.zero] at heq hc hN ⊢
  rcases hc with ⟨h0, hE⟩ | ⟨h0, ⟨h1, h2, hE⟩ | ⟨h1, ⟨h2, hE⟩ | ⟨h2, ⟨h3, hE⟩ | ⟨h3, ⟨h4, h5, hE⟩ | ⟨h4, ⟨h5, hE⟩ | ⟨h5, ⟨h6, hE⟩ | ⟨h6, hE⟩⟩⟩⟩⟩⟩⟩
  · subst hE h0
    clear hN
    go_enter Try.func14, Try.ntmps14
    go_wp2
    go_ret
    exact ⟨rfl, by go_grown⟩
  · subst hE
    clear hN heq
    go_enter Try.func14, Try.ntmps14
    go_wp2
    go_ret
    exact ⟨rfl, by go_grown⟩
  · subst hE
    clear hN heq
    rcases h1 with rfl | rfl
    · go_enter Try.func14, Try.ntmps14
      go_wp2
      go_ret
      exact ⟨rfl, by go_grown⟩
    · go_enter Try.func14, Try.ntmps14
      go_wp2
      go_ret
      exact ⟨rfl, by go_grown⟩
  · subst hE
    clear hN heq
    rcases h1 with rfl | rfl
    · go_enter Try.func14, Try.ntmps14
      go_wp2
      go_ret
      exact ⟨rfl, by go_grown⟩
    · go_enter Try.func14, Try.ntmps14
      go_wp2
      go_ret
      exact ⟨rfl, by go_grown⟩
  · subst hE h4
    clear hN heq
    go_enter Try.func14, Try.ntmps14
    go_wp2
    go_ret
    exact ⟨rfl, by go_grown⟩
  · subst hE
    clear hN heq
    rcases (show k = 1 ∨ (k = 2 ∧ l = 1) by omega) with rfl | ⟨rfl, rfl⟩
    · go_enter Try.func14, Try.ntmps14
      go_wp2
      go_ret
      exact ⟨rfl, by go_grown⟩
    · go_enter Try.func14, Try.ntmps14
      go_wp2
      go_ret
      exact ⟨rfl, by go_grown⟩
  · subst hE
    clear hN heq
    rcases (show k = 1 ∨ (k = 2 ∧ l = 1) by omega) with rfl | ⟨rfl, rfl⟩
    · go_enter Try.func14, Try.ntmps14
      go_wp2
      go_ret
      exact ⟨rfl, by go_grown⟩
    · go_enter Try.func14, Try.ntmps14
      go_wp2
      go_ret
      exact ⟨rfl, by go_grown⟩
  · have HE := hid hE
    rcases (show k = 1 ∨ (k = 2 ∧ l = 1) by omega) with rfl | ⟨rfl, rfl⟩
    all_goals
      clear h1 h4 hE heq
      go_enter Try.func14, Try.ntmps14
      go_wp2
      refine wp_loop_rounds 7 ?_
      rw [rounds_succ]
      rcases okN_cases a with ⟨qa, ua, va⟩ | ⟨qa, ua | ⟨ua, va⟩⟩
      rotate_left
      · go_wp2
        go_ret
        exact ⟨by rw [HE.out, hN.out]; simp [qa], by go_grown⟩
      · go_wp2
        go_ret
        exact ⟨by rw [HE.out, hN.out]; simp [qa], by go_grown⟩
      go_wp2
      rw [rounds_succ]
      rcases okN_cases b with ⟨qb, ub, vb⟩ | ⟨qb, ub | ⟨ub, vb⟩⟩
      rotate_left
      · go_wp2
        go_ret
        exact ⟨by rw [HE.out, hN.out]; simp [qa, qb], by go_grown⟩
      · go_wp2
        go_ret
        exact ⟨by rw [HE.out, hN.out]; simp [qa, qb], by go_grown⟩
      go_wp2
      rw [rounds_succ]
      rcases okN_cases c with ⟨qc, uc, vc⟩ | ⟨qc, uc | ⟨uc, vc⟩⟩
      rotate_left
      · go_wp2
        go_ret
        exact ⟨by rw [HE.out, hN.out]; simp [qa, qb, qc], by go_grown⟩
      · go_wp2
        go_ret
        exact ⟨by rw [HE.out, hN.out]; simp [qa, qb, qc], by go_grown⟩
      go_wp2
      rw [rounds_succ]
      rcases okN_cases d with ⟨qd, ud, vd⟩ | ⟨qd, ud | ⟨ud, vd⟩⟩
      rotate_left
      · go_wp2
        go_ret
        exact ⟨by rw [HE.out, hN.out]; simp [qa, qb, qc, qd], by go_grown⟩
      · go_wp2
        go_ret
        exact ⟨by rw [HE.out, hN.out]; simp [qa, qb, qc, qd], by go_grown⟩
      go_wp2
      rw [rounds_succ]
      rcases okN_cases e with ⟨qe, ue, ve⟩ | ⟨qe, ue | ⟨ue, ve⟩⟩
      rotate_left
      · go_wp2
        go_ret
        exact ⟨by rw [HE.out, hN.out]; simp [qa, qb, qc, qd, qe], by go_grown⟩
      · go_wp2
        go_ret
        exact ⟨by rw [HE.out, hN.out]; simp [qa, qb, qc, qd, qe], by go_grown⟩
      go_wp2
      rw [rounds_succ]
      rcases okN_cases f with ⟨qf, uf, vf⟩ | ⟨qf, uf | ⟨uf, vf⟩⟩
      rotate_left
      · go_wp2
        go_ret
        exact ⟨by rw [HE.out, hN.out]; simp [qa, qb, qc, qd, qe, qf], by go_grown⟩
      · go_wp2
        go_ret
        exact ⟨by rw [HE.out, hN.out]; simp [qa, qb, qc, qd, qe, qf], by go_grown⟩
      go_wp2
      rw [rounds_succ]
      rcases okN_cases s with ⟨qs, us, vs⟩ | ⟨qs, us | ⟨us, vs⟩⟩
      rotate_left
      · go_wp2
        go_ret
        exact ⟨by rw [HE.out, hN.out]; simp [qa, qb, qc, qd, qe, qf, qs], by go_grown⟩
      · go_wp2
        go_ret
        exact ⟨by rw [HE.out, hN.out]; simp [qa, qb, qc, qd, qe, qf, qs], by go_grown⟩
      rcases okN_cases t with ⟨qt, ut, vt⟩ | ⟨qt, ut | ⟨ut, vt⟩⟩
      all_goals
        go_wp2
        go_ret
        exact ⟨by rw [HE.out, hN.out]; first | (simp [qa, qb, qc, qd, qe, qf, qs, qt]; done) | (simp [qa, qb, qc, qd, qe, qf, qs, qt]; omega), by go_grown⟩
end Go.Proofs.Ytmabnnimacjplaa
