import Derived.Test.YtmabnnimacjplaaIm
namespace Go.Proofs.Ytmabnnimacjplaa
open Go.RowKit Go.Maps

theorem lvl_le (n : Nat) : 0 ≤ lvl n ∧ lvl n ≤ 2 := by
  rcases lvl_cases n with ⟨_, e, _⟩ | ⟨_, _, e, _⟩ | ⟨_, e, _⟩ <;> omega
set_option maxRecDepth 100000 in
set_option maxHeartbeats 4000000 in
theorem rcost_any (v : Value) (l : List Int) (w : World) (hl : ILie w v l) (hlen : l.length < 140737488355328) : Calls Try.prog 27 #[v] w fun e w' => e = .returned (.tuple #[.int .i64 (cosV l), .int .i64 (cosE l)]) ∧ w' = w := by
  obtain ⟨ao, cap, rfl, h1, h2, h3⟩ := hl
  have HP := hid rplace_any
  have HV : Hid (∀ b, goodB l = b → cosV l = (if b then ((l.length + (stA l l.length).c : Nat) : Int) else 0) ∧ cosE l = if b then 0 else 1) := fun b hb => by unfold cosV cosE; rw [hb]; exact ⟨rfl, rfl⟩
  obtain ⟨cv, hcv⟩ : ∃ c, c = cosV l := ⟨_, rfl⟩
  obtain ⟨ce, hce⟩ : ∃ c, c = cosE l := ⟨_, rfl⟩
  rw [← hcv, ← hce] at HV ⊢
  clear hcv hce
  have H3 := hid h3
  clear h1 h2 h3
  go_enter Try.func27, Try.ntmps27
  go_wp2
  go_loop [4, 5, 6, 17] (fun n s la i => ∃ j : Nat, i = .int .i64 j ∧ j ≤ l.length ∧ (∀ k, k < j → okAt l k = true) ∧ n = .int .i64 ((l.length + (stA l j).c : Nat) : Int) ∧ s = .bool (stA l j).s ∧ la = .int .i64 (stA l j).last) (fun _ _ _ i => l.length - (intOf i).toNat)
  case atStart => exact ⟨0, rfl, Nat.zero_le _, fun k hk => by omega, rfl, rfl, rfl⟩
  case round =>
    obtain ⟨j, rfl, hj, hok, rfl, rfl, rfl⟩ := hrel
    have HOK := hid hok
    clear hok
    by_cases hlt : j < l.length
    · obtain ⟨gb, off, rfl, hgl, c0⟩ := H3.out j hlt
      have hget := getD_in hlt
      rw [← hget] at c0
      have HC := hid (okAt_cases l j)
      have HX := hid (HP.out (l.getD j 0))
      have hcc := stA_c l j
      obtain ⟨q0, hq0⟩ : ∃ q, q = stA l j := ⟨_, rfl⟩
      have HST0 : Hid (lvl (l.getD j 0) = 0 → stA l (j + 1) = q0) := fun h => by rw [hq0]; exact stA_zero h
      have HST1 : Hid (lvl (l.getD j 0) = 1 → stA l (j + 1) = ⟨true, q0.last, if q0.s then q0.c else q0.c + 1⟩) := fun h => by rw [hq0]; exact stA_one h
      have HST2 : Hid (lvl (l.getD j 0) = 2 → stA l (j + 1) = ⟨q0.s, fst (l.getD j 0), (if q0.last < 0 then q0.c + 1 else q0.c) + (if fst (l.getD j 0) = q0.last then 0 else 1)⟩) := fun h => by rw [hq0]; exact stA_two h
      rw [← hq0] at hcc ⊢
      clear hq0
      obtain ⟨sb, la, c⟩ := q0
      simp only at HST0 HST1 HST2 hcc ⊢
      have HGN : Hid (∀ i, i < j → True) := fun _ _ => trivial
      have hprev : j = 0 ∨ ∃ y, 0 < j ∧ w.cell? ⟨gb, off + (j - 1), none⟩ = some (.int .i64 y) ∧ y = l.getD (j - 1) 0 := by
        by_cases h0 : j = 0
        · exact .inl h0
        · obtain ⟨gb', off', e', hgl', c1⟩ := H3.out (j - 1) (by omega)
          injection e' with e'
          injection e' with e1 e2
          subst e1 e2
          rw [← getD_in (show j - 1 < l.length by omega)] at c1
          exact .inr ⟨_, by omega, c1, rfl⟩
      have HNX : Hid (okAt l j = true → ∀ k, k < j + 1 → okAt l k = true) := fun hko k hk => by
        by_cases e : k = j
        · rw [e]; exact hko
        · exact HOK.out k (by omega)
      have HBD : Hid (okAt l j = false → cv = 0 ∧ ce = 1) := fun hko => HV.out false (goodB_no hlt hko)
      obtain ⟨x, hx⟩ : ∃ x, x = l.getD j 0 := ⟨_, rfl⟩
      rw [← hx] at c0 HX HC HST0 HST1 HST2
      clear hx hget HGN
      rcases HC.out with ⟨q, hko⟩ | ⟨q, hc2⟩
      · have e1 : plE x = 1 := by unfold plE; rw [q]; rfl
        have e2 : pl0 x = 0 := by unfold pl0; rw [q]; rfl
        have e3 : pl1 x = 0 := by unfold pl1; rw [q]; rfl
        have e4 : pl2 x = 0 := by unfold pl2; rw [q]; rfl
        rw [e1, e2, e3, e4] at HX
        have HK := hid (HBD.out hko)
        clear e1 e2 e3 e4 q hko HC HST0 HST1 HST2 hprev hcc
        go_wp2_with (first | (go_at_call 21; refine (HX.out _).mono ?_; rintro e w1 ⟨rfl, rfl⟩))
        go_ret2
        exact ⟨by rw [HK.out.1, HK.out.2]; rfl, rfl⟩
      · obtain ⟨n, rfl, hn⟩ := ix_nat q
        have e1 : plE n = 0 := by unfold plE; rw [q]; rfl
        have e2 : pl0 n = lvl n := by unfold pl0; rw [q]; rfl
        have e3 : pl1 n = fst n := by unfold pl1; rw [q]; rfl
        have e4 : pl2 n = snd n := by unfold pl2; rw [q]; rfl
        rw [e1, e2, e3, e4] at HX
        clear e1 e2 e3 e4 q HC
        have hlv := lvl_le n
        obtain ⟨lv, hlv0⟩ : ∃ f, f = lvl n := ⟨_, rfl⟩
        obtain ⟨f, hf⟩ : ∃ f, f = fst n := ⟨_, rfl⟩
        obtain ⟨g, hg⟩ : ∃ f, f = snd n := ⟨_, rfl⟩
        rw [← hlv0] at HST0 HST1 HST2 hlv
        rw [← hf] at HST2
        rw [← hlv0, ← hf, ← hg] at HX
        clear hlv0 hf hg
        have hall : (∃ y, 0 < j ∧ w.cell? ⟨gb, off + (j - 1), none⟩ = some (.int .i64 y) ∧ (n : Int) ≤ y ∧ okAt l j = false) ∨ ((j = 0 ∨ ∃ y, 0 < j ∧ w.cell? ⟨gb, off + (j - 1), none⟩ = some (.int .i64 y) ∧ y < (n : Int)) ∧ okAt l j = true) := by
          rcases hc2 with ⟨h0, hko⟩ | ⟨h0, hle, hko⟩ | ⟨h0, hle, hko⟩
          · exact .inr ⟨.inl h0, hko⟩
          · rcases hprev with h | ⟨y, h1, h2, h3⟩
            · omega
            · exact .inl ⟨y, h1, h2, by rw [h3]; exact hle, hko⟩
          · rcases hprev with h | ⟨y, h1, h2, h3⟩
            · omega
            · exact .inr ⟨.inr ⟨y, h1, h2, by rw [h3]; exact hle⟩, hko⟩
        clear hc2 hprev
        rcases hall with ⟨y, hj0, c1, hle, hko⟩ | ⟨hcase, hko⟩
        · have HK := hid (HBD.out hko)
          have hj1 : ((j : Int) - 1).toNat = j - 1 := by omega
          clear hko HST0 HST1 HST2 hcc
          go_wp2_with (first | (go_at_call 21; refine (HX.out _).mono ?_; rintro e w1 ⟨rfl, rfl⟩))
          go_ret2
          exact ⟨by rw [HK.out.1, HK.out.2]; rfl, rfl⟩
        · have HN := hid (HNX.out hko)
          clear hko HBD HNX
          rcases hcase with hj0 | ⟨y, hj0, c1, hle⟩
          rotate_left
          have hj1 : ((j : Int) - 1).toNat = j - 1 := by omega
          rotate_left
          have hnj : ¬ (0 < (j : Int)) := by omega
          clear hj0
          all_goals
            rcases (show lv = 0 ∨ lv = 1 ∨ lv = 2 by omega) with rfl | rfl | rfl
            · have HZ := hid (HST0.out rfl)
              clear HST0 HST1 HST2
              go_wp2_with (first | (go_at_call 21; refine (HX.out _).mono ?_; rintro e w1 ⟨rfl, rfl⟩))
              go_round
              case rel => exact ⟨j + 1, by go_num, by omega, HN.out, by rw [HZ.out]; rfl, by rw [HZ.out], by rw [HZ.out]⟩
              case measure => simp [intOf]; omega
            · have HZ := hid (HST1.out rfl)
              clear HST0 HST1 HST2
              cases sb with
              | false =>
                go_wp2_with (first | (go_at_call 21; refine (HX.out _).mono ?_; rintro e w1 ⟨rfl, rfl⟩))
                go_round
                case rel => exact ⟨j + 1, by go_num, by omega, HN.out, by rw [HZ.out]; go_num, by rw [HZ.out], by rw [HZ.out]⟩
                case measure => simp [intOf]; omega
              | true =>
                go_wp2_with (first | (go_at_call 21; refine (HX.out _).mono ?_; rintro e w1 ⟨rfl, rfl⟩))
                go_round
                case rel => exact ⟨j + 1, by go_num, by omega, HN.out, by rw [HZ.out]; rfl, by rw [HZ.out], by rw [HZ.out]⟩
                case measure => simp [intOf]; omega
            · have HZ := hid (HST2.out rfl)
              clear HST0 HST1 HST2
              by_cases hla : la < 0
              · by_cases hfl : f = la
                · rw [if_pos hla, if_pos hfl] at HZ
                  go_wp2_with (first | (go_at_call 21; refine (HX.out _).mono ?_; rintro e w1 ⟨rfl, rfl⟩))
                  go_round
                  case rel => exact ⟨j + 1, by go_num, by omega, HN.out, by rw [HZ.out]; go_num, by rw [HZ.out], by rw [HZ.out]; show _ = Value.int .i64 f; rw [hfl]⟩
                  case measure => simp [intOf]; omega
                · rw [if_pos hla, if_neg hfl] at HZ
                  go_wp2_with (first | (go_at_call 21; refine (HX.out _).mono ?_; rintro e w1 ⟨rfl, rfl⟩))
                  go_round
                  case rel => exact ⟨j + 1, by go_num, by omega, HN.out, by rw [HZ.out]; go_num, by rw [HZ.out], by rw [HZ.out]⟩
                  case measure => simp [intOf]; omega
              · by_cases hfl : f = la
                · rw [if_neg hla, if_pos hfl] at HZ
                  go_wp2_with (first | (go_at_call 21; refine (HX.out _).mono ?_; rintro e w1 ⟨rfl, rfl⟩))
                  go_round
                  case rel => exact ⟨j + 1, by go_num, by omega, HN.out, by rw [HZ.out]; first | rfl | go_num, by rw [HZ.out], by rw [HZ.out]; show _ = Value.int .i64 f; rw [hfl]⟩
                  case measure => simp [intOf]; omega
                · rw [if_neg hla, if_neg hfl] at HZ
                  go_wp2_with (first | (go_at_call 21; refine (HX.out _).mono ?_; rintro e w1 ⟨rfl, rfl⟩))
                  go_round
                  case rel => exact ⟨j + 1, by go_num, by omega, HN.out, by rw [HZ.out]; go_num, by rw [HZ.out], by rw [HZ.out]⟩
                  case measure => simp [intOf]; omega
    · have hje : j = l.length := by omega
      subst hje
      have HK := hid (HV.out true ((goodB_iff l).2 fun i hi => HOK.out i hi))
      go_wp2
      go_ret2
      exact ⟨by rw [HK.out.1, HK.out.2]; rfl, rfl⟩
end Go.Proofs.Ytmabnnimacjplaa
