import Derived.Test.YtmemelamgldpcaaVm
import Derived.Test.YtmemelamgldpcaaVr
namespace Go.Proofs.Ytmemelamgldpcaa
open Go.RowKit

set_option maxRecDepth 100000 in
theorem rcommit_no {v : Value} {l : List Int} {w : World} (h : ILie w v l) (hn : nod (l.length : Int) = false) : Calls Try.prog 16 #[v] w fun e w' => e = .returned (.tuple #[.int .i64 0, .int .i64 1]) ∧ Below w.heap.size w w' := by
  obtain ⟨ao, cap, rfl, _, _, _⟩ := h
  obtain ⟨n, hn'⟩ : ∃ n, n = l.length := ⟨_, rfl⟩
  rw [← hn'] at hn ⊢
  clear hn'
  go_enter Try.func16, Try.ntmps16
  go_wp2_with (first | (go_at_call 13; refine (rnodes_any _ _).mono ?_; rintro e w' ⟨rfl, rfl⟩; rw [hn]))
  go_ret2
  exact ⟨rfl, Below.refl _ _⟩
set_option maxRecDepth 100000 in
set_option maxHeartbeats 2000000 in
theorem rcommit_yes {v : Value} {l : List Int} {w : World} (h : ILie w v l) (hn : nod (l.length : Int) = true) : Calls Try.prog 16 #[v] w fun e w' => e = .returned (.tuple #[.int .i64 (comR l), .int .i64 (comE l)]) ∧ Below w.heap.size w w' := by
  have hl : l.length = 1 ∨ l.length = 3 ∨ l.length = 5 ∨ l.length = 7 := by have := (nod_iff _).1 hn; omega
  obtain ⟨b, off, cap, rfl, hb, hc⟩ := h.some (by omega)
  have HC := hid hc
  obtain ⟨R, hR⟩ : ∃ R, R = comR l := ⟨_, rfl⟩
  obtain ⟨E, hE⟩ : ∃ E, E = comE l := ⟨_, rfl⟩
  rw [← hR, ← hE]
  have HK := hid (comK_iff l)
  obtain ⟨n, hn'⟩ : ∃ n, n = l.length := ⟨_, rfl⟩
  rw [← hn'] at hn hl ⊢
  have hn7 : 1 ≤ n ∧ n ≤ 7 := by omega
  replace hl := hid hl
  replace hn' := hid hn'
  replace hR := hid hR
  replace hE := hid hE
  clear h hc
  go_enter Try.func16, Try.ntmps16
  go_wp2_with (first | (go_at_call 13; refine (rnodes_any _ _).mono ?_; rintro e w' ⟨rfl, he⟩; have he := he.symm; subst he; rw [hn]))
  clear hn
  go_loopw [18] (fun i wr => ∃ k : Nat, k ≤ n ∧ i = .int .i64 k ∧ Hid (∀ x ∈ l.take k, 0 ≤ x ∧ x ≤ 1099511627776) ∧ Hid (wr = w)) (fun i _ => n - (intOf i).toNat)
  case atStart => exact ⟨0, Nat.zero_le _, rfl, hid (fun x hx => by simp at hx), hid rfl⟩
  case round =>
    obtain ⟨k, hk, rfl, HA, HW⟩ := hrel
    by_cases hlt : k < n
    · have hk' : k < l.length := by rw [← hn'.out]; exact hlt
      obtain ⟨x, hx⟩ : ∃ x, x = l[k]'hk' := ⟨_, rfl⟩
      have c0 : wr.cell? ⟨b, off + k, none⟩ = some (.int .i64 x) := by rw [HW.out, hx]; exact HC.out k hk'
      have HX : Hid (x ∈ l) := hid (by rw [hx]; exact List.getElem_mem _)
      have HT : Hid (l.take (k + 1) = l.take k ++ [x]) := hid (by rw [hx]; exact List.take_succ_eq_append_getElem hk')
      clear hx hk'
      by_cases hu : 0 ≤ x ∧ x ≤ 1099511627776
      · have g1 : ¬ x < 0 := by omega
        have g2 : ¬ 1099511627776 < x := by omega
        go_wp2
        go_roundw
        case rel => exact ⟨k + 1, hlt, by simp, hid (fun y hy => by
          rw [HT.out] at hy
          rcases List.mem_append.1 hy with e | e
          · exact HA.out y e
          · rw [List.mem_singleton] at e; rw [e]; exact hu), HW⟩
        case measure => simp [intOf]; omega
      · have hf : comK l = false := by
          cases hcK : comK l with
          | false => rfl
          | true => exact absurd (up_mem (HK.out.1 hcK).2 x HX.out) hu
        have eR : R = 0 := by rw [hR.out]; unfold comR; rw [hf]; rfl
        have eE : E = 1 := by rw [hE.out]; unfold comE; rw [hf]; rfl
        subst eR eE
        have hu' : x < 0 ∨ (¬ x < 0 ∧ 1099511627776 < x) := by omega
        clear hf hu
        rcases hu' with g1 | ⟨g1, g2⟩
        all_goals
          go_wp2
          go_ret2
          exact ⟨rfl, by rw [HW.out]; exact Below.refl _ _⟩
    · have hkn : k = n := by omega
      have hK : comK l = true := HK.out.2 ⟨by rw [← hn'.out]; exact hl.out, by
        rw [List.any_eq_false]
        intro x hx
        have := HA.out x (by rw [hkn, hn'.out, List.take_length]; exact hx)
        simp [(up_iff x _).2 this]⟩
      have eR : Hid (R = rcm l n) := hid (by rw [hR.out, hn'.out, com_ref hK])
      have eE : E = 0 := by rw [hE.out]; unfold comE; rw [hK]; rfl
      subst eE
      replace hkn := hid hkn
      clear hK
      go_wp2
      go_loopw [31, 4] (fun i b wr => ∃ (k : Nat), k ≤ n ∧ i = .int .i64 k ∧ b = .int .i64 (rcm l k) ∧ Hid (wr = w)) (fun i _ _ => n - (intOf i).toNat)
      case atStart => exact ⟨0, Nat.zero_le _, rfl, rfl, HW⟩
      case round =>
        obtain ⟨k2, hk2, rfl, rfl, HW2⟩ := hrel
        by_cases hlt2 : k2 < n
        · have hk' : k2 < l.length := by rw [← hn'.out]; exact hlt2
          obtain ⟨x, hx⟩ : ∃ x, x = l[k2]'hk' := ⟨_, rfl⟩
          rename World => wr2
          have c0 : wr2.cell? ⟨b, off + k2, none⟩ = some (.int .i64 x) := by rw [HW2.out, hx]; exact HC.out k2 hk'
          have HN : Hid (rcm l (k2 + 1) = rcs l (rcm l k2) x) := hid (by rw [hx]; exact rcm_succ l k2 hk')
          obtain ⟨B, hB⟩ : ∃ B, B = rcm l k2 := ⟨_, rfl⟩
          rw [← hB] at HN ⊢
          clear hB hx hk'
          go_wp2
          go_loopw [37, 9] (fun i b wr => ∃ (j c : Nat), j ≤ n ∧ i = .int .i64 j ∧ b = .int .i64 c ∧ c ≤ j ∧ Hid (c = cge (l.take j) x) ∧ Hid (wr = w)) (fun i _ _ => n - (intOf i).toNat)
          case atStart => exact ⟨0, 0, Nat.zero_le _, rfl, rfl, Nat.le_refl _, hid (by simp [cge]), HW2⟩
          case round =>
            obtain ⟨j, c, hj, rfl, rfl, hcj, HD, HW3⟩ := hrel
            rename World => wr3
            by_cases hlt3 : j < n
            · have hj' : j < l.length := by rw [← hn'.out]; exact hlt3
              obtain ⟨y, hy⟩ : ∃ y, y = l[j]'hj' := ⟨_, rfl⟩
              have d0 : wr3.cell? ⟨b, off + j, none⟩ = some (.int .i64 y) := by rw [HW3.out, hy]; exact HC.out j hj'
              have HS : Hid (cge (l.take (j + 1)) x = cge (l.take j) x + if x ≤ y then 1 else 0) := hid (by
                rw [hy, List.take_succ_eq_append_getElem hj']
                unfold cge
                rw [List.countP_append, List.countP_singleton]
                simp)
              clear hy hj' c0
              by_cases hxy : x ≤ y
              · have hde : decide (x ≤ y) = true := decide_eq_true hxy
                go_wp2
                go_roundw
                case rel => exact ⟨j + 1, c + 1, hlt3, by simp, by simp, by omega, hid (by rw [HS.out, if_pos hxy, HD.out]), HW3⟩
                case measure => simp [intOf]; omega
              · have hde : decide (x ≤ y) = false := decide_eq_false hxy
                go_wp2
                go_roundw
                case rel => exact ⟨j + 1, c, hlt3, by simp, rfl, by omega, hid (by rw [HS.out, if_neg hxy, HD.out]; rfl), HW3⟩
                case measure => simp [intOf]; omega
            · have hjn : Hid (j = n) := hid (by omega)
              have HE : Hid (c = cge l x) := hid (by rw [HD.out, hjn.out, hn'.out, List.take_length])
              have HF : Hid (rcs l B x = if n < 2 * c ∧ B < x then x else B) := hid (by unfold rcs; rw [HE.out, hn'.out])
              by_cases g1 : n < 2 * c
              · by_cases g2 : B < x
                · go_wp2
                  go_roundw
                  case rel => exact ⟨k2 + 1, hlt2, by simp, by rw [HN.out, HF.out, if_pos ⟨g1, g2⟩], HW3⟩
                  case measure => simp [intOf]; omega
                · go_wp2
                  go_roundw
                  case rel => exact ⟨k2 + 1, hlt2, by simp, by rw [HN.out, HF.out, if_neg (fun h => g2 h.2)], HW3⟩
                  case measure => simp [intOf]; omega
              · go_wp2
                go_roundw
                case rel => exact ⟨k2 + 1, hlt2, by simp, by rw [HN.out, HF.out, if_neg (fun h => g1 h.1)], HW3⟩
                case measure => simp [intOf]; omega
        · have hkn2 : k2 = n := by omega
          subst hkn2
          go_wp2
          go_ret2
          exact ⟨by rw [eR.out]; rfl, by rw [HW2.out]; exact Below.refl _ _⟩
theorem rcommit_any {v : Value} {l : List Int} {w : World} (h : ILie w v l) : Calls Try.prog 16 #[v] w fun e w' => e = .returned (.tuple #[.int .i64 (comR l), .int .i64 (comE l)]) ∧ Below w.heap.size w w' := by
  rcases hn : nod (l.length : Int) with _ | _
  · have e1 : comK l = false := by unfold comK; rw [hn]; rfl
    have e2 : comR l = 0 := by unfold comR; rw [e1]; rfl
    have e3 : comE l = 1 := by unfold comE; rw [e1]; rfl
    rw [e2, e3]
    exact rcommit_no h hn
  · exact rcommit_yes h hn
end Go.Proofs.Ytmemelamgldpcaa
