import Derived.Test.YtokjlgebkihimaaGreatXu
namespace Go.Proofs.YtokjlgebkihimaaGreat
open Go.RowKit Go.Maps Go.Shelf

set_option maxRecDepth 100000 in
set_option maxHeartbeats 4000000 in
theorem free_walk (v : Value) (l : List Stp) (w : World) (hT : TLie w v l) : Calls Tryz.prog 5 #[v] w fun e w' => e = .returned (.bool true) ∧ Below w.heap.size w w' := by
  obtain ⟨ao, cap, rfl, h1, h2, h3⟩ := hT
  have HC := hid h3
  unfold maxLen at h2
  obtain ⟨n, hn⟩ : ∃ n, n = l.length := ⟨_, rfl⟩
  rw [← hn] at h1 ⊢
  have HN := hid hn
  clear h3 hn
  have q26 : ∀ (w : World) (g : Nat), (binOp .eql 26 (.pointer (some ⟨g, 0, none⟩)) (.pointer none)).run Tryz.prog w = .ok (.bool false) w := fun w g => by kernel_rfl
  have q26n : ∀ (w : World) (g : Nat), (binOp .neq 26 (.pointer (some ⟨g, 0, none⟩)) (.pointer none)).run Tryz.prog w = .ok (.bool true) w := fun w g => by kernel_rfl
  go_enter Tryz.func5, Tryz.ntmps5
  go_wp2_with (go_at_call 25; fail)
  refine (start_any _).mono ?_
  rintro e w1 ⟨p, rfl, hd1⟩
  have HD := hid hd1
  clear hd1
  by_cases hbig : 200 < n
  · have hb : decide (200 < (n : Int)) = true := decide_eq_true (by omega)
    go_wp2_with (go_at_call 9; refine (speaks_any _).mono ?_; rintro e w2 ⟨rfl, b2⟩; have HD2 := hid (HD.out.next b2); clear b2)
    go_ret
    exact ⟨rfl, HD2.out.sv.bel⟩
  · have hb : decide (200 < (n : Int)) = false := decide_eq_false (by omega)
    go_wp2
    go_loopw [4, 25] (fun mv ix wr => ∃ (j : Nat) (B : List ByteArray) (S : List (List UInt8)), mv = .int .i64 (S.length : Int) ∧ ix = .int .i64 (j : Int) ∧ j ≤ n ∧ S.length ≤ j ∧ Hid (DV w p B S wr)) (fun _ ix _ => n - (intOf ix).toNat)
    case atStart => exact ⟨0, B0, [], rfl, rfl, Nat.zero_le _, Nat.le_refl _, HD⟩
    case round =>
      obtain ⟨j, B, S, rfl, rfl, hj, hSj, HV⟩ := hrel
      rename World => wr
      clear HD
      by_cases hlt : j < n
      · have hj' : j < l.length := by rw [← HN.out]; exact hlt
        obtain ⟨gb, off, ea, hgb, hat, hsz⟩ := HC.out j hj'
        subst ea
        obtain ⟨⟨sk, sd, st', sn⟩, hs⟩ : ∃ s, s = l[j]'hj' := ⟨_, rfl⟩
        rw [← hs] at hat hsz
        clear hs
        obtain ⟨c0, c1, c2, c3⟩ := hat.same (HV.out.sv.bel.block gb hgb)
        simp only at c0 c1 c2 c3
        have hgr : gb < wr.heap.size := Nat.lt_of_lt_of_le hgb HV.out.sv.bel.size
        clear hat hsz
        go_upto_region 8 with fail
        obtain ⟨wa, hwa⟩ : ∃ wa, wa = wr.alloc (.cells #[.int .i64 sk, .int .i64 sd, .int .i64 st', .string sn] 40) := ⟨_, rfl⟩
        have hB4 : SB4 wr.heap.size wa ⟨sk, sd, st', sn⟩ := by rw [hwa]; exact box_at _ _
        have HVa := hid (HV.out.next (by rw [hwa]; exact below_alloc wr (.cells #[.int .i64 sk, .int .i64 sd, .int .i64 st', .string sn] 40)) : DV w p B S wa)
        rw [← hwa]
        obtain ⟨d0, d1, d2, d3⟩ := hB4.cells
        simp only at d0 d1 d2 d3
        have hrl := lt_of_block hB4
        obtain ⟨rb, hrb⟩ : ∃ rb, rb = wr.heap.size := ⟨_, rfl⟩
        rw [← hrb] at d0 d1 d2 d3 hrl ⊢
        clear hwa hB4 hrb c0 c1 c2 c3 hgb hgr HV
        by_cases hk : sk < 2
        · have hkd : decide (sk < 2) = true := decide_eq_true hk
          obtain ⟨r, B', S', hP, hC⟩ := put_dv sn st' HVa.out (by omega)
          have HG : Hid (S'.length = max S.length (usedN S') ∧ S'.length ≤ S.length + 1) := hid hP.grow
          have HP := hid hC
          clear hC hP
          have HSL : Hid (S'.length ≤ j + 1) := hid (by have := HG.out.2; omega)
          have HCN := hid (fun (W : World) (h : DV w p B' S' W) => count_dv h)
          obtain ⟨u, hu⟩ : ∃ u, u = usedN S' := ⟨_, rfl⟩
          obtain ⟨a, ha⟩ : ∃ a, a = S'.length := ⟨_, rfl⟩
          obtain ⟨m0, hm0⟩ : ∃ m0, m0 = S.length := ⟨_, rfl⟩
          rw [← hu, ← ha, ← hm0] at HG
          rw [← hu, ← ha] at HCN
          rw [← hm0] at hSj ⊢
          rw [← ha] at HSL
          have HA := hid ha
          clear hu ha hm0
          by_cases hum : m0 < u
          · have e1 : decide ((m0 : Int) < (u : Int)) = true := decide_eq_true (by omega)
            have e2 : ((a : Int) != (u : Int)) = false := by have := HG.out.1; simp; omega
            go_wp2_with (first
              | (go_at_call 11; refine (HP.out).mono ?_; rintro e w3 ⟨rfl, hv3⟩; have HV3 := hid hv3; clear hv3)
              | (go_at_call 19; refine (HCN.out _ (by exact HV3.out)).mono ?_; rintro e w4 ⟨rfl, hv4⟩; have HV4 := hid hv4; clear hv4))
            go_roundw
            case rel => exact ⟨j + 1, B', S', by rw [← HA.out]; have := HG.out.1; first | rfl | (congr 1; omega), by go_num, by omega, by rw [← HA.out]; exact HSL.out, HV4⟩
            case measure => simp [intOf]; omega
          · have e1 : decide ((m0 : Int) < (u : Int)) = false := decide_eq_false (by omega)
            have e2 : ((a : Int) != (m0 : Int)) = false := by have := HG.out.1; simp; omega
            go_wp2_with (first
              | (go_at_call 11; refine (HP.out).mono ?_; rintro e w3 ⟨rfl, hv3⟩; have HV3 := hid hv3; clear hv3)
              | (go_at_call 19; refine (HCN.out _ (by exact HV3.out)).mono ?_; rintro e w4 ⟨rfl, hv4⟩; have HV4 := hid hv4; clear hv4))
            go_roundw
            case rel => exact ⟨j + 1, B', S', by rw [← HA.out]; have := HG.out.1; first | rfl | (congr 1; omega), by go_num, by omega, by rw [← HA.out]; exact HSL.out, HV4⟩
            case measure => simp [intOf]; omega
        · have hkd : decide (sk < 2) = false := decide_eq_false hk
          obtain ⟨B', S', hP, hC⟩ := take_dv sn HVa.out (by omega)
          have HG : Hid (S'.length = max S.length (usedN S') ∧ S'.length ≤ S.length + 1) := hid ⟨hP.grow.1, by have := hP.grow.2; omega⟩
          have HP := hid hC
          clear hC hP
          have HSL : Hid (S'.length ≤ j + 1) := hid (by have := HG.out.2; omega)
          have HCN := hid (fun (W : World) (h : DV w p B' S' W) => count_dv h)
          obtain ⟨u, hu⟩ : ∃ u, u = usedN S' := ⟨_, rfl⟩
          obtain ⟨a, ha⟩ : ∃ a, a = S'.length := ⟨_, rfl⟩
          obtain ⟨m0, hm0⟩ : ∃ m0, m0 = S.length := ⟨_, rfl⟩
          rw [← hu, ← ha, ← hm0] at HG
          rw [← hu, ← ha] at HCN
          rw [← hm0] at hSj ⊢
          rw [← ha] at HSL
          have HA := hid ha
          clear hu ha hm0
          by_cases hum : m0 < u
          · have e1 : decide ((m0 : Int) < (u : Int)) = true := decide_eq_true (by omega)
            have e2 : ((a : Int) != (u : Int)) = false := by have := HG.out.1; simp; omega
            go_wp2_with (first
              | (go_at_call 13; refine (HP.out).mono ?_; rintro e w3 ⟨rfl, hv3⟩; have HV3 := hid hv3; clear hv3)
              | (go_at_call 19; refine (HCN.out _ (by exact HV3.out)).mono ?_; rintro e w4 ⟨rfl, hv4⟩; have HV4 := hid hv4; clear hv4))
            go_roundw
            case rel => exact ⟨j + 1, B', S', by rw [← HA.out]; have := HG.out.1; first | rfl | (congr 1; omega), by go_num, by omega, by rw [← HA.out]; exact HSL.out, HV4⟩
            case measure => simp [intOf]; omega
          · have e1 : decide ((m0 : Int) < (u : Int)) = false := decide_eq_false (by omega)
            have e2 : ((a : Int) != (m0 : Int)) = false := by have := HG.out.1; simp; omega
            go_wp2_with (first
              | (go_at_call 13; refine (HP.out).mono ?_; rintro e w3 ⟨rfl, hv3⟩; have HV3 := hid hv3; clear hv3)
              | (go_at_call 19; refine (HCN.out _ (by exact HV3.out)).mono ?_; rintro e w4 ⟨rfl, hv4⟩; have HV4 := hid hv4; clear hv4))
            go_roundw
            case rel => exact ⟨j + 1, B', S', by rw [← HA.out]; have := HG.out.1; first | rfl | (congr 1; omega), by go_num, by omega, by rw [← HA.out]; exact HSL.out, HV4⟩
            case measure => simp [intOf]; omega
      · have hje : decide ((j : Int) < (n : Int)) = false := decide_eq_false (by omega)
        go_wp2_with (go_at_call 9; refine (speaks_any _).mono ?_; rintro e w2 ⟨rfl, b2⟩; have HD2 := hid (HV.out.next b2); clear b2)
        go_ret
        exact ⟨rfl, HD2.out.sv.bel⟩
end Go.Proofs.YtokjlgebkihimaaGreat
