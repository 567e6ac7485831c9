import Derived.Test.YtglhibmfbbbdiaaAw
namespace Go.Proofs.Ytglhibmfbbbdiaa
open Go.RowKit Go.Maps

theorem AE.keep {base gd gx : Nat} {k : Bool} {w w' : World} (h : AE base gd gx k w) (hb : Below w.heap.size w w') : AE base gd gx k w' := by
  obtain ⟨F, m, pv, h⟩ := h
  exact ⟨F, m, pv, h.keep hb⟩
theorem ae_waits {base gd gx : Nat} {k : Bool} (w : World) (h : AE base gd gx k w) : Calls Try.prog 18 #[.pointer (some ⟨gd, 0, none⟩)] w fun e w' => e = .returned (.int .i64 0) ∧ w' = w := by
  obtain ⟨F, m, pv, h⟩ := h
  exact ap_waits w h
set_option maxRecDepth 100000 in
set_option maxHeartbeats 8000000 in
theorem all_walk (keep : Bool) (ao : Option Addr) (len cap : Nat) (it : Nat → Stp) (W : World) (hS : SLie W ao len it) (_hlc : len ≤ cap) (_hcm : cap ≤ maxLen) :
    Calls Try.prog 7 #[.slice ao len cap, .bool keep] W fun e w' => e = .returned (.bool true) ∧ Below W.heap.size W w' := by
  unfold maxLen at _hcm
  have HS := hid hS
  clear hS
  go_enter Try.func7, Try.ntmps7
  by_cases hl3 : 200 < len
  · go_wp2_with (first
      | (go_at_call 8; refine (an2 keep _ hD hB.size).mono ?_; rintro e w2 ⟨gx, rfl, hP, hb2⟩; have hB := hB.next hb2)
      | (go_at_call 8; refine (an1 _).mono ?_; rintro e w1 ⟨gd, rfl, hD, hB⟩)
      | (go_at_call 10; refine (speaks_any _).mono ?_; rintro e w7 ⟨rfl, hb7⟩))
    go_ret
    exact ⟨rfl, hB.next hb7⟩
  · go_wp2_with (first
      | (go_at_call 8; refine (an2 keep _ hD hB.size).mono ?_; rintro e w2 ⟨gx, rfl, hP, hb2⟩; have hB := hB.next hb2)
      | (go_at_call 8; refine (an1 _).mono ?_; rintro e w1 ⟨gd, rfl, hD, hB⟩))
    have hAL : AL W.heap.size gd gx keep w2 0 (.slice none 0 0) := ⟨[], by cases keep <;> exact hP, Nat.le_refl _⟩
    go_loopw [9, 65] (fun v i wr => ∃ j : Nat, i = .int .i64 j ∧ j ≤ len ∧ AL W.heap.size gd gx keep wr j v ∧ Below W.heap.size W wr) (fun _ i _ => len - (intOf i).toNat)
    case atStart => exact ⟨0, rfl, Nat.zero_le _, hAL, hB⟩
    case round =>
      obtain ⟨j, rfl, hj, hL2, hB2⟩ := hrel
      have HL := hid hL2
      have HB := hid hB2
      clear hL2 hB2 hAL hB hP
      by_cases hlt : j < len
      · obtain ⟨b, off, rfl, hbW, s0, s1, s2, s3, s4, s5, s6, hPR, bA, bM, bO, bT⟩ := HS.out j hlt
        obtain ⟨y, hy⟩ : ∃ y, y = it j := ⟨_, rfl⟩
        rw [← hy] at s0 s1 s2 s3 s4 s5 s6 hPR bA bM bO bT
        obtain ⟨K, A, M, O, T, x, pv, pl, pk⟩ := y
        simp only at s0 s1 s2 s3 s4 s5 s6 hPR bA bM bO bT
        have t0 := (HB.out.cell (p := ⟨b, off + j * 7, none⟩) hbW).trans s0
        have t1 := (HB.out.cell (p := ⟨b, off + j * 7 + 1, none⟩) hbW).trans s1
        have t2 := (HB.out.cell (p := ⟨b, off + j * 7 + 2, none⟩) hbW).trans s2
        have t3 := (HB.out.cell (p := ⟨b, off + j * 7 + 3, none⟩) hbW).trans s3
        have t4 := (HB.out.cell (p := ⟨b, off + j * 7 + 4, none⟩) hbW).trans s4
        have t5 := (HB.out.cell (p := ⟨b, off + j * 7 + 5, none⟩) hbW).trans s5
        have t6 := (HB.out.cell (p := ⟨b, off + j * 7 + 6, none⟩) hbW).trans s6
        have hbr : b < wr.heap.size := Nat.lt_of_lt_of_le hbW HB.out.size
        clear s0 s1 s2 s3 s4 s5 s6 hy
        obtain ⟨pao, pc, hpv⟩ : ∃ pao pc, pv = .slice pao pl pc := by obtain ⟨⟨pao, pc, e, _⟩, _⟩ := hPR; exact ⟨pao, pc, e⟩
        subst hpv
        clear hPR
        have hds := data_small M O x
        have HDA := hid (fun w => data_any K A M O T x (.slice pao pl pc) bO w)
        obtain ⟨d, hd⟩ : ∃ d, d = dataS M O x := ⟨_, rfl⟩
        rw [← hd] at HDA hds
        clear hd
        go_upto_region 9 with fail
        clear t0 t1 t2 t3 t4 t5 t6 hbr
        by_cases hok : okW A d
        · have HOK := hid hok
          clear hok
          go_cut [75] (fun s75 wx => s75 = .bool true ∧ AM W.heap.size gd gx keep wx j u9 A d 0 ∧ Below W.heap.size W wx ∧ wx.heap[wr.heap.size]? = some (.cells #[.int .i64 K, .int .i64 A, .int .i64 M, .int .i64 O, .int .i64 T, .int .u8 (x.toNat : Int), .slice pao pl pc] 33 (0, 0)))
          case first =>
            go_region_with (first
              | (go_at_call 12; refine (HDA.out _).mono ?_; rintro e w5 ⟨rfl, hb5⟩; have hb6 := bel_ad hb5; have hv5 := hid (var_ad hb5); obtain ⟨q0, q1, q2, q3, q4, q5, q6⟩ := seven_cells hv5.out; clear hb5)
              | (go_at_call 11; refine (al_ok A d HOK.out hds (by omega) wr _ HL.out hb6 (Nat.le_trans HB.out.size hb6.size)).mono ?_; rintro e w6 ⟨rfl, hM6, hb7, hk7⟩))
            all_goals
              have hv6 := (hk7 wr.heap.size (Nat.le_refl _) (lt_of_block hv5.out)).trans hv5.out
              have HF := hid (And.intro hM6 (And.intro ((HB.out.trans (hb6.mono HB.out.size)).trans hb7) hv6))
              clear hM6 hb7 hk7 hb6 hv5 hv6
              go_wp2
              go_meet
              exact ⟨rfl, HF.out⟩
          case rest =>
            obtain ⟨rfl, hM, hBx, hvx⟩ := hcut
            rename World => w6
            have hszB := hBx.size
            have HBX := hid hBx
            have HVX := hid hvx
            have hrl := HL.out.row_lt
            have HRL := hid hrl
            clear hBx hrl
            obtain ⟨q0, q1, q2, q3, q4, q5, q6⟩ := seven_cells hvx
            clear hvx
            cases keep with
            | false =>
              go_wp2_with (first
                | (at_builtin; refine push_am rfl (.tmp 76) (.tmp 78) rfl W.heap.size gd gx false j u9 A d rfl rfl hM (by omega) hszB ?_; intro v7 w7 hM7 hb7 hk7))
              go_roundw
              case rel => exact ⟨j + 1, by go_num, by omega, am_f hM7, HBX.out.trans hb7⟩
              case measure => simp [intOf]; omega
            | true =>
              go_wp2_with (first
                | (at_builtin; refine push_am rfl (.tmp 76) (.tmp 78) rfl W.heap.size gd gx true j u9 A d rfl rfl hM (by omega) hszB ?_; intro v7 w7 hM7 hb7 hk7))
              have hv7 := (hk7 wr.heap.size (lt_of_block HVX.out) (fun e => by have := HRL.out _ e; omega)).trans HVX.out
              have HM7 := hid hM7
              have HB7 := hid (HBX.out.trans hb7)
              have HV7 := hid hv7
              clear q0 q1 q2 q3 q4 q5 q6 hM hk7 hb7 hM7
              obtain ⟨q0, q1, q2, q3, q4, q5, q6⟩ := seven_cells hv7
              clear hv7
              go_region_with (first
                | (go_at_call 12; refine (HDA.out _).mono ?_; rintro e w8 ⟨rfl, hb8⟩; have hb9 := undrew hb8; have hv8 := (hb9.block wr.heap.size (lt_of_block HV7.out)).trans HV7.out; obtain ⟨x0, x1, x2, x3, x4, x5, x6⟩ := seven_cells hv8; clear hb8 hv8)
                | (go_at_call 11; refine (am_x A d HOK.out hds (by omega) _ (HM7.out.keep hb9) (Nat.le_trans HB7.out.size hb9.size)).mono ?_; rintro e w10 ⟨rfl, hL10, hb10⟩))
              all_goals
                have H11 := hid (And.intro hL10 ((HB7.out.trans (hb9.mono HB7.out.size)).trans hb10))
                clear hL10 hb10 hb9
                go_wp2
                go_roundw
                case rel => exact ⟨j + 1, by go_num, by omega, H11.out.1, H11.out.2⟩
                case measure => simp [intOf]; omega
        · have HOK := hid hok
          have hew := errW_ne d
          clear hok
          go_cut [75] (fun s75 wx => s75 = .bool false ∧ AL W.heap.size gd gx keep wx j u9 ∧ Below W.heap.size W wx)
          case first =>
            go_region_with (first
              | (go_at_call 12; refine (HDA.out _).mono ?_; rintro e w5 ⟨rfl, hb5⟩; have hb6 := bel_ad hb5; have hv5 := hid (var_ad hb5); obtain ⟨q0, q1, q2, q3, q4, q5, q6⟩ := seven_cells hv5.out; clear hb5)
              | (go_at_call 11; refine (al_bad A d bA HOK.out hds _ (HL.out.keep hb6)).mono ?_; rintro e w6 ⟨rfl, hL6, hb7⟩))
            all_goals
              have HF := hid (And.intro hL6 ((HB.out.trans (hb6.mono HB.out.size)).next hb7))
              clear hL6 hb7 hb6 hv5
              go_wp2
              go_meet
              exact ⟨rfl, HF.out⟩
          case rest =>
            obtain ⟨rfl, hL11, hB11⟩ := hcut
            have H11 := hid (And.intro hL11 hB11)
            clear hL11 hB11
            go_wp2
            go_roundw
            case rel => exact ⟨j + 1, by go_num, by omega, H11.out.1.mono (by omega), H11.out.2⟩
            case measure => simp [intOf]; omega
      · have hL := HL.out
        have hB := HB.out
        go_wp2_with (first
          | (go_at_call 14; refine (al_flush (by omega) _ hL hB.size).mono ?_; rintro e w3 ⟨rfl, hF, hb3⟩; have hB := hB.trans hb3)
          | (go_at_call 16; refine (af_crash _ hF hB.size).mono ?_; rintro e w4 ⟨rfl, hE, hb4⟩; have hB := hB.trans hb4)
          | (go_at_call 18; refine (ae_waits _ hE).mono ?_; rintro e w5 ⟨rfl, rfl⟩))
        go_loopw [12] (fun i wq => ∃ n : Nat, i = .int .i64 n ∧ n ≤ 6 ∧ AE W.heap.size gd gx keep wq ∧ Below W.heap.size W wq) (fun i _ => 6 - (intOf i).toNat)
        case atStart => exact ⟨0, rfl, by decide, hE, hB⟩
        case round =>
          obtain ⟨n, rfl, hn6, hE2, hB2⟩ := hrel
          have HE := hid hE2
          have HB3 := hid hB2
          clear hE2 hB2 hE hB hL hF
          by_cases hn : n < 6
          · obtain ⟨F, m, pw, hP⟩ := HE.out
            have HR1 := hid (fun w h => ap_readd (base := W.heap.size) (gd := gd) (gx := gx) (m := m) (k := keep) (F := F) (Sx := ⟨6, F, []⟩) (pv := pw) n hn w h)
            have HR2 := hid (fun w h => ap_readx (base := W.heap.size) (gd := gd) (gx := gx) (m := m) (k := keep) (F := F) (Sd := ⟨6, F, []⟩) (pv := pw) n hn w h)
            have HR3 := hid (fun w h => ap_lastd (base := W.heap.size) (gd := gd) (gx := gx) (m := m) (k := keep) (F := F) (Sx := ⟨6, F, []⟩) (pv := pw) n hn w h)
            obtain ⟨z, hz⟩ : ∃ z, z = (F n).getD Z := ⟨_, rfl⟩
            rw [← hz] at HR1 HR2 HR3
            clear hz
            have hB := HB3.out
            go_wp2_with (first
              | (go_at_call 22; refine (HR1.out _ hP).mono ?_; rintro e wa ⟨rfl, hP, hq⟩; have hB := hB.next hq; clear HR1)
              | (go_at_call 22; refine (HR2.out _ hP).mono ?_; rintro e wb ⟨rfl, hP, hq⟩; have hB := hB.next hq)
              | (go_at_call 23; refine (HR3.out _ hP).mono ?_; rintro e wc ⟨rfl, hP, hq⟩; have hB := hB.next hq))
            have H12 := hid (And.intro (show AE W.heap.size gd gx keep _ from ⟨F, m, pw, hP⟩) hB)
            go_roundw
            case rel => exact ⟨n + 1, by go_num, by omega, H12.out.1, H12.out.2⟩
            case measure => simp [intOf]; omega
          · go_wp2_with (first
              | (go_at_call 10; refine (speaks_any _).mono ?_; rintro e w7 ⟨rfl, hb7⟩))
            go_ret
            exact ⟨rfl, HB3.out.next hb7⟩
end Go.Proofs.Ytglhibmfbbbdiaa
