import Derived.Test.YtglhibmfbbbdiaaSo
namespace Go.Proofs.Ytglhibmfbbbdiaa
open Go.RowKit Go.Maps

theorem var_a {w w5 : World} {o : Obj} (h : Below (w.alloc o).heap.size (w.alloc o) w5) : w5.heap[w.heap.size]? = some o :=
  (h.block w.heap.size (by show _ < (w.heap.push o).size; simp)).trans (by show (w.heap.push o)[w.heap.size]? = _; simp)
/-- is a block of a step's? -/
def MT (n : Nat) (z : ByteArray) (s : Stp) : Prop := s.A.toNat ≤ n ∧ n < s.A.toNat + cnt s.d ∧ piece s.d (n - s.A.toNat) = z
theorem SE.keep {base g : Nat} {w w' : World} {F : Nat → Option ByteArray} {D : List Stp} {v : Value} (h : SE base g w F D v) (hb : Below w.heap.size w w') : SE base g w' F D v := SM.keep h hb
theorem str_same (a b : ByteArray) : (a.toList == b.toList) = decide (a = b) := by
  by_cases h : a = b
  · subst h; simp
  · rw [str_ne h, decide_eq_false h]
theorem src_of (pk : Nat → Bool) (t : Nat) (D : List Stp) (n : Nat) : (crashFrom pk 0 t (fun _ => none) (D.map Stp.q) n).getD Z = Z ∨ ∃ (i : Nat) (h : i < D.length), MT n ((crashFrom pk 0 t (fun _ => none) (D.map Stp.q) n).getD Z) D[i] := by
  rcases crash_src pk n (D.map Stp.q) 0 t (fun _ => none) with h | ⟨q, h1, h2, h3, h4⟩
  · rw [h]; exact .inl rfl
  · obtain ⟨s, hs, rfl⟩ := List.mem_map.1 h1
    obtain ⟨i, hi, e⟩ := List.getElem_of_mem hs
    right
    refine ⟨i, hi, ?_⟩
    rw [e, h4]
    exact ⟨h2, h3, rfl⟩
set_option maxRecDepth 100000 in
set_option maxHeartbeats 8000000 in
theorem some_walk (ao : Option Addr) (len cap : Nat) (it : Nat → Stp) (pv : Value) (plen : Nat) (ppk : Nat → Bool) (t0 : Int) (W : World) (hS : SLie W ao len it) (_hlc : len ≤ cap) (_hcm : cap ≤ maxLen) (hPP : PR W pv plen ppk) :
    Calls Try.prog 5 #[.slice ao len cap, pv, .int .i64 t0] W fun e w' => e = .returned (.bool true) ∧ Below W.heap.size W w' := by
  unfold maxLen at _hcm
  have HS := hid hS
  have HPP := hid hPP
  clear hS hPP
  go_enter Try.func5, Try.ntmps5
  by_cases hl3 : 300 < len
  · go_wp2_with (first
      | (go_at_call 8; refine (an1 _).mono ?_; rintro e w1 ⟨g, rfl, hD, hB⟩)
      | (go_at_call 10; refine (speaks_any _).mono ?_; rintro e w7 ⟨rfl, hb7⟩))
    go_ret
    exact ⟨rfl, hB.next hb7⟩
  by_cases ht1 : t0 < 0
  · go_wp2_with (first
      | (go_at_call 8; refine (an1 _).mono ?_; rintro e w1 ⟨g, rfl, hD, hB⟩)
      | (go_at_call 10; refine (speaks_any _).mono ?_; rintro e w7 ⟨rfl, hb7⟩))
    go_ret
    exact ⟨rfl, hB.next hb7⟩
  by_cases ht2 : 1024 < t0
  · go_wp2_with (first
      | (go_at_call 8; refine (an1 _).mono ?_; rintro e w1 ⟨g, rfl, hD, hB⟩)
      | (go_at_call 10; refine (speaks_any _).mono ?_; rintro e w7 ⟨rfl, hb7⟩))
    go_ret
    exact ⟨rfl, hB.next hb7⟩
  obtain ⟨t, rfl⟩ := Int.eq_ofNat_of_zero_le (show 0 ≤ t0 by omega)
  have ht : t ≤ 1024 := by omega
  go_wp2_with (first
    | (go_at_call 8; refine (an1 _).mono ?_; rintro e w1 ⟨g, rfl, hD, hB⟩))
  have hSL : SL W.heap.size g w1 0 (.slice none 0 0) := by
    obtain ⟨Nn, fp, _, h⟩ := hD
    exact ⟨[], ⟨fp, h.shrink', World.ownsRow_nil _ _ _ _, fun b e => by cases e⟩, Nat.le_refl _, fun s hs => by cases hs⟩
  go_loopw [9, 56] (fun v i wr => ∃ j : Nat, i = .int .i64 j ∧ j ≤ len ∧ SL W.heap.size g wr j v ∧ Below W.heap.size W wr) (fun _ i _ => len - (intOf i).toNat)
  case atStart => exact ⟨0, rfl, Nat.zero_le _, hSL, hB⟩
  case round =>
    obtain ⟨j, rfl, hj, hL2, hB2⟩ := hrel
    have HL := hid hL2
    have HB := hid hB2
    clear hL2 hB2 hSL hB hD
    by_cases hlt : j < len
    · obtain ⟨b, off, rfl, hbW, s0, s1, s2, s3, s4, s5, s6, hPR, bA, bM, bO, bT⟩ := HS.out j hlt
      obtain ⟨y, hy⟩ : ∃ y, y = it j := ⟨_, rfl⟩
      rw [← hy] at s0 s1 s2 s3 s4 s5 s6 hPR bA bM bO bT
      obtain ⟨pao, pc, hpv⟩ : ∃ pao pc, y.pv = .slice pao y.pl pc := by obtain ⟨⟨pao, pc, e, _⟩, _⟩ := hPR; exact ⟨pao, pc, e⟩
      rw [hpv] at s6
      have t0 := (HB.out.cell (p := ⟨b, off + j * 7, none⟩) hbW).trans s0
      have t1 := (HB.out.cell (p := ⟨b, off + j * 7 + 1, none⟩) hbW).trans s1
      have t2 := (HB.out.cell (p := ⟨b, off + j * 7 + 2, none⟩) hbW).trans s2
      have t3 := (HB.out.cell (p := ⟨b, off + j * 7 + 3, none⟩) hbW).trans s3
      have t4 := (HB.out.cell (p := ⟨b, off + j * 7 + 4, none⟩) hbW).trans s4
      have t5 := (HB.out.cell (p := ⟨b, off + j * 7 + 5, none⟩) hbW).trans s5
      have t6 := (HB.out.cell (p := ⟨b, off + j * 7 + 6, none⟩) hbW).trans s6
      have hbr : b < wr.heap.size := Nat.lt_of_lt_of_le hbW HB.out.size
      have HPV := hid hpv
      clear s0 s1 s2 s3 s4 s5 s6 hy hPR hpv
      have hds : y.d.size ≤ 1280 := data_small _ _ _
      have HDA := hid (fun w => show Calls Try.prog 12 #[.agg #[.int .i64 y.K, .int .i64 y.A, .int .i64 y.M, .int .i64 y.O, .int .i64 y.T, .int .u8 (y.c.toNat : Int), .slice pao y.pl pc]] w (fun e w' => e = .returned (.string y.d) ∧ Below w.heap.size w w') from data_any y.K y.A y.M y.O y.T y.c (.slice pao y.pl pc) bO w)
      go_upto_region 8 with fail
      clear t0 t1 t2 t3 t4 t5 t6 hbr
      by_cases hok : okW y.A y.d
      · have HOK := hid hok
        clear hok
        go_cut [66] (fun s66 wx => s66 = .bool true ∧ SN W.heap.size g wx j u9 y ∧ Below W.heap.size W wx ∧ wx.heap[wr.heap.size]? = some (.cells #[.int .i64 y.K, .int .i64 y.A, .int .i64 y.M, .int .i64 y.O, .int .i64 y.T, .int .u8 (y.c.toNat : Int), .slice pao y.pl pc] 33 (0, 0)))
        case first =>
          go_region_with (first
            | (go_at_call 12; refine (HDA.out _).mono ?_; rintro e w5 ⟨rfl, hb5⟩; have hb6 := bel_ad hb5; have hv5 := hid (var_ad hb5); obtain ⟨q0, q1, q2, q3, q4, q5, q6⟩ := seven_cells hv5.out; clear hb5)
            | (go_at_call 11; refine (sl_ok y HOK.out hds (by omega) wr _ HL.out hb6 (Nat.le_trans HB.out.size hb6.size)).mono ?_; rintro e w6 ⟨rfl, hM6, hb7, hk7⟩))
          all_goals
            have hv6 := (hk7 wr.heap.size (Nat.le_refl _) (lt_of_block hv5.out)).trans hv5.out
            have HF := hid (And.intro hM6 (And.intro ((HB.out.trans (hb6.mono HB.out.size)).trans hb7) hv6))
            clear hM6 hb7 hk7 hb6 hv5 hv6
            go_wp2
            go_meet
            exact ⟨rfl, HF.out⟩
        case rest =>
          obtain ⟨rfl, hM, hBx, hvx⟩ := hcut
          have hszB := hBx.size
          have HBX := hid hBx
          obtain ⟨q0, q1, q2, q3, q4, q5, q6⟩ := seven_cells hvx
          clear hvx hBx
          go_wp2_with (first
            | (at_builtin; refine push_step rfl (.tmp 67) (.tmp 69) rfl W.heap.size g j u9 y pao pc HPV.out ⟨HOK.out, ⟨pao, pc, HPV.out⟩, bO⟩ rfl rfl hM (by omega) hszB ?_; intro v7 w7 hM7 hb7))
          go_roundw
          case rel => exact ⟨j + 1, by go_num, by omega, hM7, HBX.out.trans hb7⟩
          case measure => simp [intOf]; omega
      · have HOK := hid hok
        have hew := errW_ne y.d
        clear hok
        go_cut [66] (fun s66 wx => s66 = .bool false ∧ SL W.heap.size g wx j u9 ∧ Below W.heap.size W wx)
        case first =>
          go_region_with (first
            | (go_at_call 12; refine (HDA.out _).mono ?_; rintro e w5 ⟨rfl, hb5⟩; have hb6 := bel_ad hb5; have hv5 := hid (var_ad hb5); obtain ⟨q0, q1, q2, q3, q4, q5, q6⟩ := seven_cells hv5.out; clear hb5)
            | (go_at_call 11; refine (sl_bad y.A y.d bA HOK.out hds _ (HL.out.keep hb6)).mono ?_; rintro e w6 ⟨rfl, hL6, hb7⟩))
          all_goals
            have HF := hid (And.intro hL6 ((HB.out.trans (hb6.mono HB.out.size)).next hb7))
            clear hL6 hb7 hb6 hv5
            go_wp2
            go_meet
            exact ⟨rfl, HF.out⟩
        case rest =>
          obtain ⟨rfl, hL11, hB11⟩ := hcut
          have H11 := hid (And.intro hL11 hB11)
          clear hL11 hB11
          go_wp2
          go_roundw
          case rel => exact ⟨j + 1, by go_num, by omega, H11.out.1.mono (by omega), H11.out.2⟩
          case measure => simp [intOf]; omega
    · obtain ⟨D, hSM, hDl, hDg⟩ := HL.out
      obtain ⟨dao, dcap, hu9⟩ : ∃ dao dcap, u9 = .slice dao D.length dcap := by
        obtain ⟨fp, _, ⟨_, ⟨e1, e2⟩ | ⟨b, cap, cur, e1, _⟩⟩, _⟩ := hSM
        · exact ⟨none, 0, by rw [e1, e2]⟩
        · exact ⟨_, cap, e1⟩
      subst hu9
      have hB := HB.out
      have hsrc := src_of ppk t D
      have HCR := hid (fun (w : World) hW h hb => sl_crash (base := W.heap.size) (g := g) (D := D) (v := .slice dao D.length dcap) pv plen ppk t ht (by omega) W w HPP.out hW (Nat.le_refl _) h hb)
      obtain ⟨F, hF⟩ : ∃ F, F = crashFrom ppk 0 t (fun _ => none) (D.map Stp.q) := ⟨_, rfl⟩
      rw [← hF] at HCR hsrc
      have HSRC := hid hsrc
      have HDG := hid hDg
      clear hF hsrc hDg HS HPP
      go_wp2_with (first
        | (go_at_call 16; refine (HCR.out _ hB hSM hB.size).mono ?_; rintro e w4 ⟨rfl, hE, hb4⟩; have hB := hB.trans hb4))
      go_loopw [12] (fun i wq => ∃ n : Nat, i = .int .i64 n ∧ n ≤ 6 ∧ SE W.heap.size g wq F D (.slice dao D.length dcap) ∧ Below W.heap.size W wq) (fun i _ => 6 - (intOf i).toNat)
      case atStart => exact ⟨0, rfl, by decide, hE, hB⟩
      case round =>
        obtain ⟨n, rfl, hn6, hE2, hB2⟩ := hrel
        rename World => wq
        have HE := hid hE2
        have HB3 := hid hB2
        clear hE2 hB2 hE hB hSM
        by_cases hn : n < 6
        · have HR1 := hid (fun w h => se_read (base := W.heap.size) (g := g) (F := F) (D := D) (v := .slice dao D.length dcap) n hn w h)
          have HR2 := hid (fun w h => se_lasts (base := W.heap.size) (g := g) (F := F) (D := D) (v := .slice dao D.length dcap) n hn w h)
          have hzs := HSRC.out n
          obtain ⟨z, hz⟩ : ∃ z, z = (F n).getD Z := ⟨_, rfl⟩
          rw [← hz] at HR1 HR2 hzs
          have HZS := hid hzs
          clear hz hzs
          have hB := HB3.out
          have hE := HE.out
          obtain ⟨B0, hB0⟩ : ∃ x, x = Bi 0 := ⟨_, rfl⟩
          have HBL := hid (fun w => block_bi 0 (by decide) (by decide) w)
          rw [← hB0] at HBL
          have HB0 : Hid (B0 = Z) := by rw [hB0]; rfl
          clear hB0
          have hcmp := str_same z B0
          go_wp2_with (first
            | (go_at_call 22; refine (HR1.out _ hE).mono ?_; rintro e wa ⟨rfl, hq⟩; have hB := hB.next hq; have hE := hE.keep hq)
            | (go_at_call 23; refine (HR2.out _ hE).mono ?_; rintro e wb ⟨rfl, hq⟩; have hB := hB.next hq; have hE := hE.keep hq)
            | (go_at_call 21; refine (HBL.out _).mono ?_; rintro e wc ⟨rfl, hq⟩; have hB := hB.next hq; have hE := hE.keep hq))
          go_loopw [17, 109] (fun k i wz => ∃ (m : Nat) (b : Bool), i = .int .i64 m ∧ m ≤ D.length ∧ k = .bool b ∧ (b = true ∨ ∃ (i : Nat) (h : i < D.length), m ≤ i ∧ MT n z D[i]) ∧ SE W.heap.size g wz F D (.slice dao D.length dcap) ∧ Below W.heap.size W wz) (fun _ i _ => D.length - (intOf i).toNat)
          case atStart =>
            refine ⟨0, decide (z = B0), rfl, Nat.zero_le _, rfl, ?_, hE, hB⟩
            rcases HZS.out with h | ⟨i, hi, h⟩
            · left; rw [HB0.out]; exact decide_eq_true h
            · exact .inr ⟨i, hi, Nat.zero_le _, h⟩
          case round =>
            obtain ⟨m, bb, rfl, hm, rfl, hor, hE4, hB4⟩ := hrel
            rename World => wz
            have HOR := hid hor
            have HE4 := hid hE4
            have HB4 := hid hB4
            clear hor hE4 hB4 hE hB hcmp
            by_cases hmD : m < D.length
            · obtain ⟨s, hs⟩ : ∃ s, s = D[m] := ⟨_, rfl⟩
              obtain ⟨⟨o1, o2, o3, o4⟩, ⟨pao, pc, hpv⟩, bO⟩ := HDG.out D[m] (List.getElem_mem hmD)
              obtain ⟨b7, cap7, hv7, hb7, hc7⟩ := row_at7 HE4.out.choose_spec.2.1 m hmD
              rw [← hs] at o1 o2 o3 o4 hpv bO hc7
              obtain ⟨rfl, rfl⟩ : dao = some ⟨b7, 0, none⟩ ∧ dcap = cap7 := by simp at hv7; exact hv7
              have t0 := hc7 0 (by decide)
              have t1 := hc7 1 (by decide)
              have t2 := hc7 2 (by decide)
              have t3 := hc7 3 (by decide)
              have t4 := hc7 4 (by decide)
              have t5 := hc7 5 (by decide)
              have t6 := hc7 6 (by decide)
              simp [Stp.cl] at t0 t1 t2 t3 t4 t5 t6
              obtain ⟨a, ha⟩ := Int.eq_ofNat_of_zero_le o3
              rw [hpv] at t6
              have HDA := hid (fun w => show Calls Try.prog 12 #[.agg #[.int .i64 s.K, .int .i64 s.A, .int .i64 s.M, .int .i64 s.O, .int .i64 s.T, .int .u8 (s.c.toNat : Int), .slice pao s.pl pc]] w (fun e w' => e = .returned (.string s.d) ∧ Below w.heap.size w w') from data_any s.K s.A s.M s.O s.T s.c (.slice pao s.pl pc) bO w)
              rw [ha] at t1 HDA o4
              have hds : s.d.size ≤ 1280 := data_small _ _ _
              have hcnt : cnt s.d = s.d.size / 128 := rfl
              have HMT : Hid (MT n z s ↔ a ≤ n ∧ n < a + cnt s.d ∧ piece s.d (n - a) = z) := by
                show _ ↔ _
                unfold MT
                rw [ha]
                exact Iff.rfl
              have HNX : Hid (∀ b' : Bool, (b' = true ∨ ¬ MT n z s) → (bb = true → b' = true) → (b' = true ∨ ∃ (i : Nat) (h : i < D.length), m + 1 ≤ i ∧ MT n z D[i])) := fun b' h1 h2 => by
                rcases HOR.out with h | ⟨i, hi, h3, h4⟩
                · exact .inl (h2 h)
                · by_cases e : i = m
                  · subst e
                    rcases h1 with h1 | h1
                    · exact .inl h1
                    · rw [← hs] at h4; exact absurd h4 h1
                  · exact .inr ⟨i, hi, by omega, h4⟩
              obtain ⟨d, hd⟩ : ∃ d, d = s.d := ⟨_, rfl⟩
              rw [← hd] at HDA hds hcnt HMT o1 o2 o4
              clear hc7 hv7 hs o3 ha hpv hd
              cases bb with
              | true =>
                go_wp2_with (first | (go_at_call 12; refine (HDA.out _).mono ?_; rintro e w5 ⟨rfl, hb5⟩; have hb6 := (below_alloc wz _).next hb5; obtain ⟨q0, q1, q2, q3, q4, q5, q6⟩ := seven_cells (var_a hb5); clear hb5))
                have H9 := hid (And.intro (HE4.out.keep hb6) (HB4.out.next hb6))
                go_roundw
                case rel => exact ⟨m + 1, true, by go_num, by omega, rfl, HNX.out _ (.inl rfl) (fun _ => rfl), H9.out.1, H9.out.2⟩
                case measure => simp [intOf]; omega
              | false =>
                by_cases h1 : a ≤ n
                · obtain ⟨k, hk0⟩ := Nat.exists_eq_add_of_le h1
                  have hk : (n : Int) - (a : Int) = (k : Int) := by omega
                  have HK : Hid (n - a = k) := by show _ = _; omega
                  have HKN := hid hk0
                  clear hk0
                  by_cases h2 : k < cnt d
                  · have h3 : (k : Int) < (d.size : Int) / 128 := by omega
                    have h4 : (k + 1) * 128 ≤ d.size := by omega
                    have hc := str_same (d.extract (k * 128) ((k + 1) * 128)) z
                    by_cases hp : d.extract (k * 128) ((k + 1) * 128) = z
                    · rw [decide_eq_true hp] at hc
                      clear hp
                      go_wp2_with (first | (go_at_call 12; refine (HDA.out _).mono ?_; rintro e w5 ⟨rfl, hb5⟩; have hb6 := (below_alloc wz _).next hb5; obtain ⟨q0, q1, q2, q3, q4, q5, q6⟩ := seven_cells (var_a hb5); clear hb5))
                      have H9 := hid (And.intro (HE4.out.keep hb6) (HB4.out.next hb6))
                      go_roundw
                      case rel => exact ⟨m + 1, true, by go_num, by omega, rfl, HNX.out _ (.inl rfl) (fun _ => rfl), H9.out.1, H9.out.2⟩
                      case measure => simp [intOf]; omega
                    · rw [decide_eq_false hp] at hc
                      have HNP : Hid (¬ MT n z s) := fun hmt => by
                        have := (HMT.out.1 hmt).2.2
                        rw [HK.out] at this
                        exact hp this
                      clear hp
                      go_wp2_with (first | (go_at_call 12; refine (HDA.out _).mono ?_; rintro e w5 ⟨rfl, hb5⟩; have hb6 := (below_alloc wz _).next hb5; obtain ⟨q0, q1, q2, q3, q4, q5, q6⟩ := seven_cells (var_a hb5); clear hb5))
                      have H9 := hid (And.intro (HE4.out.keep hb6) (HB4.out.next hb6))
                      go_roundw
                      case rel => exact ⟨m + 1, false, by go_num, by omega, rfl, HNX.out _ (.inr HNP.out) (fun h => by cases h), H9.out.1, H9.out.2⟩
                      case measure => simp [intOf]; omega
                  · have h3 : decide ((k : Int) < (d.size : Int) / 128) = false := decide_eq_false (by omega)
                    have h3' : ¬ (k : Int) < (d.size : Int) / 128 := by omega
                    have HNP : Hid (¬ MT n z s) := fun hmt => by
                      have := (HMT.out.1 hmt).2.1
                      have := HKN.out
                      omega
                    go_wp2_with (first | (go_at_call 12; refine (HDA.out _).mono ?_; rintro e w5 ⟨rfl, hb5⟩; have hb6 := (below_alloc wz _).next hb5; obtain ⟨q0, q1, q2, q3, q4, q5, q6⟩ := seven_cells (var_a hb5); clear hb5))
                    have H9 := hid (And.intro (HE4.out.keep hb6) (HB4.out.next hb6))
                    go_roundw
                    case rel => exact ⟨m + 1, false, by go_num, by omega, rfl, HNX.out _ (.inr HNP.out) (fun h => by cases h), H9.out.1, H9.out.2⟩
                    case measure => simp [intOf]; omega
                · have h3 : ¬ 0 ≤ (n : Int) - (a : Int) := by omega
                  have h3' : decide (0 ≤ (n : Int) - (a : Int)) = false := decide_eq_false h3
                  have HNP : Hid (¬ MT n z s) := fun hmt => h1 (HMT.out.1 hmt).1
                  go_wp2_with (first | (go_at_call 12; refine (HDA.out _).mono ?_; rintro e w5 ⟨rfl, hb5⟩; have hb6 := (below_alloc wz _).next hb5; obtain ⟨q0, q1, q2, q3, q4, q5, q6⟩ := seven_cells (var_a hb5); clear hb5))
                  have H9 := hid (And.intro (HE4.out.keep hb6) (HB4.out.next hb6))
                  go_roundw
                  case rel => exact ⟨m + 1, false, by go_num, by omega, rfl, HNX.out _ (.inr HNP.out) (fun h => by cases h), H9.out.1, H9.out.2⟩
                  case measure => simp [intOf]; omega
            · have hb : bb = true := by
                rcases HOR.out with h | ⟨i, hi, h3, _⟩
                · exact h
                · omega
              subst hb
              have hmd : m = D.length := by omega
              go_wp2
              go_roundw
              case rel => exact ⟨n + 1, by go_num, by omega, HE4.out, HB4.out⟩
              case measure => simp [intOf]; omega
        · go_wp2_with (first
            | (go_at_call 10; refine (speaks_any _).mono ?_; rintro e w7 ⟨rfl, hb7⟩))
          go_ret
          exact ⟨rfl, HB3.out.next hb7⟩
end Go.Proofs.Ytglhibmfbbbdiaa
