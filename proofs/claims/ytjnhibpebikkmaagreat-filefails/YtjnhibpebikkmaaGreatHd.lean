import Derived.Test.YtjnhibpebikkmaaGreatHc
import Derived.Test.YtjnhibpebikkmaaGreatGg
namespace Go.Proofs.YtjnhibpebikkmaaGreat
open Go.RowKit Go.Maps

theorem step_cells {w : World} {g : Nat} {sk si sa sn k l z a0 b0 c0 d0 e0 f0 s0 t0 : Int} {sd : ByteArray} (h : w.heap[g]? = some (.cells #[.int .i64 sk, .int .i64 si, .int .i64 sa, .int .i64 sn, .string sd, .int .i64 k, .int .i64 l, .int .i64 z, .int .i64 a0, .int .i64 b0, .int .i64 c0, .int .i64 d0, .int .i64 e0, .int .i64 f0, .int .i64 s0, .int .i64 t0] 35 (0, 0))) : w.cell? ⟨g, 0, none⟩ = some (.int .i64 sk) ∧ w.cell? ⟨g, 1, none⟩ = some (.int .i64 si) ∧ w.cell? ⟨g, 2, none⟩ = some (.int .i64 sa) ∧ w.cell? ⟨g, 3, none⟩ = some (.int .i64 sn) ∧ w.cell? ⟨g, 4, none⟩ = some (.string sd) ∧ w.cell? ⟨g, 5, none⟩ = some (.int .i64 k) ∧ w.cell? ⟨g, 6, none⟩ = some (.int .i64 l) ∧ w.cell? ⟨g, 7, none⟩ = some (.int .i64 z) ∧ w.cell? ⟨g, 8, none⟩ = some (.int .i64 a0) ∧ w.cell? ⟨g, 9, none⟩ = some (.int .i64 b0) ∧ w.cell? ⟨g, 10, none⟩ = some (.int .i64 c0) ∧ w.cell? ⟨g, 11, none⟩ = some (.int .i64 d0) ∧ w.cell? ⟨g, 12, none⟩ = some (.int .i64 e0) ∧ w.cell? ⟨g, 13, none⟩ = some (.int .i64 f0) ∧ w.cell? ⟨g, 14, none⟩ = some (.int .i64 s0) ∧ w.cell? ⟨g, 15, none⟩ = some (.int .i64 t0) := by
  simp [World.cell?, h]
/-- a loop's round: a view that is there, and nothing below has changed -/
structure Rnd (B0 : Nat) (W : World) (G : Geo) (p q cap : Nat) (F : List ByteArray) (wr : World) : Prop where
  ex : ∃ m B, VI G p q cap m wr F B ∧ B0 ≤ m
  pl : B0 ≤ p
  bel : Below B0 W wr
theorem Rnd.below {B0 : Nat} {W : World} {G : Geo} {p q cap : Nat} {F : List ByteArray} {w w' : World} (h : Rnd B0 W G p q cap F w) (k : Below w.heap.size w w') : Rnd B0 W G p q cap F w' := by
  obtain ⟨m, B, hv, hm⟩ := h.ex
  exact ⟨⟨m, B, hv.below k, hm⟩, h.pl, h.bel.trans (k.mono (by have := h.pl; have := hv.pl; omega))⟩
theorem Rnd.only {B0 : Nat} {W : World} {G : Geo} {p q cap m m' : Nat} {F B B' : List ByteArray} {w w' : World} (h : Rnd B0 W G p q cap F w) (hv : VI G p q cap m w F B) (hm : B0 ≤ m) (hv' : VI G p q cap m' w' F B') (hm' : m' = m ∨ w.heap.size ≤ m') (ho : Only [p, m] w w') (hB : B0 ≤ w.heap.size) : Rnd B0 W G p q cap F w' := by
  refine ⟨⟨m', B', hv', by omega⟩, h.pl, h.bel.trans (ho.below hB ?_)⟩
  intro x hx
  simp at hx
  rcases hx with rfl | rfl
  · exact h.pl
  · exact hm
set_option maxRecDepth 100000 in
set_option maxHeartbeats 8000000 in
theorem fails_walk (x y z : Int) (vb vs : Value) (F : List ByteArray) (l : List Stp) (W : World) (hF : SLie W vb F) (hl : TLie W vs l) : Calls Tryz.prog 3 #[.agg #[.int .i64 x, .int .i64 y, .int .i64 z], vb, vs] W fun e w' => e = .returned (.bool true) ∧ Below W.heap.size W w' := by
  obtain ⟨ao, cap', rfl, hlc, hcm, hcell⟩ := hl
  have HT := hid hcell
  unfold maxLen at hcm
  have HF : Hid (SLie (W.alloc (.cells #[.int .i64 x, .int .i64 y, .int .i64 z] 23)) vb F) := by
    obtain ⟨a, c, e, h1, h2, h3⟩ := hF
    refine hid ⟨a, c, e, h1, h2, fun i hi => ?_⟩
    obtain ⟨gb, off, e1, hg, hc⟩ := h3 i hi
    have k := below_alloc W (.cells #[.int .i64 x, .int .i64 y, .int .i64 z] 23)
    exact ⟨gb, off, e1, Nat.lt_of_lt_of_le hg k.size, (cell_same (k.block gb hg) _).trans hc⟩
  clear hcell hF
  go_enter Tryz.func3, Tryz.ntmps3
  go_wp2_with (go_at_call 8; fail)
  refine (vnew_any x y z vb F _ HF.out).mono ?_
  rintro e w2 ⟨hb2, ⟨r, hr, rfl⟩ | ⟨G, p, q, cap, m, rfl, hv2, hp2, hm2⟩⟩
  · have hr1 : (r != 0) = true := by simpa using hr
    have HB2 : Hid (Below W.heap.size W w2) := hid ((below_alloc W _).next hb2)
    clear hb2 hr HT HF
    go_wp2_with (go_at_call 9; fail)
    refine (speaks_any _).mono ?_
    rintro e w5 ⟨rfl, hb5⟩
    have HB5 := hid (HB2.out.next hb5)
    clear hb5
    go_wp2
    go_ret
    exact ⟨rfl, HB5.out⟩
  · have HB2 : Hid (Below W.heap.size W w2) := hid ((below_alloc W _).next hb2)
    have HR2 : Hid (Rnd W.heap.size W G p q cap F w2) := hid ⟨⟨m, F, hv2, Nat.le_trans (below_alloc W _).size hm2⟩, Nat.le_trans (below_alloc W _).size hp2, HB2.out⟩
    clear hb2 hv2 hp2 hm2 HF
    by_cases h100 : 100 < l.length
    · have h1 : decide (100 < (l.length : Int)) = true := by simp; omega
      clear h100 HT
      go_wp2_with (go_at_call 9; fail)
      refine (speaks_any _).mono ?_
      rintro e w5 ⟨rfl, hb5⟩
      have HB5 := hid (HB2.out.next hb5)
      clear hb5
      go_wp2
      go_ret
      exact ⟨rfl, HB5.out⟩
    · have h1 : decide (100 < (l.length : Int)) = false := by simp; omega
      clear HB2
      go_wp2
      go_loopw [40] (fun iv wr => ∃ i : Nat, iv = .int .i64 (i : Int) ∧ i ≤ l.length ∧ Rnd W.heap.size W G p q cap F wr) (fun iv _ => l.length - (intOf iv).toNat)
      case atStart => exact ⟨0, rfl, Nat.zero_le _, HR2.out⟩
      case round =>
        clear HR2
        obtain ⟨i, rfl, hi, hR⟩ := hrel
        have HR := hid hR
        clear hR
        by_cases hil : i < l.length
        · have hlt : decide ((i : Int) < (l.length : Int)) = true := by simp; omega
          obtain ⟨gb, off, e, hgl, hst⟩ := HT.out i hil
          subst e
          replace hst := hst.same (HR.out.bel.block gb hgl)
          have hgr : gb < wr.heap.size := Nat.lt_of_lt_of_le hgl HR.out.bel.size
          obtain ⟨s, hs⟩ : ∃ s, s = l[i] := ⟨_, rfl⟩
          rw [← hs] at hst
          clear hs hlt
          obtain ⟨sk, si, sa, sn, sd, ⟨k, l, z, a0, b0, c0, d0, e0, f0, s0, t0⟩⟩ := s
          unfold SAt at hst
          simp only at hst
          obtain ⟨u0, u1, u2, u3, u4, u5, u6, u7, u8, u9, u10, u11, u12, u13, u14, u15⟩ := hst
          rw [Nat.add_zero] at u0
          go_wp2_with (go_at_call 10; fail)
          clear u0 u1 u2 u3 u4 u5 u6 u7 u8 u9 u10 u11 u12 u13 u14 u15
          obtain ⟨w3, hw3⟩ : ∃ w3, w3 = wr.alloc (.cells #[.int .i64 sk, .int .i64 si, .int .i64 sa, .int .i64 sn, .string sd, .int .i64 k, .int .i64 l, .int .i64 z, .int .i64 a0, .int .i64 b0, .int .i64 c0, .int .i64 d0, .int .i64 e0, .int .i64 f0, .int .i64 s0, .int .i64 t0] 35) := ⟨_, rfl⟩
          have hX3 : w3.heap[wr.heap.size]? = some (.cells #[.int .i64 sk, .int .i64 si, .int .i64 sa, .int .i64 sn, .string sd, .int .i64 k, .int .i64 l, .int .i64 z, .int .i64 a0, .int .i64 b0, .int .i64 c0, .int .i64 d0, .int .i64 e0, .int .i64 f0, .int .i64 s0, .int .i64 t0] 35 (0, 0)) := by rw [hw3]; exact box_at _ _
          have hB3 : Below wr.heap.size wr w3 := by rw [hw3]; exact below_alloc wr _
          rw [← hw3]
          clear hw3
          have HR3 := hid (HR.out.below hB3)
          have hsz : W.heap.size ≤ w3.heap.size := by have := HR.out.bel.size; have := hB3.size; omega
          obtain ⟨m3, B3, hv3, hm3⟩ := HR3.out.ex
          refine (changes_any hv3).mono ?_
          rintro e w4 ⟨v4, rfl, hc4, hb4⟩
          have HC4 := hid hc4
          have HV4 := hid (hv3.below hb4)
          have HR4 := hid (HR3.out.below hb4)
          have hX4 := (hb4.block _ (lt_of_block hX3)).trans hX3
          have HM4 : Hid (W.heap.size ≤ m3 ∧ W.heap.size ≤ w4.heap.size) := hid ⟨hm3, Nat.le_trans hsz hb4.size⟩
          have hl4 := lt_of_block hX4
          obtain ⟨y0, y1, y2, y3, y4, y5, y6, y7, y8, y9, y10, y11, y12, y13, y14, y15⟩ := step_cells hX4
          clear hc4 hb4 hX3 hX4 hv3 hm3 hB3 hsz HR3 HR hgl hgr
          by_cases h0 : sk = 0
          · subst h0
            go_wp2_with (go_at_call 11; fail)
            refine (write_any _ _ _ HV4.out).mono ?_
            rintro e w6 ⟨r, B6, m6, rfl, hbb, hv6, ho6, hm6⟩
            have HV6 := hid hv6
            have HBB := hid hbb
            have HO6 : Hid (Only [p, m3] w4 w6) := hid (ho6)
            have HR6 := hid (HR4.out.only HV4.out HM4.out.1 HV6.out hm6 HO6.out HM4.out.2)
            clear hv6 hbb ho6 hm6 y0 y1 y2 y3 y4 y5 y6 y7 y8 y9 y10 y11 y12 y13 y14 y15
            by_cases hr0 : r = 0
            · subst hr0
              go_wp2
              go_roundw
              case rel => exact ⟨i + 1, by go_num, by omega, HR6.out⟩
              case measure => simp only [intOf]; omega
            · have hr1 : (r != 0) = true := by simpa using hr0
              have hBB := HBB.out hr0
              subst hBB
              have HC6 := hid (HC4.out.only HV4.out HO6.out)
              clear hr0
              go_wp2_with (go_at_call 10; fail)
              refine (changes_any HV6.out).mono ?_
              rintro e w7 ⟨v7, rfl, hc7, hb7⟩
              have HC7 := hid hc7
              have HR7 := hid (HR6.out.below hb7)
              have HC67 := hid (HC6.out.below hb7)
              clear hc7 hb7
              go_wp2_with (go_at_call 14; fail)
              refine (same_any _ _ _ _ HC67.out HC7.out).mono ?_
              rintro e w8 ⟨rfl, hb8⟩
              have HR8 := hid (HR7.out.below hb8)
              clear hb8
              go_wp2
              go_roundw
              case rel => exact ⟨i + 1, by go_num, by omega, HR8.out⟩
              case measure => simp only [intOf]; omega
          by_cases h1k : sk = 1
          · subst h1k
            go_wp2_with (go_at_call 11; fail)
            refine (write_any _ _ _ HV4.out).mono ?_
            rintro e w6 ⟨r, B6, m6, rfl, hbb, hv6, ho6, hm6⟩
            have HV6 := hid hv6
            have HBB := hid hbb
            have HO6 : Hid (Only [p, m3] w4 w6) := hid (ho6)
            have HR6 := hid (HR4.out.only HV4.out HM4.out.1 HV6.out hm6 HO6.out HM4.out.2)
            clear hv6 hbb ho6 hm6 y0 y1 y2 y3 y4 y5 y6 y7 y8 y9 y10 y11 y12 y13 y14 y15
            by_cases hr0 : r = 0
            · subst hr0
              go_wp2
              go_roundw
              case rel => exact ⟨i + 1, by go_num, by omega, HR6.out⟩
              case measure => simp only [intOf]; omega
            · have hr1 : (r != 0) = true := by simpa using hr0
              have hBB := HBB.out hr0
              subst hBB
              have HC6 := hid (HC4.out.only HV4.out HO6.out)
              clear hr0
              go_wp2_with (go_at_call 10; fail)
              refine (changes_any HV6.out).mono ?_
              rintro e w7 ⟨v7, rfl, hc7, hb7⟩
              have HC7 := hid hc7
              have HR7 := hid (HR6.out.below hb7)
              have HC67 := hid (HC6.out.below hb7)
              clear hc7 hb7
              go_wp2_with (go_at_call 14; fail)
              refine (same_any _ _ _ _ HC67.out HC7.out).mono ?_
              rintro e w8 ⟨rfl, hb8⟩
              have HR8 := hid (HR7.out.below hb8)
              clear hb8
              go_wp2
              go_roundw
              case rel => exact ⟨i + 1, by go_num, by omega, HR8.out⟩
              case measure => simp only [intOf]; omega
          by_cases h2k : sk = 2
          · subst h2k
            go_wp2_with (go_at_call 12; fail)
            refine (vcut_any _ _ HV4.out).mono ?_
            rintro e w6 ⟨r, B6, rfl, hbb, hv6, ho6⟩
            have HV6 := hid hv6
            have HBB := hid hbb
            have HO6 : Hid (Only [p, m3] w4 w6) := hid (ho6.wide (by simp))
            have HR6 := hid (HR4.out.only HV4.out HM4.out.1 HV6.out (.inl rfl) HO6.out HM4.out.2)
            clear hv6 hbb ho6 y0 y1 y2 y3 y4 y5 y6 y7 y8 y9 y10 y11 y12 y13 y14 y15
            by_cases hr0 : r = 0
            · subst hr0
              go_wp2
              go_roundw
              case rel => exact ⟨i + 1, by go_num, by omega, HR6.out⟩
              case measure => simp only [intOf]; omega
            · have hr1 : (r != 0) = true := by simpa using hr0
              have hBB := HBB.out hr0
              subst hBB
              have HC6 := hid (HC4.out.only HV4.out HO6.out)
              clear hr0
              go_wp2_with (go_at_call 10; fail)
              refine (changes_any HV6.out).mono ?_
              rintro e w7 ⟨v7, rfl, hc7, hb7⟩
              have HC7 := hid hc7
              have HR7 := hid (HR6.out.below hb7)
              have HC67 := hid (HC6.out.below hb7)
              clear hc7 hb7
              go_wp2_with (go_at_call 14; fail)
              refine (same_any _ _ _ _ HC67.out HC7.out).mono ?_
              rintro e w8 ⟨rfl, hb8⟩
              have HR8 := hid (HR7.out.below hb8)
              clear hb8
              go_wp2
              go_roundw
              case rel => exact ⟨i + 1, by go_num, by omega, HR8.out⟩
              case measure => simp only [intOf]; omega
          by_cases h4k : sk = 4
          · subst h4k
            go_wp2_with (go_at_call 13; fail)
            refine (vset_any _ ⟨k, l, z, a0, b0, c0, d0, e0, f0, s0, t0⟩ HV4.out).mono ?_
            rintro e w6 ⟨r, B6, rfl, hbb, hv6, ho6⟩
            have HV6 := hid hv6
            have HBB := hid hbb
            have HO6 : Hid (Only [p, m3] w4 w6) := hid (ho6.wide (by simp))
            have HR6 := hid (HR4.out.only HV4.out HM4.out.1 HV6.out (.inl rfl) HO6.out HM4.out.2)
            clear hv6 hbb ho6 y0 y1 y2 y3 y4 y5 y6 y7 y8 y9 y10 y11 y12 y13 y14 y15
            by_cases hr0 : r = 0
            · subst hr0
              go_wp2
              go_roundw
              case rel => exact ⟨i + 1, by go_num, by omega, HR6.out⟩
              case measure => simp only [intOf]; omega
            · have hr1 : (r != 0) = true := by simpa using hr0
              have hBB := HBB.out hr0
              subst hBB
              have HC6 := hid (HC4.out.only HV4.out HO6.out)
              clear hr0
              go_wp2_with (go_at_call 10; fail)
              refine (changes_any HV6.out).mono ?_
              rintro e w7 ⟨v7, rfl, hc7, hb7⟩
              have HC7 := hid hc7
              have HR7 := hid (HR6.out.below hb7)
              have HC67 := hid (HC6.out.below hb7)
              clear hc7 hb7
              go_wp2_with (go_at_call 14; fail)
              refine (same_any _ _ _ _ HC67.out HC7.out).mono ?_
              rintro e w8 ⟨rfl, hb8⟩
              have HR8 := hid (HR7.out.below hb8)
              clear hb8
              go_wp2
              go_roundw
              case rel => exact ⟨i + 1, by go_num, by omega, HR8.out⟩
              case measure => simp only [intOf]; omega
          · go_wp2
            go_roundw
            case rel => exact ⟨i + 1, by go_num, by omega, HR4.out⟩
            case measure => simp only [intOf]; omega
        · have hie : i = l.length := by omega
          subst hie
          go_wp2_with (go_at_call 9; fail)
          refine (speaks_any _).mono ?_
          rintro e w5 ⟨rfl, hb5⟩
          have HB5 := hid (HR.out.bel.next hb5)
          clear hb5
          go_wp2
          go_ret
          exact ⟨rfl, HB5.out⟩
end Go.Proofs.YtjnhibpebikkmaaGreat
