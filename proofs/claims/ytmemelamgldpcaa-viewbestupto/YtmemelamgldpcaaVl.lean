import Derived.Test.YtmemelamgldpcaaVj
namespace Go.Proofs.Ytmemelamgldpcaa
open Go.RowKit

theorem bst_left (l xs : List Off) : ∀ n, n ≤ l.length → bst (l ++ xs) n = bst l n
  | 0, _ => rfl
  | n + 1, h => by
    have ih := bst_left l xs n (by omega)
    have e1 : (l ++ xs).getD n default = l.getD n default := by rw [List.getD_eq_getElem?_getD, List.getElem?_append_left (by omega), List.getD_eq_getElem?_getD]
    have e2 : (l ++ xs).getD (bst l n) default = l.getD (bst l n) default := by
      have : bst l n < l.length := by
        by_cases h0 : n = 0
        · subst h0; show 0 < l.length; omega
        · have := bst_le l n (by omega); omega
      rw [List.getD_eq_getElem?_getD, List.getElem?_append_left this, List.getD_eq_getElem?_getD]
    rw [bst, bst, ih, e1, e2]
theorem bst_right (l xs : List Off) (hl : 0 < l.length) (h : ∀ x ∈ xs, btr x (l.getD (bst l l.length) default) = false) : ∀ j, j ≤ xs.length → bst (l ++ xs) (l.length + j) = bst l l.length
  | 0, _ => bst_left l xs l.length (Nat.le_refl _)
  | j + 1, hj => by
    have ih := bst_right l xs hl h j (by omega)
    have hb := bst_le l l.length hl
    rw [show l.length + (j + 1) = (l.length + j) + 1 by omega, bst, ih]
    have e1 : (l ++ xs).getD (l.length + j) default = xs[j]'(by omega) := by
      rw [List.getD_eq_getElem?_getD, List.getElem?_append_right (by omega), show l.length + j - l.length = j by omega, List.getElem?_eq_getElem (by omega)]; rfl
    have e2 : (l ++ xs).getD (bst l l.length) default = l.getD (bst l l.length) default := by rw [List.getD_eq_getElem?_getD, List.getElem?_append_left hb, List.getD_eq_getElem?_getD]
    rw [e1, e2, h _ (List.getElem_mem _)]
    rfl
/-- those that are not better -/
def nob (y : Off) (l : List Off) : List Off := l.filter fun x => !btr x y
theorem nob_take {y : Off} {l : List Off} {k : Nat} (hk : k < l.length) : nob y (l.take (k + 1)) = nob y (l.take k) ++ (if btr l[k] y then [] else [l[k]]) := by
  unfold nob
  rw [List.take_succ_eq_append_getElem hk, List.filter_append]
  congr 1
  cases h : btr l[k] y <;> simp [h]
theorem best_same {l more : List Off} (hl : 0 < l.length) {y : Off} (hy : y = l.getD (bst l l.length) default) : besR (l ++ nob y more) = (bst l l.length : Nat) ∧ besE (l ++ nob y more) = 0 := by
  have hne : l ++ nob y more ≠ [] := by intro e; have := congrArg List.length e; simp at this; rw [this.1] at hl; simp at hl
  unfold besR besE
  rw [if_neg hne, if_neg hne]
  refine ⟨?_, rfl⟩
  congr 1
  rw [List.length_append]
  refine bst_right l _ hl ?_ _ (Nat.le_refl _)
  intro x hx
  unfold nob at hx
  have := (List.mem_filter.1 hx).2
  rw [← hy]
  simpa using this
set_option maxRecDepth 100000 in
set_option maxHeartbeats 4000000 in
theorem best_walk {v u : Value} {l more : List Off} {w : World} (h : OLie w v l) (hm : OLie w u more) (hz : l.length ≤ 1048576) (hz2 : more.length ≤ 1048576) : Calls Try.prog 8 #[v, u] w fun e w' => e = .returned (.bool true) ∧ Below w.heap.size w w' := by
  have C1 := hid (best_any h)
  by_cases hl0 : l = []
  · have x1 : besR l = 0 := if_pos hl0
    have x2 : besE l = 6 := if_pos hl0
    rw [x1, x2] at C1
    subst hl0
    obtain ⟨ao, cap, rfl, _, _, _⟩ := h
    clear hm x1 x2 hz hz2
    go_enter Try.func8, Try.ntmps8
    go_wp2_with (first
      | (go_at_call 17; refine (C1.out).mono ?_; rintro e w1 ⟨rfl, hb1⟩)
      | (go_at_call 14; refine (speaks_any _).mono ?_; rintro e w2 ⟨rfl, hb2⟩))
    go_ret
    exact ⟨rfl, hb1.next hb2 hb1.size⟩
  · have hp := List.length_pos_iff.2 hl0
    have x1 : besR l = (bst l l.length : Nat) := if_neg hl0
    have x2 : besE l = 0 := if_neg hl0
    have hbl := bst_le l l.length hp
    have hbb := hid (bst_best l l.length hp).1
    obtain ⟨y, hy⟩ : ∃ y, y = l[bst l l.length]'hbl := ⟨_, rfl⟩
    have hyd : y = l.getD (bst l l.length) default := by rw [hy, getD_off hbl]
    obtain ⟨s1, s2⟩ := best_same (more := more) hp hyd
    rw [← hyd] at hbb
    obtain ⟨R, hR⟩ : ∃ R, R = bst l l.length := ⟨_, rfl⟩
    rw [← hR] at x1 s1 hbl
    rw [x1, x2] at C1
    have C2 : Hid (∀ (W : World) (x : Value), OLie W x (l ++ nob y more) → Calls Try.prog 17 #[x] W fun e w' => e = .returned (.tuple #[.int .i64 (R : Nat), .int .i64 0]) ∧ Below W.heap.size W w') := hid (fun W x hi => by
      have := best_any hi
      rw [s1, s2] at this
      exact this)
    have HL := hid h
    obtain ⟨b, off, cap, rfl, hlm, hb, hcl⟩ := h.some hp
    have HC := hid hcl
    obtain ⟨r0, r1, r2⟩ := hcl R hbl
    have hyR : l[R]'hbl = y := by rw [hy]; simp only [hR]
    rw [hyR] at r0 r1 r2
    have HRc := hid (And.intro r0 (And.intro r1 r2))
    have HM := hid hm
    obtain ⟨ao, cap', rfl, m1, m2, m3⟩ := hm
    obtain ⟨n, hn⟩ : ∃ n, n = l.length := ⟨_, rfl⟩
    obtain ⟨q, hq⟩ : ∃ q, q = more.length := ⟨_, rfl⟩
    rw [← hn] at hz hp hbl C1 HL hbb ⊢
    rw [← hq] at hz2 m1 HM ⊢
    replace hn := hid hn
    replace hq := hid hq
    replace m3 := hid m3
    clear h hcl hR x1 x2 s1 s2 hyd hy hyR r0 r1 r2 m2 hlm hl0
    have HB : Hid (∀ i (hi : i < l.length), ¬ btr (l[i]'hi) y = true) := hid (fun i hi => by have := hbb.out i (by rw [hn.out]; exact hi); rw [getD_off hi] at this; exact this)
    clear hbb
    obtain ⟨y1, y2, y3⟩ := y
    simp only at HRc
    have hne : l ≠ [] := by intro e; rw [hn.out, e] at hp; simp at hp
    have hne := hid hne
    have z1 : decide ((R : Int) < 0) = false := decide_eq_false (by omega)
    have z2 : decide ((n : Int) ≤ (R : Int)) = false := decide_eq_false (by omega)
    go_enter Try.func8, Try.ntmps8
    go_wp2_with (first
      | (go_at_call 17; refine (C1.out).mono ?_; rintro e w1 ⟨rfl, hb1⟩; have HB1 := hid hb1; have HL1 := hid (HL.out.below hb1); clear hb1)
      | (at_builtin; refine appO rfl (.tmp 39) (.tmp 40) rfl w1.heap.size _ _ [] l rfl rfl (ORow.nil _ _ _) HL1.out hne.out (by have := hn.out; simp only [List.length_nil]; omega) (Nat.le_refl _) ?_; intro v3 w3 r3 b3 _ _; rw [List.nil_append] at r3; have HR3 := hid r3; have HW3 := hid b3; clear r3 b3))
    clear z1 z2
    go_loopw [44] (fun i wr => ∃ k : Nat, k ≤ n ∧ i = .int .i64 k ∧ Hid (Below w3.heap.size w3 wr)) (fun i _ => n - (intOf i).toNat)
    case atStart => exact ⟨0, Nat.zero_le _, rfl, hid (Below.refl _ _)⟩
    case round =>
      obtain ⟨k, hk, rfl, HX⟩ := hrel
      have HBr := hid ((HB1.out.next HW3.out HB1.out.size).next HX.out (HB1.out.next HW3.out HB1.out.size).size)
      have hsr := HBr.out.size
      have hbr : b < wr.heap.size := by omega
      by_cases hlt : k < n
      · have hk' : k < l.length := by rw [← hn.out]; exact hlt
        obtain ⟨x, hx⟩ : ∃ x, x = l[k]'hk' := ⟨_, rfl⟩
        obtain ⟨a0, a1, a2⟩ := HC.out k hk'
        have hnb := HB.out k hk'
        rw [← hx] at a0 a1 a2 hnb
        rw [← HBr.out.cell (p := ⟨b, off + k * 3, none⟩) hb] at a0
        rw [← HBr.out.cell (p := ⟨b, off + k * 3 + 1, none⟩) hb] at a1
        rw [← HBr.out.cell (p := ⟨b, off + k * 3 + 2, none⟩) hb] at a2
        clear hx hk'
        obtain ⟨o1, o2, o3⟩ := x
        rw [btr_iff] at hnb
        simp only at a0 a1 a2 hnb
        go_upto_region 11 with fail
        obtain ⟨wa, hwa⟩ : ∃ wa, wa = wr.alloc (.cells #[.int .i64 o1, .int .i64 o2, .int .i64 o3] 38) := ⟨_, rfl⟩
        have bl : Below wr.heap.size wr wa := by rw [hwa]; exact below_alloc _ _
        have HXa : Hid (Below w3.heap.size w3 wa) := hid (HX.out.next bl HX.out.size)
        have q1 : wa.cell? ⟨wr.heap.size, 1, none⟩ = some (.int .i64 o2) := by rw [hwa, World.cell?_alloc_at _ _ _ _ rfl]; rfl
        have q2 : wa.cell? ⟨wr.heap.size, 2, none⟩ = some (.int .i64 o3) := by rw [hwa, World.cell?_alloc_at _ _ _ _ rfl]; rfl
        have r1 : wa.cell? ⟨b, off + R * 3 + 1, none⟩ = some (.int .i64 y2) := (bl.cell (p := ⟨b, off + R * 3 + 1, none⟩) hbr).trans ((HBr.out.cell (p := ⟨b, off + R * 3 + 1, none⟩) hb).trans HRc.out.2.1)
        have r2 : wa.cell? ⟨b, off + R * 3 + 2, none⟩ = some (.int .i64 y3) := (bl.cell (p := ⟨b, off + R * 3 + 2, none⟩) hbr).trans ((HBr.out.cell (p := ⟨b, off + R * 3 + 2, none⟩) hb).trans HRc.out.2.2)
        rw [← hwa]
        obtain ⟨g, hg⟩ : ∃ g, g = wr.heap.size := ⟨_, rfl⟩
        rw [← hg] at q1 q2 ⊢
        clear hwa bl a0 a1 a2 hg HX HBr hsr hbr
        have c1 : decide (y2 < o2) = false := decide_eq_false (by omega)
        rcases c2 : o2 == y2 with _ | _
        · clear hnb
          go_quiet (fail)
          go_wp2
          go_roundw
          case rel => exact ⟨k + 1, hlt, by simp, hid (HXa.out.dN _)⟩
          case measure => simp [intOf]; omega
        · have c3 : decide (y3 < o3) = false := decide_eq_false (by simp at c2; omega)
          clear hnb
          go_quiet (fail)
          go_wp2
          go_roundw
          case rel => exact ⟨k + 1, hlt, by simp, hid (HXa.out.dN _)⟩
          case measure => simp [intOf]; omega
      · have HR4 := hid (HR3.out.below HX.out)
        have HW4 : Hid (Below w1.heap.size w1 wr) := hid (HW3.out.trans (HX.out.mono HW3.out.size))
        clear HR3 HW3 HX
        go_wp2
        go_loopw [79, 7] (fun i sv wx => ∃ k2 : Nat, k2 ≤ q ∧ i = .int .i64 k2 ∧ Hid (ORow 38 w1.heap.size wx sv (l ++ nob ⟨y1, y2, y3⟩ (more.take k2))) ∧ Hid (Below w1.heap.size w1 wx)) (fun i _ _ => q - (intOf i).toNat)
        case atStart => exact ⟨0, Nat.zero_le _, rfl, hid (by simpa [nob] using HR4.out), HW4⟩
        case round =>
          obtain ⟨k2, hk2, rfl, HR5, HW5⟩ := hrel
          rename World => wx
          have HBx := hid (HB1.out.next HW5.out HB1.out.size)
          have hsx := HBx.out.size
          have hbx : b < wx.heap.size := by omega
          by_cases hlt2 : k2 < q
          · have hk' : k2 < more.length := by rw [← hq.out]; exact hlt2
            obtain ⟨x, hx⟩ : ∃ x, x = more[k2]'hk' := ⟨_, rfl⟩
            obtain ⟨gb, of2, ea, hgb, a0, a1, a2⟩ := m3.out k2 hk'
            subst ea
            rw [← hx] at a0 a1 a2
            rw [← HBx.out.cell (p := ⟨gb, of2 + k2 * 3, none⟩) hgb] at a0
            rw [← HBx.out.cell (p := ⟨gb, of2 + k2 * 3 + 1, none⟩) hgb] at a1
            rw [← HBx.out.cell (p := ⟨gb, of2 + k2 * 3 + 2, none⟩) hgb] at a2
            have hgx : gb < wx.heap.size := by omega
            have HT : Hid (nob ⟨y1, y2, y3⟩ (more.take (k2 + 1)) = nob ⟨y1, y2, y3⟩ (more.take k2) ++ (if btr x ⟨y1, y2, y3⟩ then [] else [x])) := hid (by rw [hx]; exact nob_take hk')
            have hlen : Hid ((l ++ nob ⟨y1, y2, y3⟩ (more.take k2)).length ≤ 2097152) := hid (by
              have h1 : (nob ⟨y1, y2, y3⟩ (more.take k2)).length ≤ (more.take k2).length := List.length_filter_le _ _
              rw [List.length_take] at h1
              rw [List.length_append]
              have := hn.out
              omega)
            clear hx hk'
            obtain ⟨o1, o2, o3⟩ := x
            simp only at a0 a1 a2
            have HI : Hid (btr ⟨o1, o2, o3⟩ ⟨y1, y2, y3⟩ = true ↔ y2 < o2 ∨ (o2 = y2 ∧ y3 < o3)) := hid (btr_iff _ _)
            go_upto_region 17 with fail
            obtain ⟨wa, hwa⟩ : ∃ wa, wa = wx.alloc (.cells #[.int .i64 o1, .int .i64 o2, .int .i64 o3] 38) := ⟨_, rfl⟩
            have bl : Below wx.heap.size wx wa := by rw [hwa]; exact below_alloc _ _
            have HWa : Hid (Below w1.heap.size w1 wa) := hid (HW5.out.next bl HW5.out.size)
            have HRa := hid (HR5.out.below bl)
            have q0 : wa.cell? ⟨wx.heap.size, 0, none⟩ = some (.int .i64 o1) := by rw [hwa, World.cell?_alloc_at _ _ _ _ rfl]; rfl
            have q1 : wa.cell? ⟨wx.heap.size, 1, none⟩ = some (.int .i64 o2) := by rw [hwa, World.cell?_alloc_at _ _ _ _ rfl]; rfl
            have q2 : wa.cell? ⟨wx.heap.size, 2, none⟩ = some (.int .i64 o3) := by rw [hwa, World.cell?_alloc_at _ _ _ _ rfl]; rfl
            have r1 : wa.cell? ⟨b, off + R * 3 + 1, none⟩ = some (.int .i64 y2) := (bl.cell (p := ⟨b, off + R * 3 + 1, none⟩) hbx).trans ((HBx.out.cell (p := ⟨b, off + R * 3 + 1, none⟩) hb).trans HRc.out.2.1)
            have r2 : wa.cell? ⟨b, off + R * 3 + 2, none⟩ = some (.int .i64 y3) := (bl.cell (p := ⟨b, off + R * 3 + 2, none⟩) hbx).trans ((HBx.out.cell (p := ⟨b, off + R * 3 + 2, none⟩) hb).trans HRc.out.2.2)
            rw [← hwa]
            obtain ⟨g, hg⟩ : ∃ g, g = wx.heap.size := ⟨_, rfl⟩
            rw [← hg] at q0 q1 q2 ⊢
            clear hwa bl a0 a1 a2 hg HBx hsx hbx HR5 HW5
            rcases c1 : decide (o2 < y2) with _ | _
            · rcases c2 : o2 == y2 with _ | _
              · have HN : Hid (nob ⟨y1, y2, y3⟩ (more.take (k2 + 1)) = nob ⟨y1, y2, y3⟩ (more.take k2)) := hid (by
                  have h1 : ¬ o2 < y2 := of_decide_eq_false c1
                  have h2 : o2 ≠ y2 := by simpa using c2
                  rw [HT.out, if_pos (HI.out.2 (by omega)), List.append_nil])
                go_quiet (fail)
                go_wp2
                go_roundw
                case rel => exact ⟨k2 + 1, hlt2, by simp, hid (by rw [HN.out]; exact HRa.out.below ((Below.refl _ _).dN _)), hid (HWa.out.dN _)⟩
                case measure => simp [intOf]; omega
              · rcases c3 : decide (o3 ≤ y3) with _ | _
                · have HN : Hid (nob ⟨y1, y2, y3⟩ (more.take (k2 + 1)) = nob ⟨y1, y2, y3⟩ (more.take k2)) := hid (by
                    have h1 : ¬ o2 < y2 := of_decide_eq_false c1
                    have h2 : o2 = y2 := by simpa using c2
                    have h3 : ¬ o3 ≤ y3 := of_decide_eq_false c3
                    rw [HT.out, if_pos (HI.out.2 (by omega)), List.append_nil])
                  go_quiet (fail)
                  go_wp2
                  go_roundw
                  case rel => exact ⟨k2 + 1, hlt2, by simp, hid (by rw [HN.out]; exact HRa.out.below ((Below.refl _ _).dN _)), hid (HWa.out.dN _)⟩
                  case measure => simp [intOf]; omega
                · have HN : Hid (nob ⟨y1, y2, y3⟩ (more.take (k2 + 1)) = nob ⟨y1, y2, y3⟩ (more.take k2) ++ [⟨o1, o2, o3⟩]) := hid (by
                    have h1 : ¬ o2 < y2 := of_decide_eq_false c1
                    have h2 : o2 = y2 := by simpa using c2
                    have h3 : o3 ≤ y3 := of_decide_eq_true c3
                    rw [HT.out, if_neg (fun h => by have := HI.out.1 h; omega)])
                  go_quiet (fail)
                  rename_i nq
                  have HRb := hid (HRa.out.below ((Below.refl _ _).dN nq))
                  have HWb := hid (HWa.out.dN nq)
                  go_wp2_with (first
                    | (at_builtin; refine appO rfl (.tmp 111) (.tmp 113) rfl w1.heap.size _ _ (l ++ nob ⟨y1, y2, y3⟩ (more.take k2)) [⟨o1, o2, o3⟩] rfl rfl (HRb.out.below (below_alloc _ _)) (olie_new _ _ (by simp) 38 o1 o2 o3) (by simp) (by have := hlen.out; simp only [List.length_cons, List.length_nil]; omega) (HWb.out.next (below_alloc _ _) HWb.out.size).size ?_; intro v6 w6 r6 b6 _ _; have HR6 := hid r6; have HW6 := hid ((HWb.out.next (below_alloc _ _) HWb.out.size).trans b6); clear r6 b6))
                  go_roundw
                  case rel => exact ⟨k2 + 1, hlt2, by simp, hid (by rw [HN.out, ← List.append_assoc]; exact HR6.out), HW6⟩
                  case measure => simp [intOf]; omega
            · have HN : Hid (nob ⟨y1, y2, y3⟩ (more.take (k2 + 1)) = nob ⟨y1, y2, y3⟩ (more.take k2) ++ [⟨o1, o2, o3⟩]) := hid (by
                have h1 : o2 < y2 := of_decide_eq_true c1
                rw [HT.out, if_neg (fun h => by have := HI.out.1 h; omega)])
              go_quiet (fail)
              rename_i nq
              have HRb := hid (HRa.out.below ((Below.refl _ _).dN nq))
              have HWb := hid (HWa.out.dN nq)
              go_wp2_with (first
                | (at_builtin; refine appO rfl (.tmp 111) (.tmp 113) rfl w1.heap.size _ _ (l ++ nob ⟨y1, y2, y3⟩ (more.take k2)) [⟨o1, o2, o3⟩] rfl rfl (HRb.out.below (below_alloc _ _)) (olie_new _ _ (by simp) 38 o1 o2 o3) (by simp) (by have := hlen.out; simp only [List.length_cons, List.length_nil]; omega) (HWb.out.next (below_alloc _ _) HWb.out.size).size ?_; intro v6 w6 r6 b6 _ _; have HR6 := hid r6; have HW6 := hid ((HWb.out.next (below_alloc _ _) HWb.out.size).trans b6); clear r6 b6))
              go_roundw
              case rel => exact ⟨k2 + 1, hlt2, by simp, hid (by rw [HN.out, ← List.append_assoc]; exact HR6.out), HW6⟩
              case measure => simp [intOf]; omega
          · have hkq : k2 = q := by omega
            have HLx := hid (HR5.out.lie)
            rw [hkq, hq.out, List.take_length] at HLx
            replace hkq := hid hkq
            go_wp2_with (first
              | (go_at_call 17; refine (C2.out _ _ HLx.out).mono ?_; rintro e w4 ⟨rfl, hb4⟩)
              | (go_at_call 14; refine (speaks_any _).mono ?_; rintro e w5 ⟨rfl, hb5⟩))
            go_ret
            have B4 := HBx.out.next hb4 HBx.out.size
            exact ⟨rfl, B4.next hb5 B4.size⟩
end Go.Proofs.Ytmemelamgldpcaa
