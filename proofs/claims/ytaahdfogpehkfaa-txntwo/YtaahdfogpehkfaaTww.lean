import Derived.Test.YtaahdfogpehkfaaThw
namespace Go.Proofs.Ytaahdfogpehkfaa
open Go.RowKit Go.Maps
set_option maxRecDepth 100000 in
set_option maxHeartbeats 8000000 in
theorem two_walk (va vb : Value) (at' : Int) (a b : List Chg) (w : World) (ha : CLie w va a) (hb : CLie w vb b) : Calls Try.prog 6 #[va, vb, .int .i64 at'] w fun e w' => e = .returned (.bool true) ∧ Below w.heap.size w w' := by
  have HS := hid speaks_any
  have HMX := hid (fun w h k => merge_any va vb a b w h k)
  have HA := hid ha
  have HB := hid hb
  have HZ := hid (@mRes_zero a b)
  have hx := mRes_cases a b
  obtain ⟨X, hX⟩ : ∃ X, X = mRes a b := ⟨_, rfl⟩
  rw [← hX] at HMX HZ hx
  clear hX
  obtain ⟨e1, M⟩ := X
  obtain ⟨ao, cap, rfl, hlc, hcm, hcell⟩ := ha
  obtain ⟨bo, bap, rfl, klc, kcm, kcell⟩ := hb
  have HCA := hid hcell
  have HCB := hid kcell
  unfold maxLen at hcm kcm
  clear hcell kcell
  go_enter Try.func6, Try.ntmps6
  go_wp2_with (first | (go_at_call 9; fail))
  refine (HMX.out _ HA.out HB.out).mono ?_
  rintro e w1 ⟨⟨vx, rfl, hx1⟩, hb1⟩
  have HX1 := hid hx1
  have HW1 := hid hb1
  obtain ⟨xo, xcap, rfl, xlc, xcm, xcell⟩ := hx1
  simp only at HX1 xlc xcell hx ⊢
  unfold maxLen at xcm
  have HCX := hid xcell
  clear xcell hb1
  by_cases h1 : e1 = 0
  · subst h1
    obtain ⟨ra, rb, h48, hM⟩ := HZ.out rfl
    injection hM with _ hM
    have HM := hid hM
    have HR := hid (merge_right ra rb h48)
    rw [← hM] at HR
    have HK := hid (fun v w h => check_any v M w h)
    rw [HR.out] at HK
    simp only [if_true] at HK
    have HLK := hid (look_merge at' a b ByteArray.empty (right_iff.1 ra).2.1 (right_iff.1 rb).2.1)
    rw [← hM] at HLK
    clear hM hx HZ HMX h48 ra rb
    go_wp2
    go_loopw [9, 33] (fun s i wr => ∃ (q : Nat), i = .int .i64 q ∧ q ≤ a.length ∧ s = .string (look at' ByteArray.empty (a.take q)) ∧ Below w1.heap.size w1 wr) (fun _ i _ => a.length - (intOf i).toNat)
    case atStart => exact ⟨0, rfl, Nat.zero_le _, rfl, Below.refl _ _⟩
    case round =>
      obtain ⟨q, rfl, hq, rfl, hBq⟩ := hrel
      have HBq := hid hBq
      have HBw := hid (HW1.out.next hBq)
      clear hBq
      by_cases hqk : q < a.length
      · obtain ⟨gb, off, e, hgl, c0, c1⟩ := HCA.out q hqk
        subst e
        have HT := hid (List.take_succ_eq_append_getElem hqk)
        obtain ⟨c, hc⟩ : ∃ c, c = a[q] := ⟨_, rfl⟩
        rw [← hc] at c0 c1 HT
        clear hc
        replace c0 := (HBw.out.cell (p := ⟨gb, off + q * 2, none⟩) hgl).trans c0
        replace c1 := (HBw.out.cell (p := ⟨gb, off + q * 2 + 1, none⟩) hgl).trans c1
        have hgr : gb < wr.heap.size := Nat.lt_of_lt_of_le hgl HBw.out.size
        have HL := hid (look_snoc at' (a.take q) ByteArray.empty c)
        obtain ⟨y, hy⟩ : ∃ y, y = look at' ByteArray.empty (a.take q) := ⟨_, rfl⟩
        rw [← hy] at HL ⊢
        clear hy
        cases hcb : (c.b == at')
        · have hcn : ¬ c.b = at' := by simpa using hcb
          go_wp2
          go_roundw
          case rel => exact ⟨q + 1, by go_num, by omega, by rw [HT.out, HL.out, if_neg hcn], HBq.out.next (below_alloc _ _)⟩
          case measure => simp [intOf]; omega
        · have hcn : c.b = at' := by simpa using hcb
          go_wp2
          go_roundw
          case rel => exact ⟨q + 1, by go_num, by omega, by rw [HT.out, HL.out, if_pos hcn], HBq.out.next (below_alloc _ _)⟩
          case measure => simp [intOf]; omega
      · have hqe : q = a.length := by omega
        subst hqe
        rw [List.take_length]
        obtain ⟨Y, hY⟩ : ∃ Y, Y = look at' ByteArray.empty a := ⟨_, rfl⟩
        rw [← hY] at HLK ⊢
        clear hY
        go_wp2
        go_loopw [9, 46] (fun s i wx => ∃ (q : Nat), i = .int .i64 q ∧ q ≤ b.length ∧ s = .string (look at' Y (b.take q)) ∧ Below w1.heap.size w1 wx) (fun _ i _ => b.length - (intOf i).toNat)
        case atStart => exact ⟨0, rfl, Nat.zero_le _, rfl, HBq.out⟩
        case round =>
          rename World => wx
          obtain ⟨p, rfl, hp, rfl, hBp⟩ := hrel
          clear HBq HBw
          have HBp := hid hBp
          have HBw := hid (HW1.out.next hBp)
          clear hBp
          by_cases hpk : p < b.length
          · obtain ⟨gb, off, e, hgl, c0, c1⟩ := HCB.out p hpk
            subst e
            have HT := hid (List.take_succ_eq_append_getElem hpk)
            obtain ⟨c, hc⟩ : ∃ c, c = b[p] := ⟨_, rfl⟩
            rw [← hc] at c0 c1 HT
            clear hc
            replace c0 := (HBw.out.cell (p := ⟨gb, off + p * 2, none⟩) hgl).trans c0
            replace c1 := (HBw.out.cell (p := ⟨gb, off + p * 2 + 1, none⟩) hgl).trans c1
            have hgr : gb < wx.heap.size := Nat.lt_of_lt_of_le hgl HBw.out.size
            have HL := hid (look_snoc at' (b.take p) Y c)
            obtain ⟨y, hy⟩ : ∃ y, y = look at' Y (b.take p) := ⟨_, rfl⟩
            rw [← hy] at HL ⊢
            clear hy
            cases hcb : (c.b == at')
            · have hcn : ¬ c.b = at' := by simpa using hcb
              go_wp2
              go_roundw
              case rel => exact ⟨p + 1, by go_num, by omega, by rw [HT.out, HL.out, if_neg hcn], HBp.out.next (below_alloc _ _)⟩
              case measure => simp [intOf]; omega
            · have hcn : c.b = at' := by simpa using hcb
              go_wp2
              go_roundw
              case rel => exact ⟨p + 1, by go_num, by omega, by rw [HT.out, HL.out, if_pos hcn], HBp.out.next (below_alloc _ _)⟩
              case measure => simp [intOf]; omega
          · have hpe : p = b.length := by omega
            subst hpe
            rw [List.take_length, ← HLK.out]
            obtain ⟨Z, hZ⟩ : ∃ Z, Z = look at' ByteArray.empty M := ⟨_, rfl⟩
            rw [← hZ]
            have HZZ := hid hZ
            clear hZ HLK
            go_wp2
            go_loopw [10, 59] (fun s i wy => ∃ (q : Nat), i = .int .i64 q ∧ q ≤ M.length ∧ s = .string (look at' ByteArray.empty (M.take q)) ∧ Below w1.heap.size w1 wy) (fun _ i _ => M.length - (intOf i).toNat)
            case atStart => exact ⟨0, rfl, Nat.zero_le _, rfl, HBp.out⟩
            case round =>
              rename World => wy
              obtain ⟨r, rfl, hr, rfl, hBr⟩ := hrel
              clear HBp HBw
              have HBr := hid hBr
              clear hBr
              by_cases hrk : r < M.length
              · obtain ⟨gb, off, e, hgl, c0, c1⟩ := HCX.out r hrk
                subst e
                have HT := hid (List.take_succ_eq_append_getElem hrk)
                obtain ⟨c, hc⟩ : ∃ c, c = M[r] := ⟨_, rfl⟩
                rw [← hc] at c0 c1 HT
                clear hc
                replace c0 := (HBr.out.cell (p := ⟨gb, off + r * 2, none⟩) hgl).trans c0
                replace c1 := (HBr.out.cell (p := ⟨gb, off + r * 2 + 1, none⟩) hgl).trans c1
                have hgr : gb < wy.heap.size := Nat.lt_of_lt_of_le hgl HBr.out.size
                have HL := hid (look_snoc at' (M.take r) ByteArray.empty c)
                obtain ⟨y, hy⟩ : ∃ y, y = look at' ByteArray.empty (M.take r) := ⟨_, rfl⟩
                rw [← hy] at HL ⊢
                clear hy
                cases hcb : (c.b == at')
                · have hcn : ¬ c.b = at' := by simpa using hcb
                  go_wp2
                  go_roundw
                  case rel => exact ⟨r + 1, by go_num, by omega, by rw [HT.out, HL.out, if_neg hcn], HBr.out.next (below_alloc _ _)⟩
                  case measure => simp [intOf]; omega
                · have hcn : c.b = at' := by simpa using hcb
                  go_wp2
                  go_roundw
                  case rel => exact ⟨r + 1, by go_num, by omega, by rw [HT.out, HL.out, if_pos hcn], HBr.out.next (below_alloc _ _)⟩
                  case measure => simp [intOf]; omega
              · have hre : r = M.length := by omega
                subst hre
                rw [List.take_length, ← HZZ.out]
                go_wp2_with (first
                  | (go_at_call 11; refine (HK.out _ _ (HX1.out.below HBr.out)).mono ?_; rintro e w5 ⟨rfl, hb5⟩; have HB5 := hid hb5; clear hb5)
                  | (go_at_call 14; refine (HS.out _).mono ?_; rintro e w8 ⟨rfl, hb8⟩))
                go_ret
                exact ⟨rfl, ((HW1.out.next HBr.out).next HB5.out).next hb8⟩
  · have hb : (e1 != 0) = true := by simp [h1]
    rcases hx with hx | ⟨hx, _⟩
    · exact absurd hx h1
    · subst hx
      go_wp2_with (first
        | (go_at_call 14; refine (HS.out _).mono ?_; rintro e w8 ⟨rfl, hb8⟩))
      go_ret
      exact ⟨rfl, HW1.out.next hb8⟩
end Go.Proofs.Ytaahdfogpehkfaa
