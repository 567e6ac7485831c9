import Derived.Test.YtjnhibpebikkmaaGreatVa
namespace Go.Proofs.YtjnhibpebikkmaaGreat
open Go.RowKit Go.Maps Go.Shelf

theorem q26n (w : World) (g : Nat) : (binOp .eql 26 (.pointer (some ⟨g, 0, none⟩)) (.pointer none)).run Tryz.prog w = .ok (.bool false) w := by kernel_rfl
theorem q26y (w : World) (g : Nat) : (binOp .neq 26 (.pointer (some ⟨g, 0, none⟩)) (.pointer none)).run Tryz.prog w = .ok (.bool true) w := by kernel_rfl
theorem sv_new2 {w w1 : World} {v : Value} (hb : Below w.heap.size w w1) (hs : SRow w.heap.size w1 v sF) : ∃ ao cp, v = .slice ao 40 cp ∧ ∀ w2, Below w1.heap.size w1 w2 → Calls Tryz.prog 8 #[.agg #[.int .i64 40, .int .i64 20, .int .i64 4], v] w2 fun e w' => ∃ p, e = .returned (.tuple #[.pointer (some ⟨p, 0, none⟩), .int .i64 0]) ∧ SV w p sF w' ∧ Below w2.heap.size w2 w' := by
  have h40 : sF.length = 40 := s_len
  unfold SRow at hs
  rw [h40] at hs
  obtain ⟨g, cp, rfl, hg, hc⟩ := own_row hs (by decide)
  refine ⟨some ⟨g, 0, none⟩, cp, rfl, fun w2 hb2 => ?_⟩
  have hrow : ∀ j (hj : j < sF.length), w1.cell? ⟨g, 0 + j, none⟩ = some (.string sF[j]) := fun j hj => by
    rw [Nat.zero_add, hc j (by simpa using hj)]
    simp
  have hlt : g < w1.heap.size := row_lt (F := sF) (by rw [h40]; decide) (fun i hi => by have := hrow i hi; rwa [Nat.zero_add] at this)
  have hrow2 : ∀ j (hj : j < sF.length), w2.cell? ⟨g, 0 + j, none⟩ = some (.string sF[j]) := fun j hj => (cell_same (hb2.block g hlt) _).trans (hrow j hj)
  refine (new_ok (x := 40) (y := 20) (z := 4) s_okS g 0 cp sF h40 s_sz w2 hrow2 (Nat.lt_of_lt_of_le hlt hb2.size)).mono ?_
  rintro e w' ⟨p, rfl, hnv⟩
  obtain ⟨⟨q, cap, m, hvi, hq, hm⟩, hp, hbn⟩ := hnv
  rw [s_geo] at hvi
  have hsz := hb.size
  have hsz2 := hb2.size
  exact ⟨p, rfl, ⟨⟨q, cap, m, hvi, by omega, by omega⟩, by omega, (hb.next hb2).next hbn⟩, hbn⟩
/-- while the blocks of files are gone through: the view, and the array of those that were seen -/
structure AR (W : World) (p g : Nat) (B : List ByteArray) (L : List Nat) (wr : World) : Prop where
  vi : ∃ q cap m, VI sG p q cap m wr sF B ∧ p < g ∧ q < g ∧ m < g
  row : ∃ cs T, wr.heap[g]? = some (.cells cs T (0, 0)) ∧ ∀ b, b < 40 → cs[b]? = some (.bool (decide (b ∈ L)))
  bel : Below W.heap.size W wr
  gW : W.heap.size ≤ g
theorem AR.lt {W : World} {p g : Nat} {B : List ByteArray} {L : List Nat} {wr : World} (h : AR W p g B L wr) : g < wr.heap.size := by
  obtain ⟨cs, T, h1, _⟩ := h.row
  exact lt_of_block h1
theorem AR.next {W : World} {p g : Nat} {B : List ByteArray} {L : List Nat} {wr w' : World} (h : AR W p g B L wr) (k : Below wr.heap.size wr w') : AR W p g B L w' := by
  obtain ⟨q, cap, m, hv, h1, h2, h3⟩ := h.vi
  obtain ⟨cs, T, r1, r2⟩ := h.row
  exact ⟨⟨q, cap, m, hv.below k, h1, h2, h3⟩, ⟨cs, T, (k.block g h.lt).trans r1, r2⟩, h.bel.next k, h.gW⟩
theorem AR.cell {W : World} {p g : Nat} {B : List ByteArray} {L : List Nat} {wr : World} (h : AR W p g B L wr) {b : Nat} (hb : b < 40) : wr.cell? ⟨g, b, none⟩ = some (.bool (decide (b ∈ L))) ∧ wr.frozen? ⟨g, b, none⟩ = false := by
  obtain ⟨cs, T, r1, r2⟩ := h.row
  refine ⟨?_, ?_⟩
  · simp [World.cell?, r1, r2 b hb]
  · simp [World.frozen?, r1]
theorem AR.set {W : World} {p g : Nat} {B : List ByteArray} {L : List Nat} {wr : World} (h : AR W p g B L wr) {b : Nat} (hb : b < 40) : AR W p g B (b :: L) (wr.setCell ⟨g, b, none⟩ (.bool true)) := by
  obtain ⟨q, cap, m, hv, h1, h2, h3⟩ := h.vi
  have hlt := h.lt
  have hgW := h.gW
  obtain ⟨cs, T, r1, r2⟩ := h.row
  have hb2 : Below g wr (wr.setCell ⟨g, b, none⟩ (.bool true)) := (Below.refl g wr).setCell (p := ⟨g, b, none⟩) (Nat.le_refl g) _
  refine ⟨⟨q, cap, m, hv.same (hb2.block p h1) (hb2.block q h2) (hb2.block m h3), h1, h2, h3⟩, ⟨cs.setIfInBounds b (.bool true), T, ?_, ?_⟩, h.bel.trans (hb2.mono hgW), hgW⟩
  · have h' : wr.heap[g] = .cells cs T (0, 0) := by simpa [Array.getElem?_eq_getElem hlt] using r1
    show (wr.heap.modify g _)[g]? = _
    rw [Array.getElem?_eq_getElem (by simpa using hlt), Array.getElem_modify_self, h']
    rfl
  · intro c hc
    have hsz : b < cs.size := by
      have := r2 b hb
      exact (Array.getElem?_eq_some_iff.1 this).1
    rw [Array.getElem?_setIfInBounds]
    by_cases e : b = c
    · subst e; rw [if_pos rfl, if_pos hsz]; simp
    · rw [if_neg e, r2 c hc]
      have : (c ∈ b :: L) ↔ (c ∈ L) := by rw [List.mem_cons]; exact ⟨fun h => h.resolve_left (fun h => e h.symm), .inr⟩
      simp [this]
theorem AR.new {W : World} {p : Nat} {B : List ByteArray} {wr : World} (h : SV W p B wr) : AR W p wr.heap.size B [] (wr.alloc (.cells (List.replicate 40 (Value.bool false)).toArray 51)) := by
  obtain ⟨q, cap, m, hv, _, _⟩ := h.ex
  have k := below_alloc wr (.cells (List.replicate 40 (Value.bool false)).toArray 51)
  refine ⟨⟨q, cap, m, hv.below k, hv.pl, hv.ql, hv.ml⟩, ⟨_, 51, box_at _ _, ?_⟩, h.bel.next k, h.bel.size⟩
  intro b hb
  rw [List.getElem?_toArray, List.getElem?_replicate, if_pos hb]
  simp
set_option maxRecDepth 100000 in
set_option maxHeartbeats 8000000 in
theorem apart_walk (vs : Value) (l : List Stp) (W : World) (hl : TLie W vs l) : Calls Tryz.prog 5 #[vs] W fun e w' => e = .returned (.bool true) ∧ Below W.heap.size W w' := by
  obtain ⟨ao, cap', rfl, hlc, hcm, hcell⟩ := hl
  have HT := hid hcell
  unfold maxLen at hcm
  clear hcell
  have q1 := q26n
  have q2 := q26y
  go_enter Tryz.func5, Tryz.ntmps5
  go_wp2_with (go_at_call 15; fail)
  refine (little_any _).mono ?_
  rintro e w1 ⟨rfl, hb1⟩
  have HB1 := hid hb1
  clear hb1
  go_wp2_with (go_at_call 16; fail)
  obtain ⟨w2, hw2⟩ : ∃ w2, w2 = w1.alloc (.cells #[.int .i64 40, .int .i64 20, .int .i64 4] 23) := ⟨_, rfl⟩
  have hX2 : w2.heap[w1.heap.size]? = some (.cells #[.int .i64 40, .int .i64 20, .int .i64 4] 23 (0, 0)) := by rw [hw2]; exact box_at _ _
  have HB2 : Hid (Below W.heap.size W w2) := by rw [hw2]; exact hid (HB1.out.next (below_alloc w1 _))
  rw [← hw2]
  clear hw2
  have hc2 : w2.cell? ⟨w1.heap.size, 0, none⟩ = some (.int .i64 40) ∧ w2.cell? ⟨w1.heap.size, 1, none⟩ = some (.int .i64 20) ∧ w2.cell? ⟨w1.heap.size, 2, none⟩ = some (.int .i64 4) := by simp [World.cell?, hX2]
  have hlt2 := lt_of_block hX2
  have HX2 := hid hX2
  clear hX2
  go_region_held3 (fun w' => w'.cell? ⟨w1.heap.size, 0, none⟩ = some (.int .i64 40) ∧ w'.cell? ⟨w1.heap.size, 1, none⟩ = some (.int .i64 20) ∧ w'.cell? ⟨w1.heap.size, 2, none⟩ = some (.int .i64 4)) (first | exact hc2 | exact hc3 | exact hc4 | go_keep) (first
    | (go_at_call 16; refine (blank_any _).mono ?_; rintro e w3 ⟨v3, rfl, hs3, hb3⟩
       have HB3 : Hid (Below w2.heap.size w2 w3) := hid ⟨hb3.os, hb3.tape, hb3.output, hb3.size, hb3.block⟩
       have hX3 := (HB3.out.block _ hlt2).trans HX2.out
       have hc3 : w3.cell? ⟨w1.heap.size, 0, none⟩ = some (.int .i64 40) ∧ w3.cell? ⟨w1.heap.size, 1, none⟩ = some (.int .i64 20) ∧ w3.cell? ⟨w1.heap.size, 2, none⟩ = some (.int .i64 4) := by simp [World.cell?, hX3]
       have HS3 : SRow W.heap.size w3 v3 sF := by
         obtain ⟨e1, e2 | ⟨x, cp, cur, e3, e4, e5⟩⟩ := hs3
         · exact ⟨e1, .inl e2⟩
         · exact ⟨e1, .inr ⟨x, cp, cur, e3, Nat.le_trans HB2.out.size e4, e5⟩⟩
       obtain ⟨ao', cp, hv3, hnew⟩ := sv_new2 (HB2.out.next HB3.out) HS3
       subst hv3
       have HNEW := hid hnew
       have HX3 := hid hX3
       clear hb3 hX3 hs3 HS3 hnew)
    | (go_at_call 8; refine (HNEW.out _ ⟨rfl, rfl, rfl, Nat.le_refl _, fun _ _ => rfl⟩).mono ?_; rintro e w4 ⟨p, rfl, hv4, hb4⟩
       have HV4 := hid hv4
       have hc4 : w4.cell? ⟨w1.heap.size, 0, none⟩ = some (.int .i64 40) ∧ w4.cell? ⟨w1.heap.size, 1, none⟩ = some (.int .i64 20) ∧ w4.cell? ⟨w1.heap.size, 2, none⟩ = some (.int .i64 4) := by
         have hX4 := (hb4.block _ (lt_of_block HX3.out)).trans HX3.out
         simp [World.cell?, hX4]
       clear hv4 hb4))
  clear hc2 hc3 HX2 HX3 hlt2 HB2 HB3 HNEW HB1
  by_cases h100 : 100 < l.length
  · have h1 : decide (100 < (l.length : Int)) = true := by simp; omega
    clear h100 HT
    go_wp2_with (go_at_call 9; fail)
    refine (speaks_any _).mono ?_
    rintro e w5 ⟨rfl, hb5⟩
    have HB5 := hid (HV4.out.next hb5)
    clear hb5
    go_wp2
    go_ret
    exact ⟨rfl, HB5.out.bel⟩
  · have h1 : decide (100 < (l.length : Int)) = false := by simp; omega
    clear hc4
    go_wp2
    go_loopw [6] (fun iv wr => ∃ (i : Nat) (B : List ByteArray), iv = .int .i64 (i : Int) ∧ 1 ≤ i ∧ i ≤ 4 ∧ SV W p B wr ∧ Emp sG B) (fun iv _ => 4 - (intOf iv).toNat)
    case atStart => exact ⟨1, sF, rfl, by decide, by decide, HV4.out, s_emp⟩
    case round =>
      clear HV4
      obtain ⟨i, B, rfl, hi1, hi4, hV, hE⟩ := hrel
      have HV := hid hV
      have HE := hid hE
      clear hV hE
      by_cases hlt : i < 4
      · have K := hid (sv_set3 i hlt HV.out)
        simp only [Ino.v, sN] at K
        go_wp2_with (go_at_call 13; refine K.out.mono ?_; rintro e w5 ⟨rfl, hv5⟩; have HV5 := hid hv5; clear hv5)
        go_roundw
        case rel => exact ⟨i + 1, _, by go_num, by omega, by omega, HV5.out, (HE.out.put (show i < sG.z from hlt) s_c sN_at).1⟩
        case measure => simp only [intOf]; omega
      · have HI := hid HE.out.ti
        clear HE
        have hd4 : decide ((i : Int) < 4) = false := by simp; omega
        go_wp2
        clear hd4 hlt hi1 hi4
        go_loopw [53] (fun iv wr => ∃ (i : Nat) (B : List ByteArray), iv = .int .i64 (i : Int) ∧ i ≤ l.length ∧ SV W p B wr ∧ TI sG B) (fun iv _ => l.length - (intOf iv).toNat)
        case atStart => exact ⟨0, B, rfl, Nat.zero_le _, HV.out, HI.out⟩
        case round =>
          clear HV HI
          obtain ⟨i, B, rfl, hi, hV, hI⟩ := hrel
          have HV := hid hV
          have HI := hid hI
          clear hV hI
          by_cases hil : i < l.length
          · have hlt : decide ((i : Int) < (l.length : Int)) = true := by simp; omega
            obtain ⟨gb, off, e, hgl, hst⟩ := HT.out i hil
            subst e
            replace hst := hst.same (HV.out.bel.block gb hgl)
            have hgr : gb < wr.heap.size := Nat.lt_of_lt_of_le hgl HV.out.bel.size
            obtain ⟨s, hs⟩ : ∃ s, s = l[i] := ⟨_, rfl⟩
            rw [← hs] at hst
            clear hs hlt
            obtain ⟨sk, si, sa, sn, sd, ⟨k, l, z, a0, b0, c0, d0, e0, f0, s0, t0⟩⟩ := s
            unfold SAt at hst
            simp only at hst
            obtain ⟨u0, u1, u2, u3, u4, u5, u6, u7, u8, u9, u10, u11, u12, u13, u14, u15⟩ := hst
            rw [Nat.add_zero] at u0
            by_cases h0 : sk = 0
            · as_aux_lemma =>
              subst h0
              go_wp2_with (go_at_call 11; fail)
              clear u0 u1 u2 u3 u4 u5 u6 u7 u8 u9 u10 u11 u12 u13 u14 u15
              obtain ⟨w3, hw3⟩ : ∃ w3, w3 = wr.alloc (.cells #[.int .i64 0, .int .i64 si, .int .i64 sa, .int .i64 sn, .string sd, .int .i64 k, .int .i64 l, .int .i64 z, .int .i64 a0, .int .i64 b0, .int .i64 c0, .int .i64 d0, .int .i64 e0, .int .i64 f0, .int .i64 s0, .int .i64 t0] 35) := ⟨_, rfl⟩
              have HV3 : Hid (SV W p B w3) := by rw [hw3]; exact hid (HV.out.next (below_alloc wr _))
              rw [← hw3]
              clear hw3
              refine (sv_wr _ _ _ HV3.out).mono ?_
              rintro e w6 ⟨r, B6, rfl, hw6, hv6⟩
              have HV6 := hid hv6
              have HI6 := hid (hw6.ti HI.out)
              clear hw6 hv6 HV3
              go_wp2
              go_roundw
              case rel => exact ⟨i + 1, B6, by go_num, by omega, HV6.out, HI6.out⟩
              case measure => simp only [intOf]; omega
            by_cases h1k : sk = 1
            · as_aux_lemma =>
              subst h1k
              go_wp2_with (go_at_call 11; fail)
              clear u0 u1 u2 u3 u4 u5 u6 u7 u8 u9 u10 u11 u12 u13 u14 u15
              obtain ⟨w3, hw3⟩ : ∃ w3, w3 = wr.alloc (.cells #[.int .i64 1, .int .i64 si, .int .i64 sa, .int .i64 sn, .string sd, .int .i64 k, .int .i64 l, .int .i64 z, .int .i64 a0, .int .i64 b0, .int .i64 c0, .int .i64 d0, .int .i64 e0, .int .i64 f0, .int .i64 s0, .int .i64 t0] 35) := ⟨_, rfl⟩
              have HV3 : Hid (SV W p B w3) := by rw [hw3]; exact hid (HV.out.next (below_alloc wr _))
              rw [← hw3]
              clear hw3
              refine (sv_wr _ _ _ HV3.out).mono ?_
              rintro e w6 ⟨r, B6, rfl, hw6, hv6⟩
              have HV6 := hid hv6
              have HI6 := hid (hw6.ti HI.out)
              clear hw6 hv6 HV3
              go_wp2
              go_roundw
              case rel => exact ⟨i + 1, B6, by go_num, by omega, HV6.out, HI6.out⟩
              case measure => simp only [intOf]; omega
            by_cases h2k : sk = 2
            · as_aux_lemma =>
              subst h2k
              go_wp2_with (go_at_call 12; fail)
              clear u0 u1 u2 u3 u4 u5 u6 u7 u8 u9 u10 u11 u12 u13 u14 u15
              obtain ⟨w3, hw3⟩ : ∃ w3, w3 = wr.alloc (.cells #[.int .i64 2, .int .i64 si, .int .i64 sa, .int .i64 sn, .string sd, .int .i64 k, .int .i64 l, .int .i64 z, .int .i64 a0, .int .i64 b0, .int .i64 c0, .int .i64 d0, .int .i64 e0, .int .i64 f0, .int .i64 s0, .int .i64 t0] 35) := ⟨_, rfl⟩
              have HV3 : Hid (SV W p B w3) := by rw [hw3]; exact hid (HV.out.next (below_alloc wr _))
              rw [← hw3]
              clear hw3
              refine (sv_ct _ _ HV3.out).mono ?_
              rintro e w6 ⟨r, B6, rfl, hw6, hv6⟩
              have HV6 := hid hv6
              have HI6 := hid (hw6.ti HI.out)
              clear hw6 hv6 HV3
              go_wp2
              go_roundw
              case rel => exact ⟨i + 1, B6, by go_num, by omega, HV6.out, HI6.out⟩
              case measure => simp only [intOf]; omega
            have h0' : (sk == 0) = false := by simpa using h0
            have h1' : (sk == 1) = false := by simpa using h1k
            have h2' : (sk == 2) = false := by simpa using h2k
            go_wp2
            clear u0 u1 u2 u3 u4 u5 u6 u7 u8 u9 u10 u11 u12 u13 u14 u15
            obtain ⟨w3, hw3⟩ : ∃ w3, w3 = wr.alloc (.cells #[.int .i64 sk, .int .i64 si, .int .i64 sa, .int .i64 sn, .string sd, .int .i64 k, .int .i64 l, .int .i64 z, .int .i64 a0, .int .i64 b0, .int .i64 c0, .int .i64 d0, .int .i64 e0, .int .i64 f0, .int .i64 s0, .int .i64 t0] 35) := ⟨_, rfl⟩
            have HV3 : Hid (SV W p B w3) := by rw [hw3]; exact hid (HV.out.next (below_alloc wr _))
            rw [← hw3]
            clear hw3
            go_roundw
            case rel => exact ⟨i + 1, B, by go_num, by omega, HV3.out, HI.out⟩
            case measure => simp only [intOf]; omega
          · have hlt : decide ((i : Int) < (l.length : Int)) = false := by simp; omega
            clear HT
            go_wp2
            have HA : Hid (AR W p wr.heap.size B [] (wr.alloc (.cells (List.replicate 40 (Value.bool false)).toArray 51))) := hid (AR.new HV.out)
            obtain ⟨g, hg⟩ : ∃ g, g = wr.heap.size := ⟨_, rfl⟩
            rw [← hg] at HA ⊢
            go_loopw [10, 11] (fun nv iv wr => ∃ (i : Nat) (L : List Nat), iv = .int .i64 (i : Int) ∧ nv = .int .i64 (L.length : Int) ∧ 1 ≤ i ∧ i ≤ 4 ∧ Up B i 0 L ∧ AR W p g B L wr) (fun _ iv _ => 4 - (intOf iv).toNat)
            case atStart => exact ⟨1, [], rfl, rfl, by decide, by decide, Up.none B, HA.out⟩
            case round =>
              clear HA HV hg
              obtain ⟨i, L, rfl, rfl, hi1, hi4, hU, hA⟩ := hrel
              have HU := hid hU
              have HA := hid hA
              clear hU hA
              by_cases hlt : i < 4
              · have hd4 : decide ((i : Int) < 4) = true := by simp; omega
                go_wp2
                clear hd4
                go_loopw [10, 12] (fun nv kv wr => ∃ (k : Nat) (L : List Nat), kv = .int .i64 (k : Int) ∧ nv = .int .i64 (L.length : Int) ∧ k ≤ 4166 ∧ Up B i k L ∧ AR W p g B L wr) (fun _ kv _ => 4166 - (intOf kv).toNat)
                case atStart => exact ⟨0, L, rfl, rfl, by decide, HU.out, HA.out⟩
                case round =>
                  clear HU HA
                  obtain ⟨k, L, rfl, rfl, hk, hU, hA⟩ := hrel
                  have HU := hid hU
                  have HA := hid hA
                  clear hU hA
                  by_cases hkl : k < 4166
                  · obtain ⟨b, hb⟩ : ∃ b, b = blk sG B (nd sG B i) k := ⟨_, rfl⟩
                    have hb40 : b < 40 := by rw [hb]; exact blk_lt s_ok B _ k
                    have K : Hid (Calls Tryz.prog 19 #[.pointer (some ⟨p, 0, none⟩), .int .i64 (i : Int), .int .i64 (k : Int)] wr fun e w' => e = .returned (.tuple #[.int .i64 (b : Int), .int .i64 0]) ∧ Below wr.heap.size wr w') := by
                      obtain ⟨q, cap, m, hv, _⟩ := HA.out.vi
                      rw [hb]
                      exact hid (at_ok (w := wr) (i : Int) k hkl (HI.out.ne i (show i < sG.z from hlt)) hv)
                    have HBB := hid hb
                    clear hb
                    by_cases b0 : b = 0
                    · subst b0
                      go_wp2_with (go_at_call 19; refine K.out.mono ?_; rintro e w5 ⟨rfl, hb5⟩; have HA5 := hid (HA.out.next hb5); clear hb5)
                      go_roundw
                      case rel => exact ⟨k + 1, L, by go_num, rfl, by omega, HU.out.skip, HA5.out⟩
                      case measure => simp only [intOf]; omega
                    · have HN := hid (HU.out.new HI.out hlt hkl (by rw [← HBB.out]; exact b0))
                      have hseen : decide (b ∈ L) = false := by rw [HBB.out]; exact decide_eq_false HN.out
                      have bp : 0 < b := by omega
                      have hLb : L.length ≤ 17 := Nat.le_trans (HU.out.cnt HI.out (.inl ⟨hlt, hk⟩)) (cnt_le _ _ _)
                      go_wp2_with (go_at_call 19; refine K.out.mono ?_; rintro e w5 ⟨rfl, hb5⟩; have HA5 := hid (HA.out.next hb5); obtain ⟨hce, hfz⟩ := HA5.out.cell hb40; rw [hseen] at hce; clear hb5)
                      go_roundw
                      case rel => exact ⟨k + 1, b :: L, by go_num, by go_num, by omega, by rw [HBB.out]; exact HU.out.add HI.out hlt hkl (by rw [← HBB.out]; exact b0), HA5.out.set hb40⟩
                      case measure => simp only [intOf]; omega
                  · have hk2 : k = 4166 := by omega
                    subst hk2
                    go_wp2
                    go_roundw
                    case rel => exact ⟨i + 1, L, by go_num, rfl, by omega, by omega, HU.out.file hi1, HA.out⟩
                    case measure => simp only [intOf]; omega
              · have hi4' : i = 4 := by omega
                have hle := HU.out
                rw [hi4'] at hle
                have hle2 := hle.le HI.out
                clear hle
                have KF : Hid (Calls Tryz.prog 18 #[.pointer (some ⟨p, 0, none⟩)] wr fun e w' => e = .returned (.int .i64 (freN sG B)) ∧ Below wr.heap.size wr w') := by
                  obtain ⟨q, cap, m, hv, _⟩ := HA.out.vi
                  exact hid (free_any hv)
                obtain ⟨fr, hfr⟩ : ∃ fr, fr = freN sG B := ⟨_, rfl⟩
                have hfb : 0 ≤ fr ∧ fr ≤ 17 := by rw [hfr]; exact fr_bnd B
                rw [← hfr] at KF hle2
                clear hfr
                have hdl : decide ((L.length : Int) ≤ 17 - fr) = true := decide_eq_true hle2
                go_wp2_with (first
                  | (go_at_call 18; refine KF.out.mono ?_; rintro e w5 ⟨rfl, hb5⟩; have HA5 := hid (HA.out.next hb5); clear hb5)
                  | (go_at_call 9; refine (speaks_any _).mono ?_; rintro e w6 ⟨rfl, hb6⟩; have HA6 := hid (HA5.out.next hb6); clear hb6))
                go_ret
                exact ⟨rfl, HA6.out.bel⟩
end Go.Proofs.YtjnhibpebikkmaaGreat
