import Derived.Test.YtjnhibpebikkmaaGreatVa
namespace Go.Proofs.YtjnhibpebikkmaaGreat
open Go.RowKit Go.Maps Go.Shelf

/-- a row of numbers of the call's own -/
def IRow (base : Nat) (w : World) (v : Value) (l : List Int) : Prop := w.ownsRow base 3 1 v l.length (l.map (Value.int .i64))
theorem infoR3 : (Tryz.prog.info? 3).map (fun i => (i.zero, i.size, i.bytes)) = some (some (.int .i64 0), 1, 8) := by kernel_rfl
theorem IRow.below {base : Nat} {w w' : World} {v : Value} {l : List Int} (h : IRow base w v l) (k : Below w.heap.size w w') : IRow base w' v l := by
  obtain ⟨e1, e2 | ⟨x, cap, cur, e3, e4, e5, e6⟩⟩ := h
  · exact ⟨e1, .inl e2⟩
  · exact ⟨e1, .inr ⟨x, cap, cur, e3, e4, (k.block x (lt_of_block e5)).trans e5, e6⟩⟩
theorem IRow.own {base : Nat} {w : World} {v : Value} {l : List Int} (h : IRow base w v l) : ∀ x, v.ownBlock = some x → base ≤ x := by
  obtain ⟨e1, ⟨rfl, _⟩ | ⟨x, cap, cur, rfl, e4, e5, e6⟩⟩ := h
  · intro x hx; cases hx
  · intro y hy; cases hy; exact e4
theorem IRow.lie {base : Nat} {w : World} {v : Value} {l : List Int} (h : IRow base w v l) : ILie w v l := by
  rcases h.2 with ⟨rfl, hz⟩ | ⟨gb, cap, cur, rfl, hbase, hgb, r1, r2, r3, r4⟩
  · have : l = [] := List.eq_nil_of_length_eq_zero hz
    subst this
    exact ⟨none, 0, rfl, Nat.le_refl _, by decide, fun i hi => by simp at hi⟩
  · refine ⟨_, cap, rfl, r1, r2, fun i hi => ⟨gb, 0, rfl, lt_of_block hgb, ?_⟩⟩
    have e1 : cur.toList[i]? = (l.map (Value.int .i64))[i]? := by rw [← r4, List.getElem?_take_of_lt (by omega)]
    rw [Array.getElem?_toList, List.getElem?_map, List.getElem?_eq_getElem hi] at e1
    rw [Nat.zero_add]
    simp [World.cell?, hgb, e1]
theorem pushI {ops : Array Oper} {rest : List Oper} {o : Oper} {a : Act} {Q : Exit → Act → World → Prop} {w0 : World} (hgd : o.guard = none) (s x : Operand)
    (ho : o.op = .call { callee := .builtin .append, args := #[s, x], argTypes := #[57, 57] }) (B1 bb : Nat) (v : Value) (T : List Int) (y : Int)
    (hs : a.eval s = v) (hx : a.eval x = .slice (some ⟨bb, 0, none⟩) 1 1) (hbb : bb = w0.heap.size) (hA : IRow B1 w0 v T) (hn : T.length ≤ 4166) (hbase : B1 ≤ w0.heap.size)
    (h : ∀ v' w', IRow B1 w' v' (T ++ [y]) → Below B1 w0 w' → wpList Tryz.prog ops Q rest (a.put o.dst v') w') :
    wpList Tryz.prog ops Q (o :: rest) a (w0.alloc (.cells #[.int .i64 y] 3)) := by
  subst hbb
  obtain ⟨i0, hi, hz0, hz1, hz2⟩ := info_parts infoR3
  have ho2 := hA.own
  refine wpList_append_own _ hgd s x 57 ho B1 3 i0 (.int .i64 0) 1 8 Tryz.underlying57 hi hz0 hz1 hz2 rfl (by decide) v T.length (T.map (Value.int .i64)) hs (World.ownsRow.alloc hA _) ⟨w0.heap.size, 0, none⟩ 1 1 [.int .i64 y] hx rfl (by
      intro j u hu
      match j, hu with
      | 0, hu => simp at hu; subst hu; simp [Addr.add]
      | j + 1, hu => simp at hu) (by intro u hu; simp at hu; subst hu; rfl) (by unfold maxLen; omega) (by omega) (by simp; omega) ?_
  intro v' w' hown hg _
  refine h v' w' ?_ ?_
  · unfold IRow
    rw [List.map_append, List.length_append]
    exact hown
  · refine (below_alloc w0 (.cells #[.int .i64 y] 3)).mono hbase |>.trans ⟨hg.os, hg.tape, hg.output, hg.size, fun k hk => hg.block k ?_ ?_⟩
    · simp; omega
    · intro e
      have := ho2 k e.symm
      omega
/-- while the blocks of files are counted: the view, all of it below g -/
structure CW (W : World) (p g : Nat) (B : List ByteArray) (wr : World) : Prop where
  vi : ∃ q cap m, VI sG p q cap m wr sF B ∧ p < g ∧ q < g ∧ m < g
  bel : Below W.heap.size W wr
  gW : W.heap.size ≤ g
  gl : g ≤ wr.heap.size
theorem CW.new {W : World} {p : Nat} {B : List ByteArray} {wr : World} (h : SV W p B wr) : CW W p wr.heap.size B wr := by
  obtain ⟨q, cap, m, hv, _, _⟩ := h.ex
  exact ⟨⟨q, cap, m, hv, hv.pl, hv.ql, hv.ml⟩, h.bel, h.bel.size, Nat.le_refl _⟩
theorem CW.over {W : World} {p g : Nat} {B : List ByteArray} {wr w' : World} (h : CW W p g B wr) (k : Below g wr w') : CW W p g B w' := by
  obtain ⟨q, cap, m, hv, h1, h2, h3⟩ := h.vi
  exact ⟨⟨q, cap, m, hv.same (k.block p h1) (k.block q h2) (k.block m h3), h1, h2, h3⟩, h.bel.trans (k.mono h.gW), h.gW, Nat.le_trans h.gl k.size⟩
theorem CW.next {W : World} {p g : Nat} {B : List ByteArray} {wr w' : World} (h : CW W p g B wr) (k : Below wr.heap.size wr w') : CW W p g B w' := h.over (k.mono h.gl)
set_option maxRecDepth 100000 in
set_option maxHeartbeats 8000000 in
theorem costs_walk (vs : Value) (l : List Stp) (W : World) (hl : TLie W vs l) : Calls Tryz.prog 7 #[vs] W fun e w' => e = .returned (.bool true) ∧ Below W.heap.size W w' := by
  obtain ⟨ao, cap', rfl, hlc, hcm, hcell⟩ := hl
  have HT := hid hcell
  unfold maxLen at hcm
  clear hcell
  have q1 := q26n
  have q2 := q26y
  go_enter Tryz.func7, Tryz.ntmps7
  go_wp2_with (go_at_call 15; fail)
  refine (little_any _).mono ?_
  rintro e w1 ⟨rfl, hb1⟩
  have HB1 := hid hb1
  clear hb1
  go_wp2_with (go_at_call 16; fail)
  obtain ⟨w2, hw2⟩ : ∃ w2, w2 = w1.alloc (.cells #[.int .i64 40, .int .i64 20, .int .i64 4] 23) := ⟨_, rfl⟩
  have hX2 : w2.heap[w1.heap.size]? = some (.cells #[.int .i64 40, .int .i64 20, .int .i64 4] 23 (0, 0)) := by rw [hw2]; exact box_at _ _
  have HB2 : Hid (Below W.heap.size W w2) := by rw [hw2]; exact hid (HB1.out.next (below_alloc w1 _))
  rw [← hw2]
  clear hw2
  have hc2 : w2.cell? ⟨w1.heap.size, 0, none⟩ = some (.int .i64 40) ∧ w2.cell? ⟨w1.heap.size, 1, none⟩ = some (.int .i64 20) ∧ w2.cell? ⟨w1.heap.size, 2, none⟩ = some (.int .i64 4) := by simp [World.cell?, hX2]
  have hlt2 := lt_of_block hX2
  have HX2 := hid hX2
  clear hX2
  go_region_held3 (fun w' => w'.cell? ⟨w1.heap.size, 0, none⟩ = some (.int .i64 40) ∧ w'.cell? ⟨w1.heap.size, 1, none⟩ = some (.int .i64 20) ∧ w'.cell? ⟨w1.heap.size, 2, none⟩ = some (.int .i64 4)) (first | exact hc2 | exact hc3 | exact hc4 | go_keep) (first
    | (go_at_call 16; refine (blank_any _).mono ?_; rintro e w3 ⟨v3, rfl, hs3, hb3⟩
       have HB3 : Hid (Below w2.heap.size w2 w3) := hid ⟨hb3.os, hb3.tape, hb3.output, hb3.size, hb3.block⟩
       have hX3 := (HB3.out.block _ hlt2).trans HX2.out
       have hc3 : w3.cell? ⟨w1.heap.size, 0, none⟩ = some (.int .i64 40) ∧ w3.cell? ⟨w1.heap.size, 1, none⟩ = some (.int .i64 20) ∧ w3.cell? ⟨w1.heap.size, 2, none⟩ = some (.int .i64 4) := by simp [World.cell?, hX3]
       have HS3 : SRow W.heap.size w3 v3 sF := by
         obtain ⟨e1, e2 | ⟨x, cp, cur, e3, e4, e5⟩⟩ := hs3
         · exact ⟨e1, .inl e2⟩
         · exact ⟨e1, .inr ⟨x, cp, cur, e3, Nat.le_trans HB2.out.size e4, e5⟩⟩
       obtain ⟨ao', cp, hv3, hnew⟩ := sv_new2 (HB2.out.next HB3.out) HS3
       subst hv3
       have HNEW := hid hnew
       have HX3 := hid hX3
       clear hb3 hX3 hs3 HS3 hnew)
    | (go_at_call 8; refine (HNEW.out _ ⟨rfl, rfl, rfl, Nat.le_refl _, fun _ _ => rfl⟩).mono ?_; rintro e w4 ⟨p, rfl, hv4, hb4⟩
       have HV4 := hid hv4
       have hc4 : w4.cell? ⟨w1.heap.size, 0, none⟩ = some (.int .i64 40) ∧ w4.cell? ⟨w1.heap.size, 1, none⟩ = some (.int .i64 20) ∧ w4.cell? ⟨w1.heap.size, 2, none⟩ = some (.int .i64 4) := by
         have hX4 := (hb4.block _ (lt_of_block HX3.out)).trans HX3.out
         simp [World.cell?, hX4]
       clear hv4 hb4))
  clear hc2 hc3 HX2 HX3 hlt2 HB2 HB3 HNEW HB1
  by_cases h100 : 60 < l.length
  · have h1 : decide (60 < (l.length : Int)) = true := by simp; omega
    clear h100 HT
    go_wp2_with (go_at_call 9; fail)
    refine (speaks_any _).mono ?_
    rintro e w5 ⟨rfl, hb5⟩
    have HB5 := hid (HV4.out.next hb5)
    clear hb5
    go_wp2
    go_ret
    exact ⟨rfl, HB5.out.bel⟩
  · have h1 : decide (60 < (l.length : Int)) = false := by simp; omega
    clear hc4
    go_wp2
    go_loopw [6] (fun iv wr => ∃ (i : Nat) (B : List ByteArray), iv = .int .i64 (i : Int) ∧ 1 ≤ i ∧ i ≤ 4 ∧ SV W p B wr ∧ Emp sG B) (fun iv _ => 4 - (intOf iv).toNat)
    case atStart => exact ⟨1, sF, rfl, by decide, by decide, HV4.out, s_emp⟩
    case round =>
      clear HV4
      obtain ⟨i, B, rfl, hi1, hi4, hV, hE⟩ := hrel
      have HV := hid hV
      have HE := hid hE
      clear hV hE
      by_cases hlt : i < 4
      · have K := hid (sv_set3 i hlt HV.out)
        simp only [Ino.v, sN] at K
        go_wp2_with (go_at_call 13; refine K.out.mono ?_; rintro e w5 ⟨rfl, hv5⟩; have HV5 := hid hv5; clear hv5)
        go_roundw
        case rel => exact ⟨i + 1, _, by go_num, by omega, by omega, HV5.out, (HE.out.put (show i < sG.z from hlt) s_c sN_at).1⟩
        case measure => simp only [intOf]; omega
      · have HI := hid HE.out.tb
        clear HE
        have hd4 : decide ((i : Int) < 4) = false := by simp; omega
        go_wp2
        clear hd4 hlt hi1 hi4
        go_loopw [55] (fun iv wr => ∃ (i : Nat) (B : List ByteArray), iv = .int .i64 (i : Int) ∧ i ≤ l.length ∧ SV W p B wr ∧ TB sG B) (fun iv _ => l.length - (intOf iv).toNat)
        case atStart => exact ⟨0, B, rfl, Nat.zero_le _, HV.out, HI.out⟩
        case round =>
          clear HV HI
          obtain ⟨i, B, rfl, hi, hV, hI⟩ := hrel
          have HV := hid hV
          have HI := hid hI
          clear hV hI
          by_cases hil : i < l.length
          · have hlt : decide ((i : Int) < (l.length : Int)) = true := by simp; omega
            obtain ⟨gb, off, e, hgl, hst⟩ := HT.out i hil
            subst e
            replace hst := hst.same (HV.out.bel.block gb hgl)
            have hgr : gb < wr.heap.size := Nat.lt_of_lt_of_le hgl HV.out.bel.size
            obtain ⟨s, hs⟩ : ∃ s, s = l[i] := ⟨_, rfl⟩
            rw [← hs] at hst
            clear hs hlt
            obtain ⟨sk, si, sa, sn, sd, ⟨k, l, z, a0, b0, c0, d0, e0, f0, s0, t0⟩⟩ := s
            unfold SAt at hst
            simp only at hst
            obtain ⟨u0, u1, u2, u3, u4, u5, u6, u7, u8, u9, u10, u11, u12, u13, u14, u15⟩ := hst
            rw [Nat.add_zero] at u0
            by_cases h0 : sk = 0
            · as_aux_lemma =>
              subst h0
              go_wp2_with (go_at_call 11; fail)
              clear u0 u1 u2 u3 u4 u5 u6 u7 u8 u9 u10 u11 u12 u13 u14 u15
              obtain ⟨w3, hw3⟩ : ∃ w3, w3 = wr.alloc (.cells #[.int .i64 0, .int .i64 si, .int .i64 sa, .int .i64 sn, .string sd, .int .i64 k, .int .i64 l, .int .i64 z, .int .i64 a0, .int .i64 b0, .int .i64 c0, .int .i64 d0, .int .i64 e0, .int .i64 f0, .int .i64 s0, .int .i64 t0] 35) := ⟨_, rfl⟩
              have HV3 : Hid (SV W p B w3) := by rw [hw3]; exact hid (HV.out.next (below_alloc wr _))
              rw [← hw3]
              clear hw3
              refine (sv_wr _ _ _ HV3.out).mono ?_
              rintro e w6 ⟨r, B6, rfl, hw6, hv6⟩
              have HV6 := hid hv6
              have HI6 := hid (hw6.tb HI.out)
              clear hw6 hv6 HV3
              go_wp2
              go_roundw
              case rel => exact ⟨i + 1, B6, by go_num, by omega, HV6.out, HI6.out⟩
              case measure => simp only [intOf]; omega
            by_cases h1k : sk = 1
            · as_aux_lemma =>
              subst h1k
              go_wp2_with (go_at_call 11; fail)
              clear u0 u1 u2 u3 u4 u5 u6 u7 u8 u9 u10 u11 u12 u13 u14 u15
              obtain ⟨w3, hw3⟩ : ∃ w3, w3 = wr.alloc (.cells #[.int .i64 1, .int .i64 si, .int .i64 sa, .int .i64 sn, .string sd, .int .i64 k, .int .i64 l, .int .i64 z, .int .i64 a0, .int .i64 b0, .int .i64 c0, .int .i64 d0, .int .i64 e0, .int .i64 f0, .int .i64 s0, .int .i64 t0] 35) := ⟨_, rfl⟩
              have HV3 : Hid (SV W p B w3) := by rw [hw3]; exact hid (HV.out.next (below_alloc wr _))
              rw [← hw3]
              clear hw3
              refine (sv_wr _ _ _ HV3.out).mono ?_
              rintro e w6 ⟨r, B6, rfl, hw6, hv6⟩
              have HV6 := hid hv6
              have HI6 := hid (hw6.tb HI.out)
              clear hw6 hv6 HV3
              go_wp2
              go_roundw
              case rel => exact ⟨i + 1, B6, by go_num, by omega, HV6.out, HI6.out⟩
              case measure => simp only [intOf]; omega
            by_cases h2k : sk = 2
            · as_aux_lemma =>
              subst h2k
              go_wp2_with (go_at_call 12; fail)
              clear u0 u1 u2 u3 u4 u5 u6 u7 u8 u9 u10 u11 u12 u13 u14 u15
              obtain ⟨w3, hw3⟩ : ∃ w3, w3 = wr.alloc (.cells #[.int .i64 2, .int .i64 si, .int .i64 sa, .int .i64 sn, .string sd, .int .i64 k, .int .i64 l, .int .i64 z, .int .i64 a0, .int .i64 b0, .int .i64 c0, .int .i64 d0, .int .i64 e0, .int .i64 f0, .int .i64 s0, .int .i64 t0] 35) := ⟨_, rfl⟩
              have HV3 : Hid (SV W p B w3) := by rw [hw3]; exact hid (HV.out.next (below_alloc wr _))
              rw [← hw3]
              clear hw3
              refine (sv_ct _ _ HV3.out).mono ?_
              rintro e w6 ⟨r, B6, rfl, hw6, hv6⟩
              have HV6 := hid hv6
              have HI6 := hid (hw6.tb HI.out)
              clear hw6 hv6 HV3
              go_wp2
              go_roundw
              case rel => exact ⟨i + 1, B6, by go_num, by omega, HV6.out, HI6.out⟩
              case measure => simp only [intOf]; omega
            have h0' : (sk == 0) = false := by simpa using h0
            have h1' : (sk == 1) = false := by simpa using h1k
            have h2' : (sk == 2) = false := by simpa using h2k
            go_wp2
            clear u0 u1 u2 u3 u4 u5 u6 u7 u8 u9 u10 u11 u12 u13 u14 u15
            obtain ⟨w3, hw3⟩ : ∃ w3, w3 = wr.alloc (.cells #[.int .i64 sk, .int .i64 si, .int .i64 sa, .int .i64 sn, .string sd, .int .i64 k, .int .i64 l, .int .i64 z, .int .i64 a0, .int .i64 b0, .int .i64 c0, .int .i64 d0, .int .i64 e0, .int .i64 f0, .int .i64 s0, .int .i64 t0] 35) := ⟨_, rfl⟩
            have HV3 : Hid (SV W p B w3) := by rw [hw3]; exact hid (HV.out.next (below_alloc wr _))
            rw [← hw3]
            clear hw3
            go_roundw
            case rel => exact ⟨i + 1, B, by go_num, by omega, HV3.out, HI.out⟩
            case measure => simp only [intOf]; omega
          · have hlt : decide ((i : Int) < (l.length : Int)) = false := by simp; omega
            clear HT
            go_wp2
            obtain ⟨S, hS⟩ : ∃ S, S = ab sG B (nd sG B) := ⟨_, rfl⟩
            obtain ⟨g, hg⟩ : ∃ g, g = wr.heap.size := ⟨_, rfl⟩
            have HA : Hid (CW W p g B wr) := by rw [hg]; exact hid (CW.new HV.out)
            have HSS := hid hS
            clear hg hS HV
            have hv : Hid (Inv sG.z sG.da sG.n S) := by rw [HSS.out]; exact hid HI.out.ti.si.inv
            go_loopw [9, 10] (fun sv iv wr => ∃ (i : Nat), iv = .int .i64 (i : Int) ∧ sv = .int .i64 ((ts S i).length : Int) ∧ i ≤ 4 ∧ CW W p g B wr) (fun _ iv _ => 4 - (intOf iv).toNat)
            case atStart => exact ⟨0, rfl, rfl, by decide, HA.out⟩
            case round =>
              clear HA
              obtain ⟨i, rfl, rfl, hi4, hA⟩ := hrel
              have HA := hid hA
              clear hA
              by_cases hlt : i < 4
              · have hd4 : decide ((i : Int) < 4) = true := by simp; omega
                go_wp2
                clear hd4
                go_loopw [11, 12] (fun pv kv wr => ∃ (k : Nat), kv = .int .i64 (k : Int) ∧ k ≤ 4166 ∧ IRow g wr pv (prs S i k) ∧ CW W p g B wr) (fun _ kv _ => 4166 - (intOf kv).toNat)
                case atStart => exact ⟨0, rfl, by decide, ⟨rfl, .inl ⟨rfl, rfl⟩⟩, HA.out⟩
                case round =>
                  clear HA
                  obtain ⟨k, rfl, hk, hR, hA⟩ := hrel
                  have HA := hid hA
                  have HR := hid hR
                  clear hA hR
                  by_cases hkl : k < 4166
                  · obtain ⟨b, hb⟩ : ∃ b, b = blk sG B (nd sG B i) k := ⟨_, rfl⟩
                    have hb40 : b < 40 := by rw [hb]; exact blk_lt s_ok B _ k
                    have K : Hid (Calls Tryz.prog 19 #[.pointer (some ⟨p, 0, none⟩), .int .i64 (i : Int), .int .i64 (k : Int)] wr fun e w' => e = .returned (.tuple #[.int .i64 (b : Int), .int .i64 0]) ∧ Below wr.heap.size wr w') := by
                      obtain ⟨q, cap, m, hv, _⟩ := HA.out.vi
                      rw [hb]
                      exact hid (at_ok (w := wr) (i : Int) k hkl (HI.out.ti.ne i (show i < sG.z from hlt)) hv)
                    have HBB : Hid (b = vl S i (pth k)) := by rw [hb, HSS.out]; exact hid (blk_vl s_ok hkl)
                    clear hb
                    by_cases b0 : b = 0
                    · have HP : Hid (prs S i (k + 1) = prs S i k) := by
                        show (if vl S i (pth k) = 0 then _ else _) = _
                        rw [if_pos (by rw [← HBB.out]; exact b0)]
                      subst b0
                      go_wp2_with (go_at_call 19; refine K.out.mono ?_; rintro e w5 ⟨rfl, hb5⟩; have HA5 := hid (HA.out.next hb5); have HR5 := hid (HR.out.below hb5); clear hb5)
                      go_roundw
                      case rel => exact ⟨k + 1, by go_num, by omega, by rw [HP.out]; exact HR5.out, HA5.out⟩
                      case measure => simp only [intOf]; omega
                    · have HP : Hid (prs S i (k + 1) = prs S i k ++ [(k : Int)]) := hid (prs_add (by rw [← HBB.out]; exact b0))
                      have bp : 0 < b := by omega
                      have HL : Hid ((prs S i k).length ≤ 4166) := hid (Nat.le_trans (prs_len S i k) hk)
                      obtain ⟨T, hT⟩ : ∃ T, T = prs S i k := ⟨_, rfl⟩
                      rw [← hT] at HR HP HL
                      clear hT
                      go_wp2_with (first
                        | (go_at_call 19; refine K.out.mono ?_; rintro e w5 ⟨rfl, hb5⟩; have HA5 := hid (HA.out.next hb5); have HR5 := hid (HR.out.below hb5); have hs5 := HA5.out.gl; clear hb5)
                        | (at_builtin; refine pushI (w0 := w5) rfl (.tmp 100) (.tmp 102) rfl g w5.heap.size _ T (k : Int) rfl rfl rfl HR5.out HL.out hs5 ?_; intro v6 w6 hr6 hb6
                           have HR6 := hid hr6; have HA6 := hid (HA5.out.over hb6); clear hr6 hb6))
                      go_roundw
                      case rel => exact ⟨k + 1, by go_num, by omega, by rw [HP.out]; exact HR6.out, HA6.out⟩
                      case measure => simp only [intOf]; omega
                  · have hk2 : k = 4166 := by omega
                    subst hk2
                    have HT1 := hid (ts_add S i)
                    have HT2 := hid (ts_bnd hv.out (i + 1) (show i + 1 ≤ 4 by omega))
                    have HT3 := hid (ts_bnd hv.out i (show i ≤ 4 by omega))
                    have KC := hid (rcost_any _ _ wr HR.out.lie (by have := prs_len S i 4166; omega))
                    obtain ⟨c, hc⟩ : ∃ c, c = cosV (prs S i 4166) := ⟨_, rfl⟩
                    obtain ⟨ce, hce⟩ : ∃ c, c = cosE (prs S i 4166) := ⟨_, rfl⟩
                    rw [← hc, ← hce] at KC
                    rw [← hc] at HT1
                    have hcb : 0 ≤ c := by rw [hc]; unfold cosV; split <;> omega
                    have hn40 : sG.n = 40 := rfl
                    have hsm : c + ((ts S i).length : Int) ≤ 40 := by have := HT1.out; have := HT2.out; omega
                    obtain ⟨sm, hsmm⟩ : ∃ sm, sm = (ts S i).length := ⟨_, rfl⟩
                    rw [← hsmm] at hsm HT1 ⊢
                    clear hc hce hn40 hsmm
                    go_wp2_with (go_at_call 21; refine KC.out.mono ?_; rintro e w5 ⟨rfl, hw⟩; subst hw)
                    go_roundw
                    case rel => exact ⟨i + 1, by go_num, by rw [HT1.out], by omega, HA.out⟩
                    case measure => simp only [intOf]; omega
              · have hi4' : i = 4 := by omega
                subst hi4'
                have hcn := ts_cnt HI.out
                rw [← HSS.out] at hcn
                have KF : Hid (Calls Tryz.prog 18 #[.pointer (some ⟨p, 0, none⟩)] wr fun e w' => e = .returned (.int .i64 (17 - ((ts S 4).length : Int))) ∧ Below wr.heap.size wr w') := by
                  obtain ⟨q, cap, m, hv, _⟩ := HA.out.vi
                  have k := free_any hv
                  rw [s_fr, ← hcn] at k
                  exact hid k
                have HT3 := ts_bnd hv.out 4 (Nat.le_refl 4)
                have hn40 : sG.n = 40 := rfl
                rw [hn40] at HT3
                obtain ⟨sm, hsmm⟩ : ∃ sm, sm = (ts S 4).length := ⟨_, rfl⟩
                rw [← hsmm] at KF HT3 ⊢
                clear hsmm hcn hn40
                go_wp2_with (first
                  | (go_at_call 18; refine KF.out.mono ?_; rintro e w5 ⟨rfl, hb5⟩; have HA5 := hid (HA.out.next hb5); clear hb5)
                  | (go_at_call 9; refine (speaks_any _).mono ?_; rintro e w6 ⟨rfl, hb6⟩; have HA6 := hid (HA5.out.next hb6); clear hb6))
                go_ret
                exact ⟨rfl, HA6.out.bel⟩
end Go.Proofs.YtjnhibpebikkmaaGreat
