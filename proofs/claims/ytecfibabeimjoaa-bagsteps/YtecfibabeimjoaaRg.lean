import Derived.Test.YtecfibabeimjoaaRf
namespace Go.Proofs.Ytecfibabeimjoaa
open Go.RowKit Go.Maps Go.Sort Go.Shelf
set_option maxRecDepth 100000 in
set_option maxHeartbeats 4000000 in
theorem rdeliver_some {B1 g : Nat} {n : Int} {v : Value} {L : List Msg} (i : Nat) (hi : i < (dd L).length) (w : World) (h : RB B1 g w n v L) : Calls Try.prog 12 #[.pointer (some ⟨g, 0, none⟩), .int .i64 i] w fun e w' => e = .returned (.tuple #[valM (dd L)[i], .int .i64 0]) ∧ (∃ v', RB B1 g w' n v' (del (dd L)[i] L)) ∧ Only [g] w w' := by
  have h' := h.below (below_alloc w (.cells #[.int .i64 0, .int .i64 0, .string ByteArray.empty] 37))
  have HL := hid (rlist_any _ h')
  have hlen : (dd L).length ≤ 1024 := Nat.le_trans (dd_len_le L) h.le
  have hle := h.le
  obtain ⟨ao, cap, rfl⟩ := h.row.len
  have HRW := hid h
  have hg := lt_of_block h.cell
  have HM : Hid ((dd L)[i] ∈ L) := mem_dd.1 (List.getElem_mem hi)
  obtain ⟨x, hx⟩ : ∃ x, x = (dd L)[i] := ⟨_, rfl⟩
  have HX := hid hx
  rw [← hx] at HM ⊢
  clear h h' hx
  unfold valM
  go_enter Try.func12, Try.ntmps12
  go_wp2_with (go_at_call 21; fail)
  refine (HL.out).mono ?_
  rintro e w2 ⟨v2, rfl, hL2, hb2⟩
  obtain ⟨gb, cap2, rfl, hc1, hc2, hbs, hgl, c0, c1, c2⟩ := hL2.cellsAt i hi
  rw [← HX.out] at c0 c1 c2
  have HV2 := hid (var_a hb2)
  have HB0 := hid (below_alloc w (.cells #[.int .i64 0, .int .i64 0, .string ByteArray.empty] 37))
  have HB2 := hid ((below_alloc _ _).next hb2)
  have HC2 := hid ((HB2.out.block _ hg).trans HRW.out.cell)
  obtain ⟨p0, p1⟩ := two_cells53 HC2.out
  have hg2 := lt_of_block HC2.out
  have HC0 := hid c0
  have HC1 := hid c1
  have HCC2 := hid c2
  unfold maxLen at hc2
  obtain ⟨l, hl⟩ : ∃ l, l = dd L := ⟨_, rfl⟩
  rw [← hl] at hi hlen hc1 ⊢
  clear hL2 hb2 HL HX hl
  go_wp2
  clear p0 p1 c0 c1 c2
  have hdec : decide (l.length ≤ i) = false := decide_eq_false (by omega)
  simp only [hdec, Bool.or_false]
  clear hdec
  go_loopw [7, 8, 27] (fun rv fd j wr => ∃ q : Nat, j = .int .i64 q ∧ q ≤ L.length ∧ fd = .bool (thB x (L.take q)) ∧ LR w2.heap.size wr rv (del x (L.take q)) ∧ Below w2.heap.size w2 wr) (fun _ _ j _ => L.length - (intOf j).toNat)
  case atStart => exact ⟨0, rfl, Nat.zero_le _, rfl, LR.nil _ _, Below.refl _ _⟩
  case round =>
    obtain ⟨q, rfl, hq, rfl, hLq, hBq⟩ := hrel
    have HLq := hid hLq
    have HBq := hid hBq
    clear hLq hBq
    by_cases hqk : q < L.length
    · obtain ⟨gr, cap5', e, hr1, hr2, hrs, hrl, c0, c1, c2⟩ := ((HRW.out.row.below HB2.out).below HBq.out).cellsAt q hqk
      cases e
      have HT := hid (take_snocL L q hqk)
      obtain ⟨y, hy⟩ : ∃ y, y = L[q] := ⟨_, rfl⟩
      rw [← hy] at c0 c1 c2 HT
      clear hy
      have z0 := (HBq.out.cell (p := ⟨gb, i * 3, none⟩) hgl).trans HC0.out
      have z1 := (HBq.out.cell (p := ⟨gb, i * 3 + 1, none⟩) hgl).trans HC1.out
      have z2 := (HBq.out.cell (p := ⟨gb, i * 3 + 2, none⟩) hgl).trans HCC2.out
      have hgx : gb < wr.heap.size := Nat.lt_of_lt_of_le hgl HBq.out.size
      have HTT : Hid (thB x (L.take (q + 1)) = (thB x (L.take q) || eqB y x)) := by
        show _ = _
        rw [HT.out, thB_snoc]
      have HF := hid (thB_iff x (L.take q))
      have HEQ := hid (eqB_iff y x)
      have HRL : Hid ((del x (L.take q)).length ≤ 1024) := by
        show _ ≤ _
        have h1 := (del_sub x (L.take q)).length_le
        rw [List.length_take] at h1
        omega
      have HL5 := hid (HLq.out.below (below_alloc wr (.cells #[.int .i64 y.f, .int .i64 y.t, .string y.s] 37)))
      have HB5 := hid (HBq.out.next (below_alloc wr (.cells #[.int .i64 y.f, .int .i64 y.t, .string y.s] 37)))
      obtain ⟨t, ht⟩ : ∃ t, t = thB x (L.take q) := ⟨_, rfl⟩
      rw [← ht] at HTT HF ⊢
      unfold maxLen at hr2
      unfold eqB at HTT HEQ
      clear ht
      cases t with
      | true =>
        have HDT : Hid (del x (L.take (q + 1)) = del x (L.take q) ++ [y]) := by
          show _ = _
          rw [HT.out, del_append_in _ (HF.out.1 rfl)]
        go_wp2
        go_quiet ((fail))
        go_wp2_with (first
          | (at_builtin; refine push_ref2 rfl (.tmp 41) (.tmp 43) rfl w2.heap.size (wr.heap.size + 1) _ _ y.f y.t y.s rfl rfl (by show _ = (wr.alloc _).heap.size; simp) (HL5.out.below ⟨rfl, rfl, rfl, Nat.le_refl _, fun _ _ => rfl⟩) (by have := HRL.out; omega) HB5.out.size ?_; intro v7 w7 hL7 hb7 _))
        go_roundw
        case rel => exact ⟨q + 1, by go_num, by omega, by rw [HTT.out]; rfl, by rw [HDT.out]; exact hL7, HB5.out.trans ⟨hb7.os, hb7.tape, hb7.output, hb7.size, hb7.block⟩⟩
        case measure => simp [intOf]; omega
      | false =>
        cases a1 : (y.f == x.f) with
        | false =>
          have HDT : Hid (del x (L.take (q + 1)) = del x (L.take q) ++ [y]) := by
            show _ = _
            have hyx : y ≠ x := fun e => by have := HEQ.out.2 e; rw [a1] at this; simp at this
            have hxt : x ∉ L.take q := fun e => by have := HF.out.2 e; simp at this
            rw [HT.out, del_append_not _ hxt, del_neg hyx, del_not hxt]; rfl
          rw [a1] at HTT
          go_wp2
          go_quiet ((fail))
          go_wp2_with (first
            | (at_builtin; refine push_ref2 rfl (.tmp 41) (.tmp 43) rfl w2.heap.size (wr.heap.size + 1) _ _ y.f y.t y.s rfl rfl (by show _ = (wr.alloc _).heap.size; simp) (HL5.out.below ⟨rfl, rfl, rfl, Nat.le_refl _, fun _ _ => rfl⟩) (by have := HRL.out; omega) HB5.out.size ?_; intro v7 w7 hL7 hb7 _))
          go_roundw
          case rel => exact ⟨q + 1, by go_num, by omega, by rw [HTT.out]; rfl, by rw [HDT.out]; exact hL7, HB5.out.trans ⟨hb7.os, hb7.tape, hb7.output, hb7.size, hb7.block⟩⟩
          case measure => simp [intOf]; omega
        | true =>
          cases a2 : (y.t == x.t) with
          | false =>
            have HDT : Hid (del x (L.take (q + 1)) = del x (L.take q) ++ [y]) := by
              show _ = _
              have hyx : y ≠ x := fun e => by have := HEQ.out.2 e; rw [a1, a2] at this; simp at this
              have hxt : x ∉ L.take q := fun e => by have := HF.out.2 e; simp at this
              rw [HT.out, del_append_not _ hxt, del_neg hyx, del_not hxt]; rfl
            rw [a1, a2] at HTT
            go_wp2
            go_quiet ((fail))
            go_wp2_with (first
              | (at_builtin; refine push_ref2 rfl (.tmp 41) (.tmp 43) rfl w2.heap.size (wr.heap.size + 1) _ _ y.f y.t y.s rfl rfl (by show _ = (wr.alloc _).heap.size; simp) (HL5.out.below ⟨rfl, rfl, rfl, Nat.le_refl _, fun _ _ => rfl⟩) (by have := HRL.out; omega) HB5.out.size ?_; intro v7 w7 hL7 hb7 _))
            go_roundw
            case rel => exact ⟨q + 1, by go_num, by omega, by rw [HTT.out]; rfl, by rw [HDT.out]; exact hL7, HB5.out.trans ⟨hb7.os, hb7.tape, hb7.output, hb7.size, hb7.block⟩⟩
            case measure => simp [intOf]; omega
          | true =>
            cases a3 : (y.s.toList == x.s.toList) with
            | false =>
              have HDT : Hid (del x (L.take (q + 1)) = del x (L.take q) ++ [y]) := by
                show _ = _
                have hyx : y ≠ x := fun e => by have := HEQ.out.2 e; rw [a1, a2, a3] at this; simp at this
                have hxt : x ∉ L.take q := fun e => by have := HF.out.2 e; simp at this
                rw [HT.out, del_append_not _ hxt, del_neg hyx, del_not hxt]; rfl
              rw [a1, a2, a3] at HTT
              go_wp2
              go_quiet ((fail))
              go_wp2_with (first
                | (at_builtin; refine push_ref2 rfl (.tmp 41) (.tmp 43) rfl w2.heap.size (wr.heap.size + 1) _ _ y.f y.t y.s rfl rfl (by show _ = (wr.alloc _).heap.size; simp) (HL5.out.below ⟨rfl, rfl, rfl, Nat.le_refl _, fun _ _ => rfl⟩) (by have := HRL.out; omega) HB5.out.size ?_; intro v7 w7 hL7 hb7 _))
              go_roundw
              case rel => exact ⟨q + 1, by go_num, by omega, by rw [HTT.out]; rfl, by rw [HDT.out]; exact hL7, HB5.out.trans ⟨hb7.os, hb7.tape, hb7.output, hb7.size, hb7.block⟩⟩
              case measure => simp [intOf]; omega
            | true =>
              have HDT : Hid (del x (L.take (q + 1)) = del x (L.take q)) := by
                show _ = _
                have hyx : y = x := HEQ.out.1 (by rw [a1, a2, a3]; rfl)
                have hxt : x ∉ L.take q := fun e => by have := HF.out.2 e; simp at this
                rw [HT.out, del_append_not _ hxt, hyx, del_pos, del_not hxt, List.append_nil]
              rw [a1, a2, a3] at HTT
              go_wp2
              go_quiet ((fail))
              go_wp2
              go_roundw
              case rel => exact ⟨q + 1, by go_num, by omega, by rw [HTT.out]; rfl, by rw [HDT.out]; exact HL5.out.below ⟨rfl, rfl, rfl, Nat.le_refl _, fun _ _ => rfl⟩, ⟨HB5.out.os, HB5.out.tape, HB5.out.output, HB5.out.size, HB5.out.block⟩⟩
              case measure => simp [intOf]; omega
    · have hqe : q = L.length := by omega
      subst hqe
      rw [List.take_length] at HLq
      obtain ⟨ao5, cap5, h5⟩ := HLq.out.len
      subst h5
      have HCq := hid ((HBq.out.block _ hg2).trans HC2.out)
      obtain ⟨p0, p1⟩ := two_cells53 HCq.out
      have hfr := frees HCq.out
      have hgq := lt_of_block HCq.out
      have HVq := hid ((HBq.out.block _ (lt_of_block HV2.out)).trans HV2.out)
      obtain ⟨r0, r1, r2⟩ := three_cells HVq.out
      have hfr2 := frees HVq.out
      have hrq := lt_of_block HVq.out
      have z0 := (HBq.out.cell (p := ⟨gb, i * 3, none⟩) hgl).trans HC0.out
      have z1 := (HBq.out.cell (p := ⟨gb, i * 3 + 1, none⟩) hgl).trans HC1.out
      have z2 := (HBq.out.cell (p := ⟨gb, i * 3 + 2, none⟩) hgl).trans HCC2.out
      have hgx : gb < wr.heap.size := Nat.lt_of_lt_of_le hgl HBq.out.size
      have hne : g ≠ w.heap.size := by omega
      have hne2 : gb ≠ g := by
        have := HB0.out.size
        have : (w.alloc (.cells #[.int .i64 0, .int .i64 0, .string ByteArray.empty] 37)).heap.size ≤ gb := hbs
        omega
      go_wp2
      have hLEN : (del x L).length ≤ 1024 := Nat.le_trans (del_sub x L).length_le hle
      have hlay := HRW.out.lay HB2.out HBq.out HB2.out.size HLq.out hLEN
      have hO := set3 (w := wr.setCell ⟨g, 1, none⟩ (.slice ao5 (del x L).length cap5)) (g := w.heap.size) (fp := [w.heap.size]) (by simp) (.int .i64 x.f) (.int .i64 x.t) (.string x.s)
      have hO1 : Only [g] wr (wr.setCell ⟨g, 1, none⟩ (.slice ao5 (del x L).length cap5)) := Only.setCell _ (by simp)
      have hw2 : w.heap.size < w2.heap.size := lt_of_block HV2.out
      refine bodyPost_ret (v := .tuple #[.agg #[.int .i64 x.f, .int .i64 x.t, .string x.s], .int .i64 0]) (by simp [results, Try.results12, go_sem, r0, r1, r2]) rfl ⟨rfl, ⟨.slice ao5 (del x L).length cap5, ?_⟩, ?_⟩
      · refine ⟨(hO.block g (lt_of_block (two_set1 HCq.out)) (by simp; omega)).trans (two_set1 HCq.out), ?_, HRW.out.lo, Nat.le_trans hlay.1.hi hO.size, hLEN⟩
        refine LR.base (LR.only (LR.only HLq.out hO1 (fun y hy => ?_)) hO (fun y hy => ?_)) (Nat.le_trans HRW.out.hi HB2.out.size)
        · simp at hy; omega
        · simp at hy; omega
      · refine ⟨hO.os.trans hlay.2.os, hO.tape.trans hlay.2.tape, hO.output.trans hlay.2.output, Nat.le_trans hlay.2.size hO.size, fun k hk hn => (hO.block k (Nat.lt_of_lt_of_le hk hlay.2.size) (by simp; omega)).trans (hlay.2.block k hk hn)⟩
end Go.Proofs.Ytecfibabeimjoaa
