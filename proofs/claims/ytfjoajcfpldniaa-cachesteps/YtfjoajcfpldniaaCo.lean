import Derived.Test.YtfjoajcfpldniaaCn
namespace Go.Proofs.Ytfjoajcfpldniaa
open Go.RowKit Go.Maps

theorem dirty_nil (w : World) : Calls Try.prog 34 #[.pointer none] w fun e w' => e = .returned (.slice none 0 0) ∧ w' = w := by
  go_enter Try.func34, Try.ntmps34
  go_wp2_with (first
    | (go_at_call 31; refine (sorted_nil _ _).mono ?_; rintro e w1 ⟨rfl, hw⟩; have hw := hw.symm; subst hw)
    | (go_at_call 46; refine (delete_nil _ _).mono ?_; rintro e w1 ⟨rfl, hw⟩; have hw := hw.symm; subst hw))
  go_ret
  exact ⟨rfl, rfl⟩
theorem Dirty_nil (w : World) : Calls Try.prog 16 #[.pointer none] w fun e w' => e = .returned (.slice (some ⟨w.heap.size, 0, none⟩) 0 0) ∧ Below w.heap.size w w' := by
  go_enter Try.func16, Try.ntmps16
  go_wp2_with (first
    | (go_at_call 34; refine (dirty_nil _).mono ?_; rintro e w1 ⟨rfl, hw⟩; have hw := hw.symm; subst hw)
    | (go_at_call 33; refine (changes_nil _).mono ?_; rintro e w1 ⟨rfl, hb1⟩))
  go_ret
  exact ⟨rfl, hb1⟩
theorem Take_nil (w : World) : Calls Try.prog 23 #[.pointer none] w fun e w' => e = .returned (.slice (some ⟨w.heap.size, 0, none⟩) 0 0) ∧ Below w.heap.size w w' := by
  go_enter Try.func23, Try.ntmps23
  go_wp2_with (first
    | (go_at_call 34; refine (dirty_nil _).mono ?_; rintro e w1 ⟨rfl, hw⟩; have hw := hw.symm; subst hw))
  refine wp_loop_rounds 1 ?_
  rw [rounds_succ]
  go_wp2_with (first
    | (go_at_call 33; refine (changes_nil _).mono ?_; rintro e w1 ⟨rfl, hb1⟩))
  go_ret
  exact ⟨rfl, hb1⟩
/-- the frames of S are not dirty any longer -/
def clearL (L S : List Fr) : List Fr := L.map (fun x => if S.any (fun s => s.b == x.b) then { x with y := false } else x)
theorem clearL_nil (L : List Fr) : clearL L [] = L := by unfold clearL; simp
theorem clearL_b (L S : List Fr) : (clearL L S).map (·.b) = L.map (·.b) := by
  unfold clearL
  rw [List.map_map]
  apply List.map_congr_left
  intro x _
  show (if _ then _ else _ : Fr).b = x.b
  split <;> rfl
theorem clearL_a (L S : List Fr) : (clearL L S).map (·.a) = L.map (·.a) := by
  unfold clearL
  rw [List.map_map]
  apply List.map_congr_left
  intro x _
  show (if _ then _ else _ : Fr).a = x.a
  split <;> rfl
theorem fr_b {L : List Fr} (hn : (L.map (·.b)).Nodup) {x y : Fr} (hx : x ∈ L) (hy : y ∈ L) (e : x.b = y.b) : x = y := by
  induction L with
  | nil => cases hx
  | cons z L ih =>
    rw [List.map_cons, List.nodup_cons] at hn
    rcases List.mem_cons.1 hx with e1 | hx1
    · rcases List.mem_cons.1 hy with e2 | hy1
      · rw [e1, e2]
      · exact absurd (by rw [← e1, e]; exact List.mem_map_of_mem hy1) hn.1
    · rcases List.mem_cons.1 hy with e2 | hy1
      · exact absurd (by rw [← e2, ← e]; exact List.mem_map_of_mem hx1) hn.1
      · exact ih hn.2 hx1 hy1
theorem clear_mem {L S : List Fr} {f : Fr} (hf : f ∈ L) (hno : ∀ s ∈ S, s.b ≠ f.b) : f ∈ clearL L S := by
  unfold clearL
  refine List.mem_map.2 ⟨f, hf, if_neg ?_⟩
  rw [List.any_eq_true]
  rintro ⟨s, hs, e⟩
  exact hno s hs (by simpa using e)
theorem clear_set {L S : List Fr} {f : Fr} (hn : (L.map (·.b)).Nodup) (hf : f ∈ L) : setL (clearL L S) { f with y := false } = clearL L (S ++ [f]) := by
  unfold setL clearL
  rw [List.map_map]
  apply List.map_congr_left
  intro x hx
  show (if (if S.any (fun s => s.b == x.b) then { x with y := false } else x : Fr).b == f.b then _ else _) = _
  have hb : (if S.any (fun s => s.b == x.b) then { x with y := false } else x : Fr).b = x.b := by split <;> rfl
  rw [hb]
  by_cases e : x.b = f.b
  · have := fr_b hn hx hf e
    subst this
    rw [if_pos (by simp), if_pos (by simp)]
  · rw [if_neg (by simp [e])]
    have : (S ++ [f]).any (fun s => s.b == x.b) = S.any (fun s => s.b == x.b) := by
      rw [List.any_append]
      simp [Ne.symm e]
    rw [this]
theorem PRow.take {w : World} {gb cap : Nat} {T : List Fr} (h : PRow w gb cap T) (k : Nat) : PRow w gb cap (T.take k) := by
  obtain ⟨⟨cur, h1, h2, h3⟩, h4, h5⟩ := h
  refine ⟨⟨cur, h1, h2, ?_⟩, by rw [List.length_take]; omega, h5⟩
  have := congrArg (fun l => l.take k) h3
  simp only [List.take_take] at this
  rw [List.length_take, this]
  unfold pp
  rw [List.map_take]
theorem run_slice_upto (gb n cap k : Nat) (hk : k ≤ cap) (w : World) : (Instr.slice 66 (.slice (some ⟨gb, 0, none⟩) n cap) none (some (.int .i64 (k : Int))) none).run Try.prog w = .ok (.slice (some ⟨gb, 0, none⟩) k cap) w := by
  obtain ⟨i0, hi0, hz0, hz1, hz2⟩ := info_parts Try.infoE69
  have e : Try.prog.elem 66 = 69 := by simp [Program.elem, Try.underlying66]
  have hu : Try.prog.underlying 66 = some (.slice (Try.prog.elem 66)) := by rw [e]; exact Try.underlying66
  have := run_slice_h (P := Try.prog) w 66 (some ⟨gb, 0, none⟩) n cap hu .i64 (k : Int) (by omega) (by omega)
  rw [this, e]
  have hsz : (sizeOf 69).run Try.prog w = .ok 1 w := by simp [sizeOf, typeInfo, hi0, hz1]
  rw [hsz]
  simp [Result.andThen, sliced, Addr.add]
theorem dirty_sub {L : List Fr} {f : Fr} (h : f ∈ dirtyL L) : f ∈ L ∧ f.y = true := by
  unfold dirtyL at h
  obtain ⟨h1, h2⟩ := List.mem_filter.1 h
  exact ⟨(sortB_perm L).mem_iff.1 h1, h2⟩
theorem dirty_len (L : List Fr) : (dirtyL L).length ≤ L.length := by
  unfold dirtyL
  refine Nat.le_trans (List.length_filter_le _ _) ?_
  rw [(sortB_perm L).length_eq]
  exact Nat.le_refl _
theorem dirty_lt {L : List Fr} (hn : (L.map (·.b)).Nodup) : (dirtyL L).Pairwise (fun x y => x.b < y.b) := (sortB_lt hn).filter _
section
variable {B g m N J U : Nat} {L : List Fr}
theorem Dirty_go (w : World) (h : CS B g m w N J L U) : Calls Try.prog 16 #[.pointer (some ⟨g, 0, none⟩)] w fun e w' => ∃ v, e = .returned v ∧ CLie w' v ((dirtyL L).map chg) ∧ Below w.heap.size w w' := by
  have HD := hid (dirty_go w h)
  have hl : (dirtyL L).length ≤ 64 := by have := dirty_len L; have := h.len; have := h.n1; omega
  have HC := hid h
  clear h
  go_enter Try.func16, Try.ntmps16
  go_wp2_with (go_at_call 34; fail)
  refine (HD.out).mono ?_
  rintro e w1 ⟨v1, rfl, hv1, hb1⟩
  have HB1 := hid hb1
  rcases hv1 with ⟨rfl, hL0⟩ | ⟨gb, cap, rfl, hgb, hR⟩
  · have HL0 := hid hL0
    clear hL0
    go_wp2_with (first | (go_at_call 33; refine (changes_nil _).mono ?_; rintro e w2 ⟨rfl, hb2⟩))
    go_ret
    rw [HL0.out]
    exact ⟨_, rfl, ⟨_, 0, rfl, Nat.le_refl _, by decide, fun i hi => by simp at hi⟩, HB1.out.next hb2⟩
  · have HG := hid (changes_go hl w1 hR (fun f hf => (HC.out.below hb1).fr f (dirty_sub hf).1))
    go_wp2_with (first | (go_at_call 33; refine (HG.out).mono ?_; rintro e w2 ⟨v2, rfl, hv2, hb2⟩))
    go_ret
    exact ⟨_, rfl, hv2, HB1.out.next hb2⟩
set_option maxRecDepth 100000 in
set_option maxHeartbeats 2000000 in
theorem Take_go (w : World) (h : CS B g m w N J L U) : Calls Try.prog 23 #[.pointer (some ⟨g, 0, none⟩)] w fun e w' => ∃ v, e = .returned v ∧ CLie w' v (((dirtyL L).take 48).map chg) ∧ CS B g m w' N J (clearL L ((dirtyL L).take 48)) U ∧ Only (fpC g m L) w w' := by
  have HD := hid (dirty_go w h)
  have hl : (dirtyL L).length ≤ 64 := by have := dirty_len L; have := h.len; have := h.n1; omega
  have HC := hid h
  have HSub : Hid (∀ f ∈ (dirtyL L).take 48, f ∈ L ∧ f.y = true) := hid (fun f hf => dirty_sub (List.mem_of_mem_take hf))
  have HLt : Hid (((dirtyL L).take 48).Pairwise (fun x y => x.b < y.b)) := hid ((dirty_lt h.bnd).sublist (List.take_sublist _ _))
  have hSl : ((dirtyL L).take 48).length = min 48 (dirtyL L).length := List.length_take
  have hmin : IntKind.i64.wrap 0 = 0 := rfl
  clear h hmin
  obtain ⟨D, hD⟩ : ∃ D, D = dirtyL L := ⟨_, rfl⟩
  rw [← hD] at HD hl HSub HLt hSl ⊢
  clear hD
  obtain ⟨S, hS⟩ : ∃ S, S = D.take 48 := ⟨_, rfl⟩
  rw [← hS] at HSub HLt hSl ⊢
  have HS := hid hS
  clear hS
  go_enter Try.func23, Try.ntmps23
  go_wp2_with (go_at_call 34; fail)
  refine (HD.out).mono ?_
  rintro e w1 ⟨v1, rfl, hv1, hb1⟩
  have HB1 := hid hb1
  have HC1 := hid (HC.out.below hb1)
  have HO1 : Hid (Only (fpC g m L) w w1) := hid (Only.of_below hb1)
  rcases hv1 with ⟨rfl, hL0⟩ | ⟨gb, cap, rfl, hgb, hR⟩
  · subst hL0
    go_wp2
    refine wp_loop_rounds 1 ?_
    rw [rounds_succ]
    go_wp2_with (first | (go_at_call 33; refine (changes_nil _).mono ?_; rintro e w2 ⟨rfl, hb2⟩))
    go_ret
    refine ⟨_, rfl, by rw [show S = [] by rw [HS.out]; rfl]; exact ⟨_, 0, rfl, Nat.le_refl _, by decide, fun i hi => by simp at hi⟩, ?_, HO1.out.trans (Only.of_below hb2)⟩
    have e := HS.out
    rw [List.take_nil] at e
    rw [e, clearL_nil]
    exact HC1.out.below hb2
  · have HRS : Hid (PRow w1 gb cap S) := by rw [HS.out]; exact hid (hR.take 48)
    have hle := hR.le
    have hmx := hR.mx
    unfold maxLen at hmx
    have HGB := hid hgb
    have hupto := run_slice_upto gb D.length cap S.length (by omega) w1
    clear hR hb1 hgb
    obtain ⟨k, hk⟩ : ∃ k, k = S.length := ⟨_, rfl⟩
    rw [← hk] at hupto hSl
    have HK := hid hk
    have hcs : (D.length : Int) ≤ 48 ∧ (k : Int) = D.length ∨ (48 : Int) < D.length ∧ (k : Int) = 48 := by omega
    clear hk
    have HU := hid hupto
    clear hupto
    have hk64 : k ≤ 64 := by omega
    have hF1 : ∀ (q : Nat) (hq : q < S.length), S[q] ∈ L ∧ ∀ s ∈ S.take q, s.b ≠ S[q].b := by
      intro q hq
      refine ⟨(HSub.out _ (List.getElem_mem hq)).1, fun s hs => ?_⟩
      obtain ⟨j, hj, rfl⟩ := List.getElem_of_mem hs
      rw [List.getElem_take]
      rw [List.length_take] at hj
      have := List.pairwise_iff_getElem.1 HLt.out j q (by omega) hq (by omega)
      omega
    have HF1 := hid hF1
    clear hF1
    have hmk : (min (D.length : Int) 48).toNat = k := by omega
    clear hcs HU hSl
    all_goals
      go_wp2
      clear hmk
      go_loopw [15] (fun i wr => ∃ q : Nat, i = .int .i64 q ∧ q ≤ k ∧ CS B g m wr N J (clearL L (S.take q)) U ∧ PRow wr gb cap S ∧ Only (fpC g m L) w wr) (fun i _ => k - (intOf i).toNat)
      case atStart => exact ⟨0, rfl, Nat.zero_le _, by rw [List.take_zero, clearL_nil]; exact HC1.out, HRS.out, HO1.out⟩
      case round =>
        obtain ⟨q, rfl, hq, hCq, hRq, hOq⟩ := hrel
        have HCq := hid hCq
        have HRq := hid hRq
        have HOq := hid hOq
        clear hCq hRq hOq
        have hkS := HK.out
        by_cases hlt : q < k
        · have hqS : q < S.length := by omega
          have hF1 := HF1.out q hqS
          have cq := HRq.out.cell q hqS
          unfold ptr at cq
          have hgl := HRq.out.lt
          have hT1 := List.take_succ_eq_append_getElem hqS
          obtain ⟨f, hf⟩ : ∃ f, f = S[q] := ⟨_, rfl⟩
          rw [← hf] at cq hF1 hT1
          clear hf
          have hmem := clear_mem hF1.1 hF1.2
          have hFq := HCq.out.fr f hmem
          have hr := HCq.out.rt f hmem
          obtain ⟨_, q1, _, _, _⟩ := hFq.cells
          have hfl := hFq.lt
          have fz := hFq.free 1
          have e1 := hFq.set 1 (.bool false) { f with y := false } rfl rfl
          have ho : Only [f.a] wr (wr.setCell ⟨f.a, 1, none⟩ (.bool false)) := Only.setCell _ (by simp)
          have hCs := HCq.out.put (f' := { f with y := false }) hmem rfl rfl rfl hr.2.1 hr.2.2 e1 ho
          rw [clear_set HC.out.bnd hF1.1, ← hT1] at hCs
          have hne : gb ≠ f.a := by
            intro e
            obtain ⟨cur, h1, _⟩ := HRq.out.ex
            unfold FIs at hFq
            rw [← e, h1] at hFq
            simp at hFq
          have HCs := hid hCs
          have HRs := hid (HRq.out.same (w' := wr.setCell ⟨f.a, 1, none⟩ (.bool false)) (Below.heap_setCell _ _ _ _ hne))
          have HOs : Hid (Only (fpC g m L) w (wr.setCell ⟨f.a, 1, none⟩ (.bool false))) := hid (HOq.out.trans (ho.fp hF1.1 rfl))
          clear hCs e1 ho hFq hr hF1 hT1 hmem hne hkS
          go_wp2
          go_roundw
          case rel => exact ⟨q + 1, by go_num, by omega, HCs.out, HRs.out, HOs.out⟩
          case measure => simp [intOf]; omega
        · have hqe : q = k := by omega
          subst hqe
          have hts : S.take q = S := by rw [hkS, List.take_length]
          rw [hts] at HCq
          have HCh := hid (changes_go (T := S.map (fun x => { x with y := false })) (gb := gb) (cap := cap) (by rw [List.length_map]; omega) wr (by
            obtain ⟨⟨cur, h1, h2, h3⟩, h4, h5⟩ := HRq.out
            refine ⟨⟨cur, h1, h2, ?_⟩, by rw [List.length_map]; exact h4, h5⟩
            rw [List.length_map, h3]
            unfold pp
            rw [List.map_map]
            rfl) (by
            intro x hx
            obtain ⟨y, hy, rfl⟩ := List.mem_map.1 hx
            refine HCq.out.fr _ ?_
            unfold clearL
            refine List.mem_map.2 ⟨y, (HSub.out y hy).1, if_pos ?_⟩
            rw [List.any_eq_true]
            exact ⟨y, hy, by simp⟩))
          rw [List.length_map, List.map_map, ← hkS] at HCh
          clear hts hkS
          go_wp2_with (first | (go_at_call 33; refine (HCh.out).mono ?_; rintro e w2 ⟨v2, rfl, hv2, hb2⟩))
          go_ret
          exact ⟨_, rfl, hv2, HCq.out.below hb2, HOq.out.trans (Only.of_below hb2)⟩
end
end Go.Proofs.Ytfjoajcfpldniaa
