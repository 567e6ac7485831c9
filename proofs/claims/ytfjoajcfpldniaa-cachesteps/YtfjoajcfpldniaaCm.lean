import Derived.Test.YtfjoajcfpldniaaCl
namespace Go.Proofs.Ytfjoajcfpldniaa
open Go.RowKit Go.Maps

theorem setCells_cells : ∀ (cs : List Value) (w : World) (b o : Nat) (cur : Array Value) (t : TypeId), w.heap[b]? = some (.cells cur t (0, 0)) → ∃ cur', (w.setCells b o cs).heap[b]? = some (.cells cur' t (0, 0)) ∧ cur'.size = cur.size ∧ ∀ i, i < o → cur'[i]? = cur[i]?
  | [], w, b, o, cur, t, h => ⟨cur, h, rfl, fun _ _ => rfl⟩
  | c :: cs, w, b, o, cur, t, h => by
    obtain ⟨cur', h1, h2, h3⟩ := setCells_cells cs (w.setCell ⟨b, o, none⟩ c) b (o + 1) _ t (cells_set h c)
    refine ⟨cur', h1, by rw [h2]; simp, fun i hi => ?_⟩
    rw [h3 i (by omega), Array.set!_eq_setIfInBounds, Array.getElem?_setIfInBounds_ne (by omega)]
theorem setCells_grown (cs : List Value) (w : World) (b o : Nat) : w.grownBy (w.setCells b o cs) (some b) := by
  induction cs generalizing w o with
  | nil => exact ⟨rfl, rfl, rfl, Nat.le_refl _, fun _ _ _ => rfl⟩
  | cons c cs ih =>
    have h := ih (w.setCell ⟨b, o, none⟩ c) (o + 1)
    refine ⟨h.os, h.tape, h.output, by simp, fun k hk hne => ?_⟩
    exact (h.block k (by simp; exact hk) hne).trans (Below.heap_setCell _ _ _ _ (fun e => hne (congrArg some e)))
theorem grown_trans {w w1 w2 : World} {b : Nat} (h : w.grownBy w1 (some b)) (k : w1.grownBy w2 (some b)) : w.grownBy w2 (some b) :=
  ⟨k.os.trans h.os, k.tape.trans h.tape, k.output.trans h.output, Nat.le_trans h.size k.size, fun x hx hn => (k.block x (Nat.lt_of_lt_of_le hx h.size) hn).trans (h.block x hx hn)⟩
theorem grown_set (w : World) (b o : Nat) (v : Value) : w.grownBy (w.setCell ⟨b, o, none⟩ v) (some b) :=
  ⟨rfl, rfl, rfl, by simp, fun k _ hn => Below.heap_setCell _ _ _ _ (fun e => hn (congrArg some e))⟩
theorem DRow.done {w : World} {gb cap : Nat} {T : List Fr} {i : Nat} (h : DRow w gb cap T T.length i) (hc : T.length ≤ cap) (hm : cap ≤ maxLen) (cs : List Value) : PRow (w.setCells gb i cs) gb cap (T.filter (·.y)) := by
  obtain ⟨⟨cur, h1, h2, h3, _⟩, h5⟩ := h
  rw [List.take_length] at h3 h5
  obtain ⟨cur', k1, k2, k3⟩ := setCells_cells cs w gb i cur 69 h1
  have hfl := List.length_filter_le (·.y) T
  refine ⟨⟨cur', k1, k2.trans h2, ?_⟩, by omega, hm⟩
  apply List.ext_getElem?
  intro t
  by_cases ht : t < (T.filter (·.y)).length
  · rw [List.getElem?_take_of_lt ht, Array.getElem?_toList, k3 t (by omega), h3 t ht, List.getElem?_eq_getElem (by rw [pp_len]; exact ht)]
    simp [pp]
  · rw [List.getElem?_take_eq_none (by omega), List.getElem?_eq_none (by rw [pp_len]; omega)]
theorem run_slice_from (gb n cap i : Nat) (hi : i ≤ n) (hic : i < cap) (w : World) : (Instr.slice 66 (.slice (some ⟨gb, 0, none⟩) n cap) (some (.int .i64 (i : Int))) none none).run Try.prog w = .ok (.slice (some ⟨gb, i, none⟩) (n - i) (cap - i)) w := by
  obtain ⟨i0, hi0, hz0, hz1, hz2⟩ := info_parts Try.infoE69
  have e : Try.prog.elem 66 = 69 := by simp [Program.elem, Try.underlying66]
  have hu : Try.prog.underlying 66 = some (.slice (Try.prog.elem 66)) := by rw [e]; exact Try.underlying66
  have := run_slice_l (P := Try.prog) w 66 (some ⟨gb, 0, none⟩) n cap hu .i64 (i : Int) (by omega) (by omega)
  rw [this, e]
  have hsz : (sizeOf 69).run Try.prog w = .ok 1 w := by simp [sizeOf, typeInfo, hi0, hz1]
  rw [hsz]
  simp [Result.andThen, sliced, show ¬ cap = i by omega, Addr.add]
  omega
set_option maxRecDepth 100000 in
set_option maxHeartbeats 2000000 in
theorem delete_go {gb cap : Nat} {T : List Fr} (w : World) (hR : PRow w gb cap T) (hF : ∀ f ∈ T, FIs w f) (hne : ∀ f ∈ T, f.a ≠ gb) :
    Calls Try.prog 46 #[.slice (some ⟨gb, 0, none⟩) T.length cap, .func (.func 48) #[] #[]] w fun e w' => e = .returned (.slice (some ⟨gb, 0, none⟩) (T.filter (·.y)).length cap) ∧ PRow w' gb cap (T.filter (·.y)) ∧ w.grownBy w' (some gb) := by
  have hle := hR.le
  have hmx := hR.mx
  have HMX := hid hmx
  unfold maxLen at hmx
  have hll := lead_le T
  have HI := hid (index_go w hR hF)
  by_cases hlt : lead T = T.length
  · rw [if_pos hlt] at HI
    have hft : T.filter (·.y) = T := by
      have := lead_filter (T := T)
      rwa [hlt, List.take_length] at this
    rw [hft]
    clear hlt hft
    go_enter Try.func46, Try.ntmps46
    go_wp2_with (first | (go_at_call 54; refine (HI.out).mono ?_; rintro e w1 ⟨rfl, hw⟩; have hw := hw.symm; subst hw))
    go_ret
    exact ⟨rfl, hR, ⟨rfl, rfl, rfl, Nat.le_refl _, fun _ _ _ => rfl⟩⟩
  · rw [if_neg hlt] at HI
    have HD0 : Hid (DRow w gb cap T (lead T + 1) (lead T)) := by
      have h0 : DRow w gb cap T (lead T) (lead T) := by
        obtain ⟨cur, h1, h2, h3⟩ := hR.ex
        have hcell : ∀ t (ht : t < T.length), cur[t]? = some (ptr T[t].a) := fun t ht => by
          have := hR.cell t ht
          rwa [cell_of h1] at this
        refine ⟨⟨cur, h1, h2, fun t ht => ?_, fun t ht _ => hcell t ht⟩, by rw [lead_filter, List.length_take]; omega⟩
        rw [lead_filter, List.length_take] at ht
        rw [hcell t (by omega)]
        simp only [lead_filter]
        rw [List.getElem_take]
      exact hid (h0.skip (by omega) (lead_n (by omega)))
    have HF := hid hF
    have HNE := hid hne
    obtain ⟨n, hn⟩ : ∃ n, n = lead T := ⟨_, rfl⟩
    rw [← hn] at HD0 HI hll hlt
    clear hn hF hne hR
    have hnt : n < T.length := by omega
    have hne1 : ((n : Int) == -1) = false := beq_eq_false_iff_ne.2 (by omega)
    clear hlt hll
    go_enter Try.func46, Try.ntmps46
    go_wp2_with (first | (go_at_call 54; refine (HI.out).mono ?_; rintro e w1 ⟨rfl, hw⟩; have hw := hw.symm; subst hw))
    go_loopw [5, 6, 7] (fun iv jv _ wr => ∃ i j : Nat, iv = .int .i64 i ∧ jv = .int .i64 j ∧ j ≤ T.length ∧ i < j ∧ DRow wr gb cap T j i ∧ w.grownBy wr (some gb)) (fun _ jv _ _ => T.length - (intOf jv).toNat)
    case atStart => exact ⟨n, n + 1, rfl, by go_num, by omega, by omega, HD0.out, ⟨rfl, rfl, rfl, Nat.le_refl _, fun _ _ _ => rfl⟩⟩
    case round =>
      obtain ⟨i, j, rfl, rfl, hj, hij, hD, hG⟩ := hrel
      have HD := hid hD
      have HG := hid hG
      have hgl : gb < wr.heap.size := by obtain ⟨cur, h1, _⟩ := hD.ex; exact lt_of_block h1
      have hfz : ∀ t, wr.frozen? ⟨gb, t, none⟩ = false := by obtain ⟨cur, h1, _⟩ := hD.ex; exact frees h1
      have hcel : ∀ t, t < cap → ∃ x, wr.cell? ⟨gb, t, none⟩ = some x := by
        obtain ⟨cur, h1, h2, _⟩ := hD.ex
        intro t ht
        exact ⟨cur[t]'(by omega), by rw [cell_of h1, Array.getElem?_eq_getElem (by omega)]⟩
      clear hD hG HD0
      by_cases hlt : j < T.length
      · have cj : wr.cell? ⟨gb, j, none⟩ = some (ptr T[j].a) := by
          obtain ⟨cur, h1, _, _, h4⟩ := HD.out.ex
          rw [cell_of h1]
          exact h4 j hlt (Nat.le_refl _)
        unfold ptr at cj
        obtain ⟨xi, ci⟩ := hcel i (by omega)
        have fi := hfz i
        have HFj := hid (clean_any T[j] wr ((HF.out T[j] (List.getElem_mem hlt)).same (HG.out.block _ (HF.out T[j] (List.getElem_mem hlt)).lt (fun e => HNE.out T[j] (List.getElem_mem hlt) (by cases e; rfl)))))
        have HK := hid (fun hy => HD.out.keep hlt hij hle hy)
        have HS := hid (fun hy => HD.out.skip hlt hy)
        unfold ptr at HK
        obtain ⟨f, hf⟩ : ∃ f, f = T[j] := ⟨_, rfl⟩
        rw [← hf] at cj HFj HK HS
        clear hf hcel hfz
        cases hy : f.y with
        | true =>
          rw [hy] at HFj
          have HK2 := hid (HK.out hy)
          go_wp2_with (first | (go_at_call 48; refine (HFj.out).mono ?_; rintro e w1 ⟨rfl, hw⟩; have hw := hw.symm; subst hw))
          go_roundw
          case rel => exact ⟨i + 1, j + 1, by go_num, by go_num, by omega, by omega, HK2.out, grown_trans HG.out (grown_set _ _ _ _)⟩
          case measure => simp [intOf]; omega
        | false =>
          rw [hy] at HFj
          have HS2 := hid (HS.out hy)
          go_wp2_with (first | (go_at_call 48; refine (HFj.out).mono ?_; rintro e w1 ⟨rfl, hw⟩; have hw := hw.symm; subst hw))
          go_roundw
          case rel => exact ⟨i, j + 1, rfl, by go_num, by omega, by omega, HS2.out, HG.out⟩
          case measure => simp [intOf]; omega
      · have hje : j = T.length := by omega
        subst hje
        have hcl : ∀ ty, (Builtin.clear_ #[66] ty #[.slice (some ⟨gb, i, none⟩) (T.length - i) (cap - i)]).run Try.prog wr = .ok (.tuple #[]) (wr.setCells gb i (List.replicate (T.length - i) (.pointer none))) :=
          fun ty => Lib.run_clear_slice wr 66 69 ty (.pointer none) Try.underlying66 zero69 rfl rfl gb i _ _ (by omega) (fun t ht => by obtain ⟨x, hx⟩ := hcel (i + t) (by omega); rw [hx]; rfl) (fun t _ => hfz (i + t))
        have hsf := run_slice_from gb T.length cap i (by omega) (by omega) wr
        have HI2 : Hid (i = (T.filter (·.y)).length) := by
          have := HD.out.len
          rw [List.take_length] at this
          exact hid this
        have HP := hid (HD.out.done hle HMX.out (List.replicate (T.length - i) (.pointer none)))
        have HG2 := hid (grown_trans HG.out (setCells_grown (List.replicate (T.length - i) (.pointer none)) wr gb i))
        clear hcel hfz
        go_wp2
        go_ret
        exact ⟨by rw [← HI2.out]; rfl, HP.out, HG2.out⟩
/-- frames in the order of their blocks -/
def sortB (L : List Fr) : List Fr := L.mergeSort (fun x y => decide (x.b ≤ y.b))
theorem sortB_perm (L : List Fr) : (sortB L).Perm L := List.mergeSort_perm _ _
theorem sortB_lt {L : List Fr} (hn : (L.map (·.b)).Nodup) : (sortB L).Pairwise (fun x y => x.b < y.b) := by
  have h1 : (sortB L).Pairwise (fun x y => decide (x.b ≤ y.b) = true) := List.pairwise_mergeSort (by intro a b c h1 h2; simp at *; omega) (by intro a b; simp; omega) L
  have h2 : ((sortB L).map (·.b)).Nodup := ((sortB_perm L).map _).nodup_iff.2 hn
  have h3 : (sortB L).Pairwise (fun x y => x.b ≠ y.b) := List.pairwise_map.1 h2
  exact (h1.and h3).imp (by intro a b h; have := of_decide_eq_true h.1; omega)
/-- the dirty frames, in the order of their blocks -/
def dirtyL (L : List Fr) : List Fr := (sortB L).filter (·.y)
section
variable {B g m N J U : Nat} {L : List Fr}
set_option maxRecDepth 100000 in
theorem dirty_go (w : World) (h : CS B g m w N J L U) : Calls Try.prog 34 #[.pointer (some ⟨g, 0, none⟩)] w fun e w' => ∃ v, e = .returned v ∧ PV w' v w.heap.size (dirtyL L) ∧ Below w.heap.size w w' := by
  have HS := hid (sorted_go by_block (sortB_perm L) (sortB_lt h.bnd) w h)
  have HC := hid h
  clear h
  go_enter Try.func34, Try.ntmps34
  go_wp2_with (go_at_call 31; fail)
  refine (HS.out).mono ?_
  rintro e w1 ⟨v1, rfl, hv1, hb1⟩
  have HB1 := hid hb1
  rcases hv1 with ⟨rfl, hL0⟩ | ⟨gb, cap, rfl, hgb, hR⟩
  · go_wp2_with (first | (go_at_call 46; refine (delete_nil _ _).mono ?_; rintro e w2 ⟨rfl, hw⟩; have hw := hw.symm; subst hw))
    go_ret
    exact ⟨_, rfl, .inl ⟨rfl, by unfold dirtyL; rw [hL0]; rfl⟩, HB1.out⟩
  · have hF : ∀ f ∈ sortB L, FIs w1 f := fun f hf => (HC.out.below hb1).fr f ((sortB_perm L).mem_iff.1 hf)
    have hne : ∀ f ∈ sortB L, f.a ≠ gb := fun f hf e => by
      have := (HC.out.fr f ((sortB_perm L).mem_iff.1 hf)).lt
      omega
    have HD := hid (delete_go w1 hR hF hne)
    clear hF hne hR hb1
    go_wp2_with (first | (go_at_call 46; refine (HD.out).mono ?_; rintro e w2 ⟨rfl, hR2, hg2⟩))
    go_ret
    exact ⟨_, rfl, .inr ⟨gb, cap, rfl, hgb, hR2⟩, HB1.out.grown hg2 HB1.out.size (fun k e => by cases e; exact hgb)⟩
end
end Go.Proofs.Ytfjoajcfpldniaa
