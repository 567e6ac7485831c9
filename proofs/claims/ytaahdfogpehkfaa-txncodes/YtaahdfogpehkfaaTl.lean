import Derived.Test.YtaahdfogpehkfaaTj
namespace Go.Proofs.Ytaahdfogpehkfaa
open Go.RowKit Go.Maps Go.Sort Go.Shelf
theorem cc_lie {B : Nat} {w : World} {v : Value} {l : List Chg} (h : w.ownsRow B 44 2 v l.length (cc l)) : CLie w v l := by
  rcases h.2 with ⟨rfl, hz⟩ | ⟨gb, cap, cur, rfl, hbase, hgb, r1, r2, r3, r4⟩
  · have : l = [] := List.eq_nil_of_length_eq_zero hz
    subst this
    exact ⟨none, 0, rfl, Nat.le_refl _, by decide, fun i hi => by simp at hi⟩
  · refine ⟨_, cap, rfl, r1, r2, fun i hi => ⟨gb, 0, rfl, lt_of_block hgb, ?_⟩⟩
    have key : ∀ j, j < 2 → w.cell? ⟨gb, i * 2 + j, none⟩ = (encC l[i])[j]? := by
      intro j hj
      have hlt : i * 2 + j < l.length * 2 := by omega
      have e1 : cur.toList[i * 2 + j]? = (cc l)[i * 2 + j]? := by rw [← r4, List.getElem?_take_of_lt hlt]
      rw [cc_get l _ hlt] at e1
      have e2 : (i * 2 + j) / 2 = i := by omega
      have e3 : (i * 2 + j) % 2 = j := by omega
      rw [e2, e3, getElem!_pos l i hi, Array.getElem?_toList] at e1
      rw [← e1]
      simp [World.cell?, hgb]
    rw [Nat.zero_add]
    exact ⟨key 0 (by decide), key 1 (by decide)⟩
theorem CLie.nil (w : World) : CLie w (.slice none 0 0) [] := ⟨none, 0, rfl, Nat.le_refl _, by decide, fun i hi => by simp at hi⟩
theorem srt_merge {M : List Chg} {N B : Nat} {v : Value} {w : World} (hM : Rise M) (h : SrtO (fun ss => (ss.map (·.b)).Nodup ∧ ∀ x, x ∈ ss ↔ x ∈ M) N B v w) : CLie w v M := by
  obtain ⟨ss, ts, ⟨h1, h2⟩, _, hp, hs, hrow⟩ := h
  have hnd : (ts.map (·.b)).Nodup := (hp.map _).nodup_iff.2 h1
  have hR : Rise ts := by
    unfold Rise
    have h3 : ts.Pairwise (fun x y => x.b ≠ y.b) := List.pairwise_map.1 hnd
    exact (hs.and h3).imp fun {x y} ⟨k1, k2⟩ => by omega
  have : ts = M := rise_unique hR hM (fun x => by rw [hp.mem_iff]; exact h2 x)
  subst this
  exact cc_lie hrow
/-- what Merge answers -/
def mRes (a b : List Chg) : Int × List Chg := if right a && right b then (if 48 < (mergeL a b).length then (2, []) else (0, mergeL a b)) else (70, [])
theorem merge_bad (va vb : Value) (a b : List Chg) (w : World) (ha : CLie w va a) (hb : CLie w vb b) (h : (right a && right b) = false) : Calls Try.prog 9 #[va, vb] w fun e w' => e = .returned (.tuple #[.slice none 0 0, .int .i64 70]) ∧ Below w.heap.size w w' := by
  have HA := hid (fun w h => check_any va a w h)
  have HB := hid (fun w h => check_any vb b w h)
  have HLA := hid ha
  have HLB := hid hb
  clear ha hb
  cases h1 : right a with
  | false =>
    rw [h1] at HA
    simp only [Bool.false_eq_true, if_false] at HA
    go_enter Try.func9, Try.ntmps9
    go_wp2_with (first
      | (go_at_call 11; refine (HA.out _ HLA.out).mono ?_; rintro e w2 ⟨rfl, hb2⟩))
    go_ret2
    exact ⟨rfl, hb2⟩
  | true =>
    rw [h1] at HA h
    simp only [Bool.true_and] at h
    rw [h] at HB
    simp only [Bool.false_eq_true, if_false, if_true] at HA HB
    go_enter Try.func9, Try.ntmps9
    go_wp2_with (first
      | (go_at_call 11; have hk := HB2; clear hk; refine (HB.out _ (HLB.out.below HB2.out)).mono ?_; rintro e w3 ⟨rfl, hb3⟩)
      | (go_at_call 11; refine (HA.out _ HLA.out).mono ?_; rintro e w2 ⟨rfl, hb2⟩; have HB2 := hid hb2; clear hb2))
    go_ret2
    exact ⟨rfl, HB2.out.next hb3⟩
theorem mkM (n : Int) (w : World) : (Instr.makeMap 50 (some (.int .i64 n))).run Try.prog w = .ok (.map (some w.heap.size)) (w.alloc (.map #[] 0)) := by
  simp [Instr.makeMap, run_underlying Try.underlying50, asInt, asIntOf, Result.andThen]
set_option maxRecDepth 100000 in
set_option maxHeartbeats 4000000 in
theorem merge_good (va vb : Value) (a b : List Chg) (w : World) (ha : CLie w va a) (hb : CLie w vb b) (h1 : right a = true) (h2 : right b = true) : Calls Try.prog 9 #[va, vb] w fun e w' => (∃ v, e = .returned (.tuple #[v, .int .i64 (mRes a b).1]) ∧ CLie w' v (mRes a b).2) ∧ Below w.heap.size w w' := by
  have HA := hid (fun w h => check_any va a w h)
  have HB := hid (fun w h => check_any vb b w h)
  rw [h1] at HA
  rw [h2] at HB
  simp only [if_true] at HA HB
  have HLA := hid ha
  have HLB := hid hb
  obtain ⟨h48, hra, hxa⟩ := right_iff.1 h1
  obtain ⟨k48, hrb, hxb⟩ := right_iff.1 h2
  obtain ⟨ao, cap, rfl, hlc, hcm, hcell⟩ := ha
  obtain ⟨bo, bap, rfl, klc, kcm, kcell⟩ := hb
  have HCA := hid hcell
  have HCB := hid kcell
  unfold maxLen at hcm kcm
  clear hcell kcell
  have hmm := mkM
  go_enter Try.func9, Try.ntmps9
  go_wp2_with (first
    | (go_at_call 11; have hk := HB2; clear hk; refine (HB.out _ (HLB.out.below HB2.out)).mono ?_; rintro e w3 ⟨rfl, hb3⟩; have HB3 := hid (HB2.out.next hb3); clear hb3)
    | (go_at_call 11; refine (HA.out _ HLA.out).mono ?_; rintro e w2 ⟨rfl, hb2⟩; have HB2 := hid hb2; clear hb2))
  clear hmm
  have HM4 := hid (MIs.made w3)
  have HB4 := hid (below_alloc w3 (.map #[] 0))
  obtain ⟨w4, hw4⟩ : ∃ w4, w4 = w3.alloc (.map #[] 0) := ⟨_, rfl⟩
  rw [← hw4] at HM4 HB4 ⊢
  clear hw4
  go_loopw [27] (fun i wr => ∃ q : Nat, i = .int .i64 q ∧ q ≤ a.length ∧ MIs w3.heap.size wr q (mergeL [] (a.take q)) ∧ Below w3.heap.size w3 wr) (fun i _ => a.length - (intOf i).toNat)
  case atStart => exact ⟨0, rfl, Nat.zero_le _, HM4.out, HB4.out⟩
  case round =>
    obtain ⟨q, rfl, hq, hMq, hBq⟩ := hrel
    have HMq := hid hMq
    have HBq := hid hBq
    have HBw := hid (HB3.out.next hBq)
    clear hMq hBq
    by_cases hqk : q < a.length
    · obtain ⟨gb, off, e, hgl, c0, c1⟩ := HCA.out q hqk
      subst e
      have HT := hid (List.take_succ_eq_append_getElem hqk)
      have hcb := hxa _ (List.getElem_mem hqk)
      obtain ⟨c, hc⟩ : ∃ c, c = a[q] := ⟨_, rfl⟩
      rw [← hc] at c0 c1 HT hcb
      clear hc
      replace c0 := (HBw.out.cell (p := ⟨gb, off + q * 2, none⟩) hgl).trans c0
      replace c1 := (HBw.out.cell (p := ⟨gb, off + q * 2 + 1, none⟩) hgl).trans c1
      have hgr : gb < wr.heap.size := Nat.lt_of_lt_of_le hgl HBw.out.size
      have hml := HMq.out.lt
      obtain ⟨w6, hrun, hM6, hg6, hz6⟩ := (HMq.out.same (Below.heap_alloc wr (.cells #[.int .i64 c.b, .string c.d] 44) _ hml)).store (by omega) c (by unfold inI; omega)
      unfold valC at hrun
      have HM6 := hid hM6
      have HG6 := hid hg6
      clear hM6 hg6
      go_wp2
      go_roundw
      case rel =>
        refine ⟨q + 1, by go_num, by omega, ?_, ?_⟩
        · rw [HT.out, mergeL_snoc]; exact HM6.out
        · exact (HBq.out.next (below_alloc wr _)).grown HG6.out (by have := HBq.out.size; simp; omega) (fun k e => by cases e; exact Nat.le_refl _)
      case measure => simp [intOf]; omega
    · have hqe : q = a.length := by omega
      subst hqe
      rw [List.take_length, mergeL_nil hra] at HMq
      go_wp2
      have HWW := hid HBw.out
      go_loopw [38] (fun i wx => ∃ q : Nat, i = .int .i64 q ∧ q ≤ b.length ∧ MIs w3.heap.size wx (a.length + q) (mergeL a (b.take q)) ∧ Below w3.heap.size w3 wx) (fun i _ => b.length - (intOf i).toNat)
      case atStart => exact ⟨0, rfl, Nat.zero_le _, HMq.out, HBq.out⟩
      case round =>
        rename World => wx
        obtain ⟨p, rfl, hp, hMp, hBp⟩ := hrel
        clear HMq HBq HBw HWW
        have HMp := hid hMp
        have HBp := hid hBp
        have HBw := hid (HB3.out.next hBp)
        clear hMp hBp
        by_cases hpk : p < b.length
        · obtain ⟨gb, off, e, hgl, c0, c1⟩ := HCB.out p hpk
          subst e
          have HT := hid (List.take_succ_eq_append_getElem hpk)
          have hcb := hxb _ (List.getElem_mem hpk)
          obtain ⟨c, hc⟩ : ∃ c, c = b[p] := ⟨_, rfl⟩
          rw [← hc] at c0 c1 HT hcb
          clear hc
          replace c0 := (HBw.out.cell (p := ⟨gb, off + p * 2, none⟩) hgl).trans c0
          replace c1 := (HBw.out.cell (p := ⟨gb, off + p * 2 + 1, none⟩) hgl).trans c1
          have hgr : gb < wx.heap.size := Nat.lt_of_lt_of_le hgl HBw.out.size
          have hml := HMp.out.lt
          obtain ⟨w6, hrun, hM6, hg6, hz6⟩ := (HMp.out.same (Below.heap_alloc wx (.cells #[.int .i64 c.b, .string c.d] 44) _ hml)).store (by omega) c (by unfold inI; omega)
          unfold valC at hrun
          have HM6 := hid hM6
          have HG6 := hid hg6
          clear hM6 hg6
          go_wp2
          go_roundw
          case rel =>
            refine ⟨p + 1, by go_num, by omega, ?_, ?_⟩
            · rw [HT.out, mergeL_snoc]; exact HM6.out
            · exact (HBp.out.next (below_alloc wx _)).grown HG6.out (by have := HBp.out.size; simp; omega) (fun k e => by cases e; exact Nat.le_refl _)
          case measure => simp [intOf]; omega
        · have hpe : p = b.length := by omega
          subst hpe
          rw [List.take_length] at HMp
          have hlen := fun ty => HMp.out.len ty
          have HE : Hid (mRes a b = if 48 < (mergeL a b).length then (2, []) else (0, mergeL a b)) := by show _ = _; unfold mRes; simp [h1, h2]
          have HRM := hid (mergeL_rise (b := b) hra)
          obtain ⟨M, hM⟩ : ∃ M, M = mergeL a b := ⟨_, rfl⟩
          rw [← hM] at HMp hlen HE HRM
          clear hM
          by_cases hl : 48 < M.length
          · rw [if_pos hl] at HE
            go_wp2
            go_ret2
            rw [HE.out]
            exact ⟨⟨_, rfl, CLie.nil _⟩, HBw.out⟩
          · rw [if_neg hl] at HE
            have hseq : SeqGives Fence.wide (6 - 1 - 1 - 1) Try.prog 39 #[.pointer (some ⟨wx.heap.size, 0, none⟩)] valC (fun ss => (ss.map (·.b)).Nodup ∧ ∀ x, x ∈ ss ↔ x ∈ M) (a.length + b.length) (wx.alloc (.cells #[.map (some w3.heap.size)] 50)) :=
              values_gives Fence.wide _ trivial rfl (by decide) wx.heap.size w3.heap.size _ M _ (by simp) (by refine cell_of_one (t := 50) ?_; show (wx.heap.push _)[wx.heap.size]? = _; simp) (HMp.out.same (Below.heap_alloc _ _ _ HMp.out.lt))
            have HS := hid (callsIn_wide.1 (sortedFunc 6 (by decide) 39 _ (enters_of Try.func39 (by kernel_rfl) rfl) _ _ (by omega) _ hseq))
            clear hseq
            go_wp2_with (first
              | (go_at_call 21; refine (valuesCall _ _).mono ?_; rintro e w7 ⟨rfl, rfl⟩)
              | (go_at_call 20; refine (HS.out).mono ?_; rintro e w8 ⟨v, rfl, hO, hb8⟩))
            go_ret2
            rw [HE.out]
            exact ⟨⟨_, rfl, srt_merge HRM.out hO⟩, (HBw.out.next (below_alloc _ _)).next hb8⟩
theorem merge_any (va vb : Value) (a b : List Chg) (w : World) (ha : CLie w va a) (hb : CLie w vb b) : Calls Try.prog 9 #[va, vb] w fun e w' => (∃ v, e = .returned (.tuple #[v, .int .i64 (mRes a b).1]) ∧ CLie w' v (mRes a b).2) ∧ Below w.heap.size w w' := by
  cases h : right a && right b with
  | true =>
    rw [Bool.and_eq_true] at h
    exact merge_good va vb a b w ha hb h.1 h.2
  | false =>
    have e : mRes a b = (70, []) := by unfold mRes; rw [h]; rfl
    rw [e]
    exact (merge_bad va vb a b w ha hb h).mono fun _ _ q => ⟨⟨_, q.1, CLie.nil _⟩, q.2⟩
end Go.Proofs.Ytaahdfogpehkfaa
