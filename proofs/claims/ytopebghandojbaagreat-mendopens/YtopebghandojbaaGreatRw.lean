import Derived.Test.YtopebghandojbaaGreatMy
import Derived.Test.YtopebghandojbaaGreatZm
namespace Go.Proofs.YtopebghandojbaaGreat.Um
open Go.RowKit Go.Maps
/-- one step of putting a change among others -/
def wstep (c : Chg) (s : List Chg × Bool) (x : Chg) : List Chg × Bool :=
  if s.2 = false ∧ c.b ≤ x.b then (if x.b = c.b then s.1 ++ [c] else s.1 ++ [c] ++ [x], true) else (if x.b = c.b then s.1 else s.1 ++ [x], s.2)
def wfin (c : Chg) (s : List Chg × Bool) : List Chg := if s.2 = false then s.1 ++ [c] else s.1
theorem wput (c : Chg) : ∀ (l acc : List Chg), (∀ x ∈ l, x.b ≠ c.b) → l.foldl (wstep c) (acc, true) = (acc ++ l, true)
  | [], acc, _ => by simp
  | x :: l, acc, h => by
    have e : wstep c (acc, true) x = (acc ++ [x], true) := by unfold wstep; simp [h x (by simp)]
    rw [List.foldl_cons, e, wput c l _ (fun y hy => h y (by simp [hy])), List.append_assoc]; rfl
theorem wwith (c : Chg) : ∀ (l acc : List Chg), Rise l → wfin c (l.foldl (wstep c) (acc, false)) = acc ++ withL l c
  | [], acc, _ => rfl
  | x :: l, acc, h => by
    unfold Rise at h
    rw [List.pairwise_cons] at h
    rw [List.foldl_cons]
    unfold withL
    by_cases h1 : x.b < c.b
    · have e : wstep c (acc, false) x = (acc ++ [x], false) := by
        unfold wstep
        rw [if_neg (by simp; omega), if_neg (by omega)]
      rw [e, wwith c l _ h.2, if_pos h1, List.append_assoc]; rfl
    · rw [if_neg h1]
      by_cases h2 : x.b = c.b
      · have e : wstep c (acc, false) x = (acc ++ [c], true) := by
          unfold wstep
          rw [if_pos ⟨rfl, by omega⟩, if_pos h2]
        rw [e, wput c l _ (fun y hy => by have := h.1 y hy; omega), if_pos h2]
        simp [wfin]
      · have e : wstep c (acc, false) x = (acc ++ [c] ++ [x], true) := by
          unfold wstep
          rw [if_pos ⟨rfl, by omega⟩, if_neg h2]
        rw [e, wput c l _ (fun y hy => by have := h.1 y hy; omega), if_neg h2]
        simp [wfin]
theorem wlen (c : Chg) : ∀ (l : List Chg) (s : List Chg × Bool), (l.foldl (wstep c) s).1.length ≤ s.1.length + 2 * l.length
  | [], s => by simp
  | x :: l, s => by
    have ih := wlen c l (wstep c s x)
    have h1 : (wstep c s x).1.length ≤ s.1.length + 2 := by
      unfold wstep
      split <;> split <;> simp
    rw [List.foldl_cons, List.length_cons]
    omega
theorem wtake (c : Chg) (l : List Chg) (q : Nat) (h : q < l.length) : (l.take (q + 1)).foldl (wstep c) ([], false) = wstep c ((l.take q).foldl (wstep c) ([], false)) l[q] := by
  rw [List.take_succ_eq_append_getElem h, List.foldl_append]; rfl
theorem CRow.ty {base : Nat} {w : World} {v : Value} {l : List Chg} (h : CRow base w v l) : ∀ x, v.ownBlock = some x → base ≤ x ∧ ∃ cur, w.heap[x]? = some (.cells cur 94 (0, 0)) := by
  obtain ⟨e1, ⟨rfl, _⟩ | ⟨x, cap, cur, rfl, e4, e5, e6⟩⟩ := h
  · intro x hx; cases hx
  · intro y hy; cases hy; exact ⟨e4, cur, e5⟩
set_option maxRecDepth 100000 in
set_option maxHeartbeats 8000000 in
theorem with_any (v : Value) (l : List Chg) (c : Chg) (w : World) (h : CLie w v l) (hr : Rise l) (hl : l.length ≤ 600) : Calls Tryz.prog 61 #[v, .agg #[.int .i64 c.b, .string c.d]] w fun e w' => ∃ v', e = .returned v' ∧ CLie w' v' (withL l c) ∧ Below w.heap.size w w' ∧ ∀ x, v'.ownBlock = some x → w.heap.size ≤ x ∧ ∃ cur, w'.heap[x]? = some (.cells cur 94 (0, 0)) := by
  obtain ⟨ao, cap, rfl, hlc, hcm, hcell⟩ := h
  have HC := hid hcell
  clear hcell
  unfold maxLen at hcm
  have HV0 := hid (box_at w (.cells #[.int .i64 c.b, .string c.d] 94))
  have HB0 := hid (below_alloc w (.cells #[.int .i64 c.b, .string c.d] 94))
  have hz0 : (w.alloc (.cells #[.int .i64 c.b, .string c.d] 94)).heap.size = w.heap.size + 1 := by simp
  have HWW := hid (wwith c l [] hr)
  go_enter Tryz.func61, Tryz.ntmps61
  go_wp2
  obtain ⟨w0, hw0⟩ : ∃ w0, w0 = w.alloc (.cells #[.int .i64 c.b, .string c.d] 94) := ⟨_, rfl⟩
  rw [← hw0] at HV0 HB0 hz0 ⊢
  clear hw0
  go_loopw [5, 6, 11] (fun ov pv i wr => ∃ q : Nat, i = .int .i64 q ∧ q ≤ l.length ∧ CRow w0.heap.size wr ov ((l.take q).foldl (wstep c) ([], false)).1 ∧ pv = .bool ((l.take q).foldl (wstep c) ([], false)).2 ∧ Below w0.heap.size w0 wr) (fun _ _ i _ => l.length - (intOf i).toNat)
  case atStart => exact ⟨0, rfl, Nat.zero_le _, CRow.nil _ _, rfl, Below.refl _ _⟩
  case round =>
    obtain ⟨q, rfl, hq, hRq, rfl, hBq⟩ := hrel
    have HRq := hid hRq
    have HBq := hid hBq
    have HBw := hid (HB0.out.next hBq)
    have hzq := hBq.size
    have HVq := hid ((hBq.block _ (by omega)).trans HV0.out)
    clear hRq hBq
    obtain ⟨k0, k1⟩ := two_cells HVq.out
    have hkl := lt_of_block HVq.out
    have hsl := wlen c (l.take q) ([], false)
    rw [List.length_take, Nat.min_eq_left hq] at hsl
    simp only [List.length_nil] at hsl
    by_cases hqk : q < l.length
    · obtain ⟨gb, off, e, hgl, c0, c1⟩ := HC.out q hqk
      subst e
      have HT := hid (wtake c l q hqk)
      obtain ⟨x, hx⟩ : ∃ x, x = l[q] := ⟨_, rfl⟩
      rw [← hx] at c0 c1 HT
      clear hx
      replace c0 := (HBw.out.cell (p := ⟨gb, off + q * 2, none⟩) hgl).trans c0
      replace c1 := (HBw.out.cell (p := ⟨gb, off + q * 2 + 1, none⟩) hgl).trans c1
      have hgr : gb < wr.heap.size := Nat.lt_of_lt_of_le hgl HBw.out.size
      obtain ⟨S, hS⟩ : ∃ S, S = (l.take q).foldl (wstep c) ([], false) := ⟨_, rfl⟩
      rw [← hS] at HRq hsl HT ⊢
      clear hS
      obtain ⟨L, p⟩ := S
      simp only at HRq hsl ⊢
      obtain ⟨oo, ocap, rfl, ho1, ho2⟩ := HRq.out.len
      unfold maxLen at ho2
      have HX1 := hid (box_at wr (.cells #[.int .i64 x.b, .string x.d] 94))
      have HB1 := hid (below_alloc wr (.cells #[.int .i64 x.b, .string x.d] 94))
      have HR1 := hid (HRq.out.below HB1.out)
      have HO1 := hid HRq.out.own
      have hz1 : (wr.alloc (.cells #[.int .i64 x.b, .string x.d] 94)).heap.size = wr.heap.size + 1 := by simp
      cases p with
      | true =>
        cases hne : (x.b != c.b)
        · have HST : Hid (wstep c (L, true) x = (L, true)) := by
            have hE : x.b = c.b := by simpa using hne
            show _ = _; unfold wstep; simp [hE]
          go_wp2
          go_roundw
          case rel =>
            refine ⟨q + 1, by go_num, by omega, ?_, ?_, HBq.out.next HB1.out⟩
            · rw [HT.out, HST.out]; exact HR1.out
            · rw [HT.out, HST.out]
          case measure => simp [intOf]; omega
        · have hE : ¬ x.b = c.b := by simpa using hne
          have HST : Hid (wstep c (L, true) x = (L ++ [x], true)) := by show _ = _; unfold wstep; simp [hE]
          go_wp2_with (first
            | (at_builtin; refine pushC (w0 := wr.alloc (.cells #[.int .i64 x.b, .string x.d] 94)) rfl (.tmp 33) (.tmp 35) rfl w0.heap.size (wr.heap.size + 1) _ L x rfl rfl (by simp) HR1.out (by omega) (by omega) ?_
               intro v6 w6 hI6 hb6 hk6))
          go_roundw
          case rel =>
            refine ⟨q + 1, by go_num, by omega, ?_, ?_, (HBq.out.next HB1.out).trans hb6⟩
            · rw [HT.out, HST.out]; exact hI6
            · rw [HT.out, HST.out]
          case measure => simp [intOf]; omega
      | false =>
        by_cases hlt : x.b < c.b
        · have hne : (x.b != c.b) = true := by simp; omega
          have HST : Hid (wstep c (L, false) x = (L ++ [x], false)) := by
            show _ = _
            unfold wstep
            rw [if_neg (by simp; omega), if_neg (by omega)]
          go_wp2_with (first
            | (at_builtin; refine pushC (w0 := wr.alloc (.cells #[.int .i64 x.b, .string x.d] 94)) rfl (.tmp 33) (.tmp 35) rfl w0.heap.size (wr.heap.size + 1) _ L x rfl rfl (by simp) HR1.out (by omega) (by omega) ?_
               intro v6 w6 hI6 hb6 hk6))
          go_roundw
          case rel =>
            refine ⟨q + 1, by go_num, by omega, ?_, ?_, (HBq.out.next HB1.out).trans hb6⟩
            · rw [HT.out, HST.out]; exact hI6
            · rw [HT.out, HST.out]
          case measure => simp [intOf]; omega
        · cases hne : (x.b != c.b)
          · have HST : Hid (wstep c (L, false) x = (L ++ [c], true)) := by
              have hE : x.b = c.b := by simpa using hne
              show _ = _
              unfold wstep
              rw [if_pos ⟨rfl, by omega⟩, if_pos hE]
            go_wp2_with (first
              | (at_builtin; refine pushC (w0 := wr.alloc (.cells #[.int .i64 x.b, .string x.d] 94)) rfl (.tmp 24) (.tmp 26) rfl w0.heap.size (wr.heap.size + 1) _ L c rfl rfl (by simp) HR1.out (by omega) (by omega) ?_
                 intro v6 w6 hI6 hb6 hk6
                 have HX6 := hid ((hk6 _ (lt_of_block HX1.out) (fun e => by have := (HO1.out _ e.symm).2; omega)).trans HX1.out)
                 have HV6 := hid ((hb6.block _ (by omega)).trans ((HB1.out.block _ hkl).trans HVq.out))
                 have hx6 := lt_of_block HX6.out
                 have hv6 := lt_of_block HV6.out
                 obtain ⟨x0, x1⟩ := two_cells HX6.out
                 obtain ⟨y0, y1⟩ := two_cells HV6.out))
            go_roundw
            case rel =>
              refine ⟨q + 1, by go_num, by omega, ?_, ?_, (HBq.out.next HB1.out).trans hb6⟩
              · rw [HT.out, HST.out]; exact hI6
              · rw [HT.out, HST.out]
            case measure => simp [intOf]; omega
          · have hE : ¬ x.b = c.b := by simpa using hne
            have HST : Hid (wstep c (L, false) x = (L ++ [c] ++ [x], true)) := by
              show _ = _
              unfold wstep
              rw [if_pos ⟨rfl, by omega⟩, if_neg hE]
            go_wp2_with (first
              | (at_builtin; have hk := hI6; clear hk; refine pushC (w0 := w6) rfl (.tmp 33) (.tmp 35) rfl w0.heap.size w6.heap.size _ (L ++ [c]) x rfl rfl rfl hI6 (by simp; omega) (by have := hb6.size; omega) ?_
                 intro v7 w7 hI7 hb7 hk7)
              | (at_builtin; refine pushC (w0 := wr.alloc (.cells #[.int .i64 x.b, .string x.d] 94)) rfl (.tmp 24) (.tmp 26) rfl w0.heap.size (wr.heap.size + 1) _ L c rfl rfl (by simp) HR1.out (by omega) (by omega) ?_
                 intro v6 w6 hI6 hb6 hk6
                 have HX6 := hid ((hk6 _ (lt_of_block HX1.out) (fun e => by have := (HO1.out _ e.symm).2; omega)).trans HX1.out)
                 have HV6 := hid ((hb6.block _ (by omega)).trans ((HB1.out.block _ hkl).trans HVq.out))
                 have hx6 := lt_of_block HX6.out
                 have hv6 := lt_of_block HV6.out
                 obtain ⟨x0, x1⟩ := two_cells HX6.out
                 obtain ⟨y0, y1⟩ := two_cells HV6.out))
            go_roundw
            case rel =>
              refine ⟨q + 1, by go_num, by omega, ?_, ?_, ((HBq.out.next HB1.out).trans hb6).trans hb7⟩
              · rw [HT.out, HST.out]; exact hI7
              · rw [HT.out, HST.out]
            case measure => simp [intOf]; omega
    · have hqe : q = l.length := by omega
      subst hqe
      rw [List.take_length] at HRq hsl ⊢
      obtain ⟨S, hS⟩ : ∃ S, S = l.foldl (wstep c) ([], false) := ⟨_, rfl⟩
      rw [← hS] at HRq hsl HWW ⊢
      clear hS
      obtain ⟨L, p⟩ := S
      simp only at HRq hsl ⊢
      obtain ⟨oo, ocap, rfl, ho1, ho2⟩ := HRq.out.len
      unfold maxLen at ho2
      rw [List.nil_append] at HWW
      cases p with
      | true =>
        go_wp2
        go_ret
        exact ⟨_, rfl, by rw [← HWW.out]; exact cc_lie HRq.out, HBw.out, fun a ha => by obtain ⟨q1, q2⟩ := CRow.ty HRq.out a ha; exact ⟨by omega, q2⟩⟩
      | false =>
        go_wp2_with (first
          | (at_builtin; refine pushC (w0 := wr) rfl (.tmp 40) (.tmp 42) rfl w0.heap.size wr.heap.size _ L c rfl rfl rfl HRq.out (by omega) (by omega) ?_
             intro v6 w6 hI6 hb6 hk6))
        go_ret
        exact ⟨_, rfl, by rw [← HWW.out]; exact cc_lie hI6, (HB0.out.next (HBq.out.trans hb6)), fun a ha => by obtain ⟨q1, q2⟩ := CRow.ty hI6 a ha; exact ⟨by omega, q2⟩⟩
end Go.Proofs.YtopebghandojbaaGreat.Um
