import Derived.Test.YtaahdfogpehkfaaYa
namespace Go.Proofs.Ytaahdfogpehkfaa
open Go.RowKit Go.Maps
/-- a row of the call's own: changes -/
def CRow (base : Nat) (w : World) (v : Value) (l : List Chg) : Prop := w.ownsRow base 44 2 v l.length (cc l)
theorem CRow.nil (base : Nat) (w : World) : CRow base w (.slice none 0 0) [] := ⟨rfl, .inl ⟨rfl, rfl⟩⟩
theorem CRow.below {base : Nat} {w w' : World} {v : Value} {l : List Chg} (h : CRow base w v l) (k : Below w.heap.size w w') : CRow base w' v l := by
  obtain ⟨e1, e2 | ⟨x, cap, cur, e3, e4, e5, e6⟩⟩ := h
  · exact ⟨e1, .inl e2⟩
  · exact ⟨e1, .inr ⟨x, cap, cur, e3, e4, (k.block x (lt_of_block e5)).trans e5, e6⟩⟩
theorem CRow.own {base : Nat} {w : World} {v : Value} {l : List Chg} (h : CRow base w v l) : ∀ x, v.ownBlock = some x → base ≤ x ∧ x < w.heap.size := by
  obtain ⟨e1, ⟨rfl, _⟩ | ⟨x, cap, cur, rfl, e4, e5, e6⟩⟩ := h
  · intro x hx; cases hx
  · intro y hy; cases hy; exact ⟨e4, lt_of_block e5⟩
theorem CRow.len {base : Nat} {w : World} {v : Value} {l : List Chg} (h : CRow base w v l) : ∃ ao cap, v = .slice ao l.length cap ∧ l.length ≤ cap ∧ cap ≤ maxLen := by
  rcases h.2 with ⟨rfl, hz⟩ | ⟨gb, cap, cur, rfl, _, _, r1, r2, _⟩
  · exact ⟨none, 0, by rw [hz], by omega, by decide⟩
  · exact ⟨_, cap, rfl, r1, r2⟩
theorem pushC {ops : Array Oper} {rest : List Oper} {o : Oper} {a : Act} {Q : Exit → Act → World → Prop} {w0 : World} (hgd : o.guard = none) (s x : Operand)
    (ho : o.op = .call { callee := .builtin .append, args := #[s, x], argTypes := #[22, 22] }) (B1 bb : Nat) (v : Value) (T : List Chg) (y : Chg)
    (hs : a.eval s = v) (hx : a.eval x = .slice (some ⟨bb, 0, none⟩) 1 1) (hbb : bb = w0.heap.size) (hA : CRow B1 w0 v T) (hn : T.length ≤ 2000) (hbase : B1 ≤ w0.heap.size)
    (h : ∀ v' w', CRow B1 w' v' (T ++ [y]) → Below B1 w0 w' → (∀ k, k < w0.heap.size → some k ≠ v.ownBlock → w'.heap[k]? = w0.heap[k]?) → wpList Try.prog ops Q rest (a.put o.dst v') w') :
    wpList Try.prog ops Q (o :: rest) a (w0.alloc (.cells #[.int .i64 y.b, .string y.d] 44)) := by
  subst hbb
  obtain ⟨i0, hi, hz0, hz1, hz2⟩ := info_parts Try.info44
  have ho2 := hA.own
  refine wpList_append_own _ hgd s x 22 ho B1 44 i0 (.agg #[.int .i64 0, .string ⟨#[]⟩]) 2 24 Try.underlying22 hi hz0 hz1 hz2 rfl (by decide) v T.length (cc T) hs (World.ownsRow.alloc hA _) ⟨w0.heap.size, 0, none⟩ 1 1 (encC y) hx rfl (by
      intro j u hu
      match j, hu with
      | 0, hu => simp [encC] at hu; subst hu; simp [Addr.add]
      | 1, hu => simp [encC] at hu; subst hu; simp [Addr.add]
      | j + 2, hu => simp [encC] at hu) (by intro u hu; simp [encC] at hu; rcases hu with rfl | rfl <;> rfl) (by unfold maxLen; omega) (by omega) (by simp; omega) ?_
  intro v' w' hown hg _
  refine h v' w' ?_ ?_ (fun k hk hne => (hg.block k (by simp; omega) hne).trans (Below.heap_alloc _ _ k hk))
  · unfold CRow
    rw [cc_append, cc_one, List.length_append]
    exact hown
  · refine (below_alloc w0 (.cells #[.int .i64 y.b, .string y.d] 44)).mono hbase |>.trans ⟨hg.os, hg.tape, hg.output, hg.size, fun k hk => hg.block k ?_ ?_⟩
    · simp; omega
    · intro e
      have := (ho2 k e.symm).1
      omega
/-- one step of putting a change among others -/
def wstep (c : Chg) (s : List Chg × Bool) (x : Chg) : List Chg × Bool :=
  if s.2 = false ∧ c.b ≤ x.b then (if x.b = c.b then s.1 ++ [c] else s.1 ++ [c] ++ [x], true) else (if x.b = c.b then s.1 else s.1 ++ [x], s.2)
def wfin (c : Chg) (s : List Chg × Bool) : List Chg := if s.2 = false then s.1 ++ [c] else s.1
theorem wput (c : Chg) : ∀ (l acc : List Chg), (∀ x ∈ l, x.b ≠ c.b) → l.foldl (wstep c) (acc, true) = (acc ++ l, true)
  | [], acc, _ => by simp
  | x :: l, acc, h => by
    have e : wstep c (acc, true) x = (acc ++ [x], true) := by unfold wstep; simp [h x (by simp)]
    rw [List.foldl_cons, e, wput c l _ (fun y hy => h y (by simp [hy])), List.append_assoc]; rfl
theorem wwith (c : Chg) : ∀ (l acc : List Chg), Rise l → wfin c (l.foldl (wstep c) (acc, false)) = acc ++ withL l c
  | [], acc, _ => rfl
  | x :: l, acc, h => by
    unfold Rise at h
    rw [List.pairwise_cons] at h
    rw [List.foldl_cons]
    unfold withL
    by_cases h1 : x.b < c.b
    · have e : wstep c (acc, false) x = (acc ++ [x], false) := by
        unfold wstep
        rw [if_neg (by simp; omega), if_neg (by omega)]
      rw [e, wwith c l _ h.2, if_pos h1, List.append_assoc]; rfl
    · rw [if_neg h1]
      by_cases h2 : x.b = c.b
      · have e : wstep c (acc, false) x = (acc ++ [c], true) := by
          unfold wstep
          rw [if_pos ⟨rfl, by omega⟩, if_pos h2]
        rw [e, wput c l _ (fun y hy => by have := h.1 y hy; omega), if_pos h2]
        simp [wfin]
      · have e : wstep c (acc, false) x = (acc ++ [c] ++ [x], true) := by
          unfold wstep
          rw [if_pos ⟨rfl, by omega⟩, if_neg h2]
        rw [e, wput c l _ (fun y hy => by have := h.1 y hy; omega), if_neg h2]
        simp [wfin]
theorem wlen (c : Chg) : ∀ (l : List Chg) (s : List Chg × Bool), (l.foldl (wstep c) s).1.length ≤ s.1.length + 2 * l.length
  | [], s => by simp
  | x :: l, s => by
    have ih := wlen c l (wstep c s x)
    have h1 : (wstep c s x).1.length ≤ s.1.length + 2 := by
      unfold wstep
      split <;> split <;> simp
    rw [List.foldl_cons, List.length_cons]
    omega
theorem wtake (c : Chg) (l : List Chg) (q : Nat) (h : q < l.length) : (l.take (q + 1)).foldl (wstep c) ([], false) = wstep c ((l.take q).foldl (wstep c) ([], false)) l[q] := by
  rw [List.take_succ_eq_append_getElem h, List.foldl_append]; rfl
set_option maxRecDepth 100000 in
set_option maxHeartbeats 8000000 in
theorem with_any (v : Value) (l : List Chg) (c : Chg) (w : World) (h : CLie w v l) (hr : Rise l) (hl : l.length ≤ 200) : Calls Try.prog 23 #[v, .agg #[.int .i64 c.b, .string c.d]] w fun e w' => ∃ v', e = .returned v' ∧ CLie w' v' (withL l c) ∧ Below w.heap.size w w' := by
  obtain ⟨ao, cap, rfl, hlc, hcm, hcell⟩ := h
  have HC := hid hcell
  clear hcell
  unfold maxLen at hcm
  have HV0 := hid (box_at w (.cells #[.int .i64 c.b, .string c.d] 44))
  have HB0 := hid (below_alloc w (.cells #[.int .i64 c.b, .string c.d] 44))
  have hz0 : (w.alloc (.cells #[.int .i64 c.b, .string c.d] 44)).heap.size = w.heap.size + 1 := by simp
  have HWW := hid (wwith c l [] hr)
  go_enter Try.func23, Try.ntmps23
  go_wp2
  obtain ⟨w0, hw0⟩ : ∃ w0, w0 = w.alloc (.cells #[.int .i64 c.b, .string c.d] 44) := ⟨_, rfl⟩
  rw [← hw0] at HV0 HB0 hz0 ⊢
  clear hw0
  go_loopw [5, 6, 11] (fun ov pv i wr => ∃ q : Nat, i = .int .i64 q ∧ q ≤ l.length ∧ CRow w0.heap.size wr ov ((l.take q).foldl (wstep c) ([], false)).1 ∧ pv = .bool ((l.take q).foldl (wstep c) ([], false)).2 ∧ Below w0.heap.size w0 wr) (fun _ _ i _ => l.length - (intOf i).toNat)
  case atStart => exact ⟨0, rfl, Nat.zero_le _, CRow.nil _ _, rfl, Below.refl _ _⟩
  case round =>
    obtain ⟨q, rfl, hq, hRq, rfl, hBq⟩ := hrel
    have HRq := hid hRq
    have HBq := hid hBq
    have HBw := hid (HB0.out.next hBq)
    have hzq := hBq.size
    have HVq := hid ((hBq.block _ (by omega)).trans HV0.out)
    clear hRq hBq
    obtain ⟨k0, k1⟩ := two_cells HVq.out
    have hkl := lt_of_block HVq.out
    have hsl := wlen c (l.take q) ([], false)
    rw [List.length_take, Nat.min_eq_left hq] at hsl
    simp only [List.length_nil] at hsl
    by_cases hqk : q < l.length
    · obtain ⟨gb, off, e, hgl, c0, c1⟩ := HC.out q hqk
      subst e
      have HT := hid (wtake c l q hqk)
      obtain ⟨x, hx⟩ : ∃ x, x = l[q] := ⟨_, rfl⟩
      rw [← hx] at c0 c1 HT
      clear hx
      replace c0 := (HBw.out.cell (p := ⟨gb, off + q * 2, none⟩) hgl).trans c0
      replace c1 := (HBw.out.cell (p := ⟨gb, off + q * 2 + 1, none⟩) hgl).trans c1
      have hgr : gb < wr.heap.size := Nat.lt_of_lt_of_le hgl HBw.out.size
      obtain ⟨S, hS⟩ : ∃ S, S = (l.take q).foldl (wstep c) ([], false) := ⟨_, rfl⟩
      rw [← hS] at HRq hsl HT ⊢
      clear hS
      obtain ⟨L, p⟩ := S
      simp only at HRq hsl ⊢
      obtain ⟨oo, ocap, rfl, ho1, ho2⟩ := HRq.out.len
      unfold maxLen at ho2
      have HX1 := hid (box_at wr (.cells #[.int .i64 x.b, .string x.d] 44))
      have HB1 := hid (below_alloc wr (.cells #[.int .i64 x.b, .string x.d] 44))
      have HR1 := hid (HRq.out.below HB1.out)
      have HO1 := hid HRq.out.own
      have hz1 : (wr.alloc (.cells #[.int .i64 x.b, .string x.d] 44)).heap.size = wr.heap.size + 1 := by simp
      cases p with
      | true =>
        cases hne : (x.b != c.b)
        · have HST : Hid (wstep c (L, true) x = (L, true)) := by
            have hE : x.b = c.b := by simpa using hne
            show _ = _; unfold wstep; simp [hE]
          go_wp2
          go_roundw
          case rel =>
            refine ⟨q + 1, by go_num, by omega, ?_, ?_, HBq.out.next HB1.out⟩
            · rw [HT.out, HST.out]; exact HR1.out
            · rw [HT.out, HST.out]
          case measure => simp [intOf]; omega
        · have hE : ¬ x.b = c.b := by simpa using hne
          have HST : Hid (wstep c (L, true) x = (L ++ [x], true)) := by show _ = _; unfold wstep; simp [hE]
          go_wp2_with (first
            | (at_builtin; refine pushC (w0 := wr.alloc (.cells #[.int .i64 x.b, .string x.d] 44)) rfl (.tmp 33) (.tmp 35) rfl w0.heap.size (wr.heap.size + 1) _ L x rfl rfl (by simp) HR1.out (by omega) (by omega) ?_
               intro v6 w6 hI6 hb6 hk6))
          go_roundw
          case rel =>
            refine ⟨q + 1, by go_num, by omega, ?_, ?_, (HBq.out.next HB1.out).trans hb6⟩
            · rw [HT.out, HST.out]; exact hI6
            · rw [HT.out, HST.out]
          case measure => simp [intOf]; omega
      | false =>
        by_cases hlt : x.b < c.b
        · have hne : (x.b != c.b) = true := by simp; omega
          have HST : Hid (wstep c (L, false) x = (L ++ [x], false)) := by
            show _ = _
            unfold wstep
            rw [if_neg (by simp; omega), if_neg (by omega)]
          go_wp2_with (first
            | (at_builtin; refine pushC (w0 := wr.alloc (.cells #[.int .i64 x.b, .string x.d] 44)) rfl (.tmp 33) (.tmp 35) rfl w0.heap.size (wr.heap.size + 1) _ L x rfl rfl (by simp) HR1.out (by omega) (by omega) ?_
               intro v6 w6 hI6 hb6 hk6))
          go_roundw
          case rel =>
            refine ⟨q + 1, by go_num, by omega, ?_, ?_, (HBq.out.next HB1.out).trans hb6⟩
            · rw [HT.out, HST.out]; exact hI6
            · rw [HT.out, HST.out]
          case measure => simp [intOf]; omega
        · cases hne : (x.b != c.b)
          · have HST : Hid (wstep c (L, false) x = (L ++ [c], true)) := by
              have hE : x.b = c.b := by simpa using hne
              show _ = _
              unfold wstep
              rw [if_pos ⟨rfl, by omega⟩, if_pos hE]
            go_wp2_with (first
              | (at_builtin; refine pushC (w0 := wr.alloc (.cells #[.int .i64 x.b, .string x.d] 44)) rfl (.tmp 24) (.tmp 26) rfl w0.heap.size (wr.heap.size + 1) _ L c rfl rfl (by simp) HR1.out (by omega) (by omega) ?_
                 intro v6 w6 hI6 hb6 hk6
                 have HX6 := hid ((hk6 _ (lt_of_block HX1.out) (fun e => by have := (HO1.out _ e.symm).2; omega)).trans HX1.out)
                 have HV6 := hid ((hb6.block _ (by omega)).trans ((HB1.out.block _ hkl).trans HVq.out))
                 have hx6 := lt_of_block HX6.out
                 have hv6 := lt_of_block HV6.out
                 obtain ⟨x0, x1⟩ := two_cells HX6.out
                 obtain ⟨y0, y1⟩ := two_cells HV6.out))
            go_roundw
            case rel =>
              refine ⟨q + 1, by go_num, by omega, ?_, ?_, (HBq.out.next HB1.out).trans hb6⟩
              · rw [HT.out, HST.out]; exact hI6
              · rw [HT.out, HST.out]
            case measure => simp [intOf]; omega
          · have hE : ¬ x.b = c.b := by simpa using hne
            have HST : Hid (wstep c (L, false) x = (L ++ [c] ++ [x], true)) := by
              show _ = _
              unfold wstep
              rw [if_pos ⟨rfl, by omega⟩, if_neg hE]
            go_wp2_with (first
              | (at_builtin; have hk := hI6; clear hk; refine pushC (w0 := w6) rfl (.tmp 33) (.tmp 35) rfl w0.heap.size w6.heap.size _ (L ++ [c]) x rfl rfl rfl hI6 (by simp; omega) (by have := hb6.size; omega) ?_
                 intro v7 w7 hI7 hb7 hk7)
              | (at_builtin; refine pushC (w0 := wr.alloc (.cells #[.int .i64 x.b, .string x.d] 44)) rfl (.tmp 24) (.tmp 26) rfl w0.heap.size (wr.heap.size + 1) _ L c rfl rfl (by simp) HR1.out (by omega) (by omega) ?_
                 intro v6 w6 hI6 hb6 hk6
                 have HX6 := hid ((hk6 _ (lt_of_block HX1.out) (fun e => by have := (HO1.out _ e.symm).2; omega)).trans HX1.out)
                 have HV6 := hid ((hb6.block _ (by omega)).trans ((HB1.out.block _ hkl).trans HVq.out))
                 have hx6 := lt_of_block HX6.out
                 have hv6 := lt_of_block HV6.out
                 obtain ⟨x0, x1⟩ := two_cells HX6.out
                 obtain ⟨y0, y1⟩ := two_cells HV6.out))
            go_roundw
            case rel =>
              refine ⟨q + 1, by go_num, by omega, ?_, ?_, ((HBq.out.next HB1.out).trans hb6).trans hb7⟩
              · rw [HT.out, HST.out]; exact hI7
              · rw [HT.out, HST.out]
            case measure => simp [intOf]; omega
    · have hqe : q = l.length := by omega
      subst hqe
      rw [List.take_length] at HRq hsl ⊢
      obtain ⟨S, hS⟩ : ∃ S, S = l.foldl (wstep c) ([], false) := ⟨_, rfl⟩
      rw [← hS] at HRq hsl HWW ⊢
      clear hS
      obtain ⟨L, p⟩ := S
      simp only at HRq hsl ⊢
      obtain ⟨oo, ocap, rfl, ho1, ho2⟩ := HRq.out.len
      unfold maxLen at ho2
      rw [List.nil_append] at HWW
      cases p with
      | true =>
        go_wp2
        go_ret
        exact ⟨_, rfl, by rw [← HWW.out]; exact cc_lie HRq.out, HBw.out⟩
      | false =>
        go_wp2_with (first
          | (at_builtin; refine pushC (w0 := wr) rfl (.tmp 40) (.tmp 42) rfl w0.heap.size wr.heap.size _ L c rfl rfl rfl HRq.out (by omega) (by omega) ?_
             intro v6 w6 hI6 hb6 hk6))
        go_ret
        exact ⟨_, rfl, by rw [← HWW.out]; exact cc_lie hI6, (HB0.out.next (HBq.out.trans hb6))⟩
end Go.Proofs.Ytaahdfogpehkfaa
