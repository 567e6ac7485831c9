import Derived.Test.YtmemelamgldpcaaVj
namespace Go.Proofs.Ytmemelamgldpcaa
open Go.RowKit

/-- a row of the call's own: numbers -/
def IRow (base : Nat) (w : World) (v : Value) (l : List Int) : Prop := w.ownsRow base 3 1 v l.length (l.map (Value.int .i64))
theorem IRow.nil (base : Nat) (w : World) : IRow base w (.slice none 0 0) [] := ⟨rfl, .inl ⟨rfl, rfl⟩⟩
theorem IRow.own {base : Nat} {w : World} {v : Value} {l : List Int} (h : IRow base w v l) : ∀ x, v.ownBlock = some x → base ≤ x ∧ ∃ cur, w.heap[x]? = some (.cells cur 3 (0, 0)) := by
  obtain ⟨e1, ⟨rfl, _⟩ | ⟨x, cap, cur, rfl, e4, e5, e6⟩⟩ := h
  · intro x hx; cases hx
  · intro y hy; cases hy; exact ⟨e4, _, e5⟩
theorem IRow.lie {base : Nat} {w : World} {v : Value} {l : List Int} (h : IRow base w v l) : ILie w v l := by
  have hh := h
  obtain ⟨e1, ⟨rfl, hz⟩ | ⟨x, cap, cur, rfl, e4, e5, r1, r2, r3⟩⟩ := h
  · have : l = [] := List.eq_nil_of_length_eq_zero hz
    subst this
    exact ⟨none, 0, rfl, Nat.le_refl _, by decide, fun i hi => by simp at hi⟩
  · refine ⟨_, cap, rfl, r1, r2, fun i hi => ⟨x, 0, rfl, (Array.getElem?_eq_some_iff.1 e5).1, ?_⟩⟩
    have := World.ownsRow.cellAt hh i (by omega)
    rw [Nat.zero_add, this]
    simp [hi]
theorem pushI {ops : Array Oper} {rest : List Oper} {o : Oper} {a : Act} {Q : Exit → Act → World → Prop} {w0 : World} (hgd : o.guard = none) (s x : Operand)
    (ho : o.op = .call { callee := .builtin .append, args := #[s, x], argTypes := #[32, 32] }) (B1 bb : Nat) (v : Value) (T : List Int) (y : Int)
    (hs : a.eval s = v) (hx : a.eval x = .slice (some ⟨bb, 0, none⟩) 1 1) (hbb : bb = w0.heap.size) (hA : IRow B1 w0 v T) (hn : T.length ≤ 2000000) (hbase : B1 ≤ w0.heap.size)
    (h : ∀ v' w', IRow B1 w' v' (T ++ [y]) → Below B1 w0 w' → wpList Try.prog ops Q rest (a.put o.dst v') w') :
    wpList Try.prog ops Q (o :: rest) a (w0.alloc (.cells #[.int .i64 y] 3)) := by
  subst hbb
  obtain ⟨i0, hi, hz0, hz1, hz2⟩ := info_parts info3
  have ho2 := hA.own
  refine wpList_append_own _ hgd s x 32 ho B1 3 i0 (.int .i64 0) 1 8 Try.underlying32 hi hz0 hz1 hz2 rfl (by decide) v T.length (T.map (Value.int .i64)) hs (World.ownsRow.alloc hA _) ⟨w0.heap.size, 0, none⟩ 1 1 [.int .i64 y] hx rfl (by
      intro j u hu
      match j, hu with
      | 0, hu => simp at hu; subst hu; simp [Addr.add]
      | j + 1, hu => simp at hu) (by intro u hu; simp at hu; subst hu; rfl) (by unfold maxLen; omega) (by omega) (by simp; omega) ?_
  intro v' w' hown hg _
  refine h v' w' ?_ ?_
  · unfold IRow
    rw [List.map_append, List.length_append]
    exact hown
  · refine (below_alloc w0 (.cells #[.int .i64 y] 3)).mono hbase |>.trans ⟨hg.os, hg.tape, hg.output, hg.size, fun k hk => hg.block k ?_ ?_⟩
    · simp; omega
    · intro e
      have := (ho2 k e.symm).1
      omega
/-- what a node has then -/
def nx (a : Int) : Option Int → Int
  | some b => if a < b ∧ b ≤ 1099511627776 then b else a
  | none => a
def nxl (l more : List Int) (k : Nat) : List Int := (List.range k).map fun i => nx (l.getD i 0) more[i]?
theorem nxl_len (l more : List Int) (k : Nat) : (nxl l more k).length = k := by simp [nxl]
theorem nxl_succ (l more : List Int) (k : Nat) : nxl l more (k + 1) = nxl l more k ++ [nx (l.getD k 0) more[k]?] := by simp [nxl, List.range_succ]
theorem nx_ge (a : Int) (o : Option Int) : a ≤ nx a o := by
  unfold nx
  split
  · split <;> omega
  · omega
theorem nx_le {a : Int} (o : Option Int) (h : a ≤ 1099511627776) : nx a o ≤ 1099511627776 := by
  unfold nx
  split
  · split <;> omega
  · omega
theorem cge_take {l : List Int} {k : Nat} (hk : k < l.length) (a : Int) : cge (l.take (k + 1)) a = cge (l.take k) a + if a ≤ l[k] then 1 else 0 := by
  rw [List.take_succ_eq_append_getElem hk]
  unfold cge
  rw [List.countP_append, List.countP_singleton]
  simp
theorem cge_mono : ∀ (l : List Int) (f : Nat → Int) (a : Int), (∀ i (h : i < l.length), l[i] ≤ f i) → cge l a ≤ cge ((List.range l.length).map f) a
  | [], _, _, _ => by simp [cge]
  | x :: l, f, a, h => by
    have ih := cge_mono l (fun i => f (i + 1)) a (fun i hi => h (i + 1) (by simpa using hi))
    have h0 := h 0 (by simp)
    simp only [List.getElem_cons_zero] at h0
    rw [List.length_cons, List.range_succ_eq_map, List.map_cons, List.map_map]
    unfold cge at ih ⊢
    rw [List.countP_cons, List.countP_cons]
    have e : (List.map (f ∘ Nat.succ) (List.range l.length)) = List.map (fun i => f (i + 1)) (List.range l.length) := rfl
    rw [e]
    have : (if decide (a ≤ x) = true then 1 else 0) ≤ (if decide (a ≤ f 0) = true then 1 else 0) := by
      by_cases g : a ≤ x
      · rw [if_pos (by simpa using g), if_pos (by simp; omega)]; omega
      · rw [if_neg (by simpa using g)]; omega
    omega
/-- what is committed stays so -/
theorem grow_facts {l more : List Int} (h : comK l = true) : ∃ m : Nat, l.length = 2 * m + 1 ∧ m ≤ 3 ∧ (m + 1 ≤ cge l (comR l)) ∧ cge l (comR l + 1) ≤ m ∧ comE (nxl l more l.length) = 0 ∧ comR l ≤ comR (nxl l more l.length) := by
  obtain ⟨h1, h2⟩ := (comK_iff l).1 h
  have hl : l.length = 2 * (l.length / 2) + 1 := by omega
  obtain ⟨M, e, hm, g1, g2⟩ := med hl
  have eM : comR l = M := by unfold comR; rw [h, if_pos rfl, e]
  have hge : ∀ i (hi : i < l.length), l[i] ≤ nx (l.getD i 0) more[i]? := fun i hi => by
    have : l.getD i 0 = l[i] := by rw [List.getD_eq_getElem?_getD, List.getElem?_eq_getElem hi]; rfl
    rw [this]; exact nx_ge _ _
  have hK : comK (nxl l more l.length) = true := by
    rw [comK_iff, nxl_len]
    refine ⟨h1, ?_⟩
    rw [List.any_eq_false]
    intro x hx
    unfold nxl at hx
    obtain ⟨i, hi, rfl⟩ := List.mem_map.1 hx
    rw [List.mem_range] at hi
    have hb := up_mem h2 l[i] (List.getElem_mem hi)
    have h3 := hge i hi
    have : l.getD i 0 = l[i] := by rw [List.getD_eq_getElem?_getD, List.getElem?_eq_getElem hi]; rfl
    have h4 := nx_le (a := l.getD i 0) more[i]? (by rw [this]; exact hb.2)
    have := (up_iff (nx (l.getD i 0) more[i]?) 1099511627776).2 ⟨by omega, h4⟩
    rw [this]
    decide
  have hlN : (nxl l more l.length).length = 2 * (l.length / 2) + 1 := by rw [nxl_len]; exact hl
  obtain ⟨M', e', hm', g1', g2'⟩ := med hlN
  have eM' : comR (nxl l more l.length) = M' := by unfold comR; rw [hK, if_pos rfl, e']
  refine ⟨l.length / 2, hl, by omega, by rw [eM]; exact g1, by rw [eM]; exact g2 _ (by omega), by unfold comE; rw [hK]; rfl, ?_⟩
  rw [eM, eM']
  apply Classical.byContradiction
  intro hc
  have h5 := g2' M (by omega)
  have h6 := cge_mono l (fun i => nx (l.getD i 0) more[i]?) M hge
  unfold nxl at h5
  omega
theorem next_ok {n v d : Int} (hn : n = 1 ∨ n = 3 ∨ n = 5 ∨ n = 7) (hv : 0 ≤ v ∧ v ≤ 549755813888) (hd : 0 ≤ d ∧ d ≤ n - 1) : nexE n v d = 0 ∧ v < nexR n v d ∧ nexR n v d ≤ v + n := by
  have hk : nok n v d = true := (nok_iff n v d).2 ⟨hn, by omega, hd⟩
  obtain ⟨t1, t2, _, _⟩ := trn_first (v := v) hn hd
  have ht : ¬ 1099511627776 - v < trn n v d := by omega
  rw [(nok_some hk ht).1, (nok_some hk ht).2]
  exact ⟨rfl, by omega, by omega⟩
/-- the number at place k of the second list -/
def HasY (w : World) (ao : Option Addr) (k q : Nat) (y : Int) : Prop := k < q ∧ ∃ gb off, ao = some ⟨gb, off, none⟩ ∧ gb < w.heap.size ∧ w.cell? ⟨gb, off + k, none⟩ = some (.int .i64 y)
set_option maxRecDepth 100000 in
set_option maxHeartbeats 4000000 in
theorem grows_walk {v u : Value} {l more : List Int} {w : World} (h : ILie w v l) (hm : ILie w u more) (t : Int) : Calls Try.prog 7 #[v, u, .int .i64 t] w fun e w' => e = .returned (.bool true) ∧ Below w.heap.size w w' := by
  rcases hK : comK l with _ | _
  · have x1 : comR l = 0 := by unfold comR; rw [hK]; rfl
    have x2 : comE l = 1 := by unfold comE; rw [hK]; rfl
    have C1 := hid (commit_any h)
    rw [x1, x2] at C1
    clear h hm x1 x2
    go_enter Try.func7, Try.ntmps7
    go_wp2_with (first
      | (go_at_call 15; refine (C1.out).mono ?_; rintro e w1 ⟨rfl, hb1⟩)
      | (go_at_call 14; refine (speaks_any _).mono ?_; rintro e w2 ⟨rfl, hb2⟩))
    go_ret
    exact ⟨rfl, hb1.next hb2 hb1.size⟩
  · obtain ⟨m, f1, f2, f3, f4, f5, f6⟩ := grow_facts (more := more) hK
    have x2 : comE l = 0 := by unfold comE; rw [hK]; rfl
    obtain ⟨c, hc⟩ : ∃ c, c = comR l := ⟨_, rfl⟩
    rw [← hc] at f3 f4 f6
    have C1 := hid (commit_any h)
    rw [← hc, x2] at C1
    clear x2 hK hc
    have HL := hid h
    have HM := hid hm
    obtain ⟨b, off, cap, rfl, hb, hcl⟩ := h.some (by omega)
    have HC := hid hcl
    obtain ⟨ao, cap', rfl, m1, m2, m3⟩ := hm
    obtain ⟨n, hn⟩ : ∃ n, n = l.length := ⟨_, rfl⟩
    obtain ⟨q, hq⟩ : ∃ q, q = more.length := ⟨_, rfl⟩
    obtain ⟨d, hd⟩ : ∃ d, d = comR (nxl l more l.length) := ⟨_, rfl⟩
    have C2 : Hid (∀ (W : World) (x : Value), ILie W x (nxl l more n) → Calls Try.prog 15 #[x] W fun e w' => e = .returned (.tuple #[.int .i64 d, .int .i64 0]) ∧ Below W.heap.size W w') := hid (fun W x hi => by
      have := commit_any hi
      rw [hn, ← hd, f5] at this
      exact this)
    rw [← hd] at f6
    rw [← hn] at f1 HL C1 ⊢
    rw [← hq] at m1 HM ⊢
    have hn7 : 1 ≤ n ∧ n ≤ 7 := by omega
    have hnN : Hid ((n : Int) = 1 ∨ (n : Int) = 3 ∨ (n : Int) = 5 ∨ (n : Int) = 7) := hid (by omega)
    have hq7 : q ≤ 9223372036854775807 := by unfold maxLen at m2; omega
    have e4 : enoR (n : Int) = (m : Int) + 1 := by unfold enoR; rw [(nod_iff _).2 hnN.out, if_pos rfl]; omega
    have e5 : enoE (n : Int) = 0 := by unfold enoE; rw [(nod_iff _).2 hnN.out]; rfl
    have C9 := hid (fun W => enough_any (n : Int) W)
    rw [e4, e5] at C9
    replace f1 := hid f1
    replace f3 := hid f3
    replace f4 := hid f4
    replace m3 := hid m3
    replace hn := hid hn
    replace hq := hid hq
    clear h hcl hd e4 e5 f5 m1 m2
    go_enter Try.func7, Try.ntmps7
    go_wp2_with (first
      | (go_at_call 15; refine (C1.out).mono ?_; rintro e w1 ⟨rfl, hb1⟩))
    have HB1 := hid hb1
    clear hb1
    go_loopw [35, 9, 10, 11] (fun i hv av sv wr => ∃ (k : Nat) (H A : Int), k ≤ n ∧ i = .int .i64 k ∧ hv = .int .i64 H ∧ av = .int .i64 A ∧ (0 ≤ H ∧ H ≤ k) ∧ (0 ≤ A ∧ A ≤ k) ∧ Hid (H = cge (l.take k) c ∧ A = cge (l.take k) (c + 1)) ∧ Hid (IRow w1.heap.size wr sv (nxl l more k)) ∧ Hid (Below w1.heap.size w1 wr)) (fun i _ _ _ _ => n - (intOf i).toNat)
    case atStart => exact ⟨0, 0, 0, Nat.zero_le _, rfl, rfl, rfl, by omega, by omega, hid (by simp [cge]), hid (IRow.nil _ _), hid (Below.refl _ _)⟩
    case round =>
      obtain ⟨k, H, A, hk, rfl, rfl, rfl, hH, hA, HD, HR, HW⟩ := hrel
      have HBr := hid (HB1.out.next HW.out HB1.out.size)
      by_cases hlt : k < n
      · have hk' : k < l.length := by rw [← hn.out]; exact hlt
        obtain ⟨x, hx⟩ : ∃ x, x = l[k]'hk' := ⟨_, rfl⟩
        have c0 : wr.cell? ⟨b, off + k, none⟩ = some (.int .i64 x) := by rw [hx]; exact (HBr.out.cell (p := ⟨b, off + k, none⟩) hb).trans (HC.out k hk')
        have HS : Hid (cge (l.take (k + 1)) c = cge (l.take k) c + (if c ≤ x then 1 else 0) ∧ cge (l.take (k + 1)) (c + 1) = cge (l.take k) (c + 1) + if c + 1 ≤ x then 1 else 0) := hid (by rw [hx]; exact ⟨cge_take hk' _, cge_take hk' _⟩)
        have HX : Hid (nxl l more (k + 1) = nxl l more k ++ [nx x more[k]?]) := hid (by rw [nxl_succ, hx, List.getD_eq_getElem?_getD, List.getElem?_eq_getElem hk']; rfl)
        have hlN : Hid ((nxl l more k).length ≤ 2000000) := hid (by rw [nxl_len]; omega)
        clear hx hk'
        have hcase : (∃ y, HasY wr ao k q y ∧ (x < y ∧ y ≤ 1099511627776) ∧ nx x more[k]? = y) ∨ ((∃ y, HasY wr ao k q y ∧ x < y ∧ ¬ y ≤ 1099511627776) ∧ nx x more[k]? = x) ∨ ((∃ y, HasY wr ao k q y ∧ ¬ x < y) ∧ nx x more[k]? = x) ∨ (¬ k < q ∧ nx x more[k]? = x) := by
          by_cases hkq : k < q
          · have hk2 : k < more.length := by rw [← hq.out]; exact hkq
            obtain ⟨gb, of2, ea, hgb, cc⟩ := m3.out k hk2
            have hy : HasY wr ao k q more[k] := ⟨hkq, gb, of2, ea, Nat.lt_of_lt_of_le hgb HBr.out.size, (HBr.out.cell (p := ⟨gb, of2 + k, none⟩) hgb).trans cc⟩
            rw [List.getElem?_eq_getElem hk2]
            unfold nx
            by_cases h1 : x < more[k]
            · by_cases h2 : more[k] ≤ 1099511627776
              · exact .inl ⟨_, hy, ⟨h1, h2⟩, if_pos ⟨h1, h2⟩⟩
              · exact .inr (.inl ⟨⟨_, hy, h1, h2⟩, if_neg (fun h => h2 h.2)⟩)
            · exact .inr (.inr (.inl ⟨⟨_, hy, h1⟩, if_neg (fun h => h1 h.1)⟩))
          · have : more[k]? = none := List.getElem?_eq_none (by rw [← hq.out]; omega)
            rw [this]
            exact .inr (.inr (.inr ⟨hkq, rfl⟩))
        have hcs : x < c ∨ x = c ∨ c < x := by omega
        rcases hcase with ⟨y, hy, hyx, hny⟩ | ⟨⟨y, hy, hyx, hyM⟩, hny⟩ | ⟨⟨y, hy, hyx⟩, hny⟩ | ⟨hkq, hny⟩
        · have hny := hid hny
          rcases hcs with hcs | hcs | hcs
          · obtain ⟨hkq, gb, of2, rfl, hgb, d0⟩ := hy
            have z1 : decide (c ≤ x) = false := decide_eq_false (by omega)
            have z2 : decide (c < x) = false := decide_eq_false (by omega)
            go_wp2_with (first
              | (at_builtin; refine pushI rfl (.tmp 73) (.tmp 75) rfl w1.heap.size _ _ (nxl l more k) y rfl rfl rfl HR.out hlN.out HW.out.size ?_; intro v2 w2 hr2 hb2; have HR2 := hid hr2; have HW2 : Hid (Below w1.heap.size w1 w2) := hid (HW.out.trans hb2); clear hr2 hb2))
            go_roundw
            case rel => exact ⟨k + 1, H, A, hlt, by simp, rfl, rfl, by omega, by omega, hid (by rw [HS.out.1, HS.out.2, if_neg (show ¬ c ≤ x by omega), if_neg (show ¬ c + 1 ≤ x by omega)]; have := HD.out; omega), hid (by rw [HX.out, hny.out]; exact HR2.out), HW2⟩
            case measure => simp [intOf]; omega
          · obtain ⟨hkq, gb, of2, rfl, hgb, d0⟩ := hy
            subst hcs
            have z1 : decide (x ≤ x) = true := decide_eq_true (by omega)
            have z2 : decide (x < x) = false := decide_eq_false (by omega)
            go_wp2_with (first
              | (at_builtin; refine pushI rfl (.tmp 73) (.tmp 75) rfl w1.heap.size _ _ (nxl l more k) y rfl rfl rfl HR.out hlN.out HW.out.size ?_; intro v2 w2 hr2 hb2; have HR2 := hid hr2; have HW2 : Hid (Below w1.heap.size w1 w2) := hid (HW.out.trans hb2); clear hr2 hb2))
            go_roundw
            case rel => exact ⟨k + 1, H + 1, A, hlt, by simp, by simp, rfl, by omega, by omega, hid (by rw [HS.out.1, HS.out.2, if_pos (show x ≤ x by omega), if_neg (show ¬ x + 1 ≤ x by omega)]; have := HD.out; omega), hid (by rw [HX.out, hny.out]; exact HR2.out), HW2⟩
            case measure => simp [intOf]; omega
          · obtain ⟨hkq, gb, of2, rfl, hgb, d0⟩ := hy
            have z1 : decide (c ≤ x) = true := decide_eq_true (by omega)
            have z2 : decide (c < x) = true := decide_eq_true (by omega)
            go_wp2_with (first
              | (at_builtin; refine pushI rfl (.tmp 73) (.tmp 75) rfl w1.heap.size _ _ (nxl l more k) y rfl rfl rfl HR.out hlN.out HW.out.size ?_; intro v2 w2 hr2 hb2; have HR2 := hid hr2; have HW2 : Hid (Below w1.heap.size w1 w2) := hid (HW.out.trans hb2); clear hr2 hb2))
            go_roundw
            case rel => exact ⟨k + 1, H + 1, A + 1, hlt, by simp, by simp, by simp, by omega, by omega, hid (by rw [HS.out.1, HS.out.2, if_pos (show c ≤ x by omega), if_pos (show c + 1 ≤ x by omega)]; have := HD.out; omega), hid (by rw [HX.out, hny.out]; exact HR2.out), HW2⟩
            case measure => simp [intOf]; omega
        · have hny := hid hny
          rcases hcs with hcs | hcs | hcs
          · obtain ⟨hkq, gb, of2, rfl, hgb, d0⟩ := hy
            have z1 : decide (c ≤ x) = false := decide_eq_false (by omega)
            have z2 : decide (c < x) = false := decide_eq_false (by omega)
            go_wp2_with (first
              | (at_builtin; refine pushI rfl (.tmp 73) (.tmp 75) rfl w1.heap.size _ _ (nxl l more k) x rfl rfl rfl HR.out hlN.out HW.out.size ?_; intro v2 w2 hr2 hb2; have HR2 := hid hr2; have HW2 : Hid (Below w1.heap.size w1 w2) := hid (HW.out.trans hb2); clear hr2 hb2))
            go_roundw
            case rel => exact ⟨k + 1, H, A, hlt, by simp, rfl, rfl, by omega, by omega, hid (by rw [HS.out.1, HS.out.2, if_neg (show ¬ c ≤ x by omega), if_neg (show ¬ c + 1 ≤ x by omega)]; have := HD.out; omega), hid (by rw [HX.out, hny.out]; exact HR2.out), HW2⟩
            case measure => simp [intOf]; omega
          · obtain ⟨hkq, gb, of2, rfl, hgb, d0⟩ := hy
            subst hcs
            have z1 : decide (x ≤ x) = true := decide_eq_true (by omega)
            have z2 : decide (x < x) = false := decide_eq_false (by omega)
            go_wp2_with (first
              | (at_builtin; refine pushI rfl (.tmp 73) (.tmp 75) rfl w1.heap.size _ _ (nxl l more k) x rfl rfl rfl HR.out hlN.out HW.out.size ?_; intro v2 w2 hr2 hb2; have HR2 := hid hr2; have HW2 : Hid (Below w1.heap.size w1 w2) := hid (HW.out.trans hb2); clear hr2 hb2))
            go_roundw
            case rel => exact ⟨k + 1, H + 1, A, hlt, by simp, by simp, rfl, by omega, by omega, hid (by rw [HS.out.1, HS.out.2, if_pos (show x ≤ x by omega), if_neg (show ¬ x + 1 ≤ x by omega)]; have := HD.out; omega), hid (by rw [HX.out, hny.out]; exact HR2.out), HW2⟩
            case measure => simp [intOf]; omega
          · obtain ⟨hkq, gb, of2, rfl, hgb, d0⟩ := hy
            have z1 : decide (c ≤ x) = true := decide_eq_true (by omega)
            have z2 : decide (c < x) = true := decide_eq_true (by omega)
            go_wp2_with (first
              | (at_builtin; refine pushI rfl (.tmp 73) (.tmp 75) rfl w1.heap.size _ _ (nxl l more k) x rfl rfl rfl HR.out hlN.out HW.out.size ?_; intro v2 w2 hr2 hb2; have HR2 := hid hr2; have HW2 : Hid (Below w1.heap.size w1 w2) := hid (HW.out.trans hb2); clear hr2 hb2))
            go_roundw
            case rel => exact ⟨k + 1, H + 1, A + 1, hlt, by simp, by simp, by simp, by omega, by omega, hid (by rw [HS.out.1, HS.out.2, if_pos (show c ≤ x by omega), if_pos (show c + 1 ≤ x by omega)]; have := HD.out; omega), hid (by rw [HX.out, hny.out]; exact HR2.out), HW2⟩
            case measure => simp [intOf]; omega
        · have hny := hid hny
          rcases hcs with hcs | hcs | hcs
          · obtain ⟨hkq, gb, of2, rfl, hgb, d0⟩ := hy
            have z1 : decide (c ≤ x) = false := decide_eq_false (by omega)
            have z2 : decide (c < x) = false := decide_eq_false (by omega)
            go_wp2_with (first
              | (at_builtin; refine pushI rfl (.tmp 73) (.tmp 75) rfl w1.heap.size _ _ (nxl l more k) x rfl rfl rfl HR.out hlN.out HW.out.size ?_; intro v2 w2 hr2 hb2; have HR2 := hid hr2; have HW2 : Hid (Below w1.heap.size w1 w2) := hid (HW.out.trans hb2); clear hr2 hb2))
            go_roundw
            case rel => exact ⟨k + 1, H, A, hlt, by simp, rfl, rfl, by omega, by omega, hid (by rw [HS.out.1, HS.out.2, if_neg (show ¬ c ≤ x by omega), if_neg (show ¬ c + 1 ≤ x by omega)]; have := HD.out; omega), hid (by rw [HX.out, hny.out]; exact HR2.out), HW2⟩
            case measure => simp [intOf]; omega
          · obtain ⟨hkq, gb, of2, rfl, hgb, d0⟩ := hy
            subst hcs
            have z1 : decide (x ≤ x) = true := decide_eq_true (by omega)
            have z2 : decide (x < x) = false := decide_eq_false (by omega)
            go_wp2_with (first
              | (at_builtin; refine pushI rfl (.tmp 73) (.tmp 75) rfl w1.heap.size _ _ (nxl l more k) x rfl rfl rfl HR.out hlN.out HW.out.size ?_; intro v2 w2 hr2 hb2; have HR2 := hid hr2; have HW2 : Hid (Below w1.heap.size w1 w2) := hid (HW.out.trans hb2); clear hr2 hb2))
            go_roundw
            case rel => exact ⟨k + 1, H + 1, A, hlt, by simp, by simp, rfl, by omega, by omega, hid (by rw [HS.out.1, HS.out.2, if_pos (show x ≤ x by omega), if_neg (show ¬ x + 1 ≤ x by omega)]; have := HD.out; omega), hid (by rw [HX.out, hny.out]; exact HR2.out), HW2⟩
            case measure => simp [intOf]; omega
          · obtain ⟨hkq, gb, of2, rfl, hgb, d0⟩ := hy
            have z1 : decide (c ≤ x) = true := decide_eq_true (by omega)
            have z2 : decide (c < x) = true := decide_eq_true (by omega)
            go_wp2_with (first
              | (at_builtin; refine pushI rfl (.tmp 73) (.tmp 75) rfl w1.heap.size _ _ (nxl l more k) x rfl rfl rfl HR.out hlN.out HW.out.size ?_; intro v2 w2 hr2 hb2; have HR2 := hid hr2; have HW2 : Hid (Below w1.heap.size w1 w2) := hid (HW.out.trans hb2); clear hr2 hb2))
            go_roundw
            case rel => exact ⟨k + 1, H + 1, A + 1, hlt, by simp, by simp, by simp, by omega, by omega, hid (by rw [HS.out.1, HS.out.2, if_pos (show c ≤ x by omega), if_pos (show c + 1 ≤ x by omega)]; have := HD.out; omega), hid (by rw [HX.out, hny.out]; exact HR2.out), HW2⟩
            case measure => simp [intOf]; omega
        · have hny := hid hny
          rcases hcs with hcs | hcs | hcs
          · have z1 : decide (c ≤ x) = false := decide_eq_false (by omega)
            have z2 : decide (c < x) = false := decide_eq_false (by omega)
            go_wp2_with (first
              | (at_builtin; refine pushI rfl (.tmp 73) (.tmp 75) rfl w1.heap.size _ _ (nxl l more k) x rfl rfl rfl HR.out hlN.out HW.out.size ?_; intro v2 w2 hr2 hb2; have HR2 := hid hr2; have HW2 : Hid (Below w1.heap.size w1 w2) := hid (HW.out.trans hb2); clear hr2 hb2))
            go_roundw
            case rel => exact ⟨k + 1, H, A, hlt, by simp, rfl, rfl, by omega, by omega, hid (by rw [HS.out.1, HS.out.2, if_neg (show ¬ c ≤ x by omega), if_neg (show ¬ c + 1 ≤ x by omega)]; have := HD.out; omega), hid (by rw [HX.out, hny.out]; exact HR2.out), HW2⟩
            case measure => simp [intOf]; omega
          · subst hcs
            have z1 : decide (x ≤ x) = true := decide_eq_true (by omega)
            have z2 : decide (x < x) = false := decide_eq_false (by omega)
            go_wp2_with (first
              | (at_builtin; refine pushI rfl (.tmp 73) (.tmp 75) rfl w1.heap.size _ _ (nxl l more k) x rfl rfl rfl HR.out hlN.out HW.out.size ?_; intro v2 w2 hr2 hb2; have HR2 := hid hr2; have HW2 : Hid (Below w1.heap.size w1 w2) := hid (HW.out.trans hb2); clear hr2 hb2))
            go_roundw
            case rel => exact ⟨k + 1, H + 1, A, hlt, by simp, by simp, rfl, by omega, by omega, hid (by rw [HS.out.1, HS.out.2, if_pos (show x ≤ x by omega), if_neg (show ¬ x + 1 ≤ x by omega)]; have := HD.out; omega), hid (by rw [HX.out, hny.out]; exact HR2.out), HW2⟩
            case measure => simp [intOf]; omega
          · have z1 : decide (c ≤ x) = true := decide_eq_true (by omega)
            have z2 : decide (c < x) = true := decide_eq_true (by omega)
            go_wp2_with (first
              | (at_builtin; refine pushI rfl (.tmp 73) (.tmp 75) rfl w1.heap.size _ _ (nxl l more k) x rfl rfl rfl HR.out hlN.out HW.out.size ?_; intro v2 w2 hr2 hb2; have HR2 := hid hr2; have HW2 : Hid (Below w1.heap.size w1 w2) := hid (HW.out.trans hb2); clear hr2 hb2))
            go_roundw
            case rel => exact ⟨k + 1, H + 1, A + 1, hlt, by simp, by simp, by simp, by omega, by omega, hid (by rw [HS.out.1, HS.out.2, if_pos (show c ≤ x by omega), if_pos (show c + 1 ≤ x by omega)]; have := HD.out; omega), hid (by rw [HX.out, hny.out]; exact HR2.out), HW2⟩
            case measure => simp [intOf]; omega
      · have hkn : k = n := by omega
        have hf : (m : Int) + 1 ≤ H ∧ A ≤ m := by
          have h1 := HD.out
          rw [hkn, hn.out, List.take_length] at h1
          have h2 := f3.out
          have h3 := f4.out
          omega
        have HL2 := hid (HR.out.lie)
        rw [hkn] at HL2
        replace hkn := hid hkn
        have z1 : decide (H < (m : Int) + 1) = false := decide_eq_false (by omega)
        have z2 : decide ((m : Int) + 1 ≤ A) = false := decide_eq_false (by omega)
        have z3 : decide (d < c) = false := decide_eq_false (by omega)
        clear HR
        have hT : t < 0 ∨ (¬ t < 0 ∧ 549755813888 < t) ∨ (0 ≤ t ∧ t ≤ 549755813888) := by omega
        rcases hT with hT | ⟨hT, hT2⟩ | hT
        · go_wp2_with (first
            | (go_at_call 9; refine (C9.out _).mono ?_; rintro e w2 ⟨rfl, he⟩; have he := he.symm; subst he)
            | (go_at_call 15; refine (C2.out _ _ HL2.out).mono ?_; rintro e w3 ⟨rfl, hb3⟩)
            | (go_at_call 14; refine (speaks_any _).mono ?_; rintro e w4 ⟨rfl, hb4⟩))
          go_ret
          exact ⟨rfl, (HBr.out.next hb3 HBr.out.size).next hb4 (HBr.out.next hb3 HBr.out.size).size⟩
        · go_wp2_with (first
            | (go_at_call 9; refine (C9.out _).mono ?_; rintro e w2 ⟨rfl, he⟩; have he := he.symm; subst he)
            | (go_at_call 15; refine (C2.out _ _ HL2.out).mono ?_; rintro e w3 ⟨rfl, hb3⟩)
            | (go_at_call 14; refine (speaks_any _).mono ?_; rintro e w4 ⟨rfl, hb4⟩))
          go_ret
          exact ⟨rfl, (HBr.out.next hb3 HBr.out.size).next hb4 (HBr.out.next hb3 HBr.out.size).size⟩
        · have y1 : decide (t < 0) = false := decide_eq_false (by omega)
          have y2 : decide (549755813888 < t) = false := decide_eq_false (by omega)
          go_wp2_with (first
            | (go_at_call 9; refine (C9.out _).mono ?_; rintro e w2 ⟨rfl, he⟩; have he := he.symm; subst he)
            | (go_at_call 15; refine (C2.out _ _ HL2.out).mono ?_; rintro e w3 ⟨rfl, hb3⟩))
          have HB3 := hid (HBr.out.next hb3 HBr.out.size)
          clear hb3 y1 y2 z1 z2 z3
          go_loopw [115] (fun i wx => ∃ k2 : Nat, k2 ≤ n ∧ i = .int .i64 k2 ∧ Hid (wx = w3)) (fun i _ => n - (intOf i).toNat)
          case atStart => exact ⟨0, Nat.zero_le _, rfl, hid rfl⟩
          case round =>
            obtain ⟨k2, hk2, rfl, HX⟩ := hrel
            by_cases hlt2 : k2 < n
            · obtain ⟨n1, n2, n3⟩ := next_ok (n := (n : Int)) (v := t) (d := (k2 : Int)) hnN.out hT (by omega)
              obtain ⟨r, hr⟩ : ∃ r, r = nexR (n : Int) t (k2 : Int) := ⟨_, rfl⟩
              have C3 := hid (fun W => next_any (n : Int) t (k2 : Int) W)
              rw [n1, ← hr] at C3
              rw [← hr] at n2 n3
              clear hr n1
              have y3 : decide (r ≤ t) = false := decide_eq_false (by omega)
              have y4 : decide (t + (n : Int) < r) = false := decide_eq_false (by omega)
              go_wp2_with (first
                | (go_at_call 11; refine (C3.out _).mono ?_; rintro e w5 ⟨rfl, he⟩; have he := he.symm; subst he))
              go_roundw
              case rel => exact ⟨k2 + 1, hlt2, by simp, HX⟩
              case measure => simp [intOf]; omega
            · go_wp2_with (first
                | (go_at_call 14; refine (speaks_any _).mono ?_; rintro e w4 ⟨rfl, hb4⟩))
              go_ret
              refine ⟨rfl, ?_⟩
              rw [HX.out] at hb4
              exact HB3.out.next hb4 HB3.out.size
end Go.Proofs.Ytmemelamgldpcaa
