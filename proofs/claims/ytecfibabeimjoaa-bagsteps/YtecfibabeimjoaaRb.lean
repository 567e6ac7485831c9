import Derived.Test.YtecfibabeimjoaaRa
namespace Go.Proofs.Ytecfibabeimjoaa
open Go.RowKit Go.Maps Go.Sort Go.Shelf
theorem ins_append_in {m : Msg} (b : List Msg) : ∀ {l : List Msg}, (∃ x ∈ l, ltP m x) → ins m (l ++ b) = ins m l ++ b
  | [], h => by obtain ⟨x, hx, _⟩ := h; cases hx
  | x :: l, h => by
    by_cases e : ltP m x
    · rw [List.cons_append, ins_pos e, ins_pos e]; rfl
    · rw [List.cons_append, ins_neg e, ins_neg e, ins_append_in b (by
        obtain ⟨y, hy, k⟩ := h
        rcases List.mem_cons.1 hy with rfl | hy
        · exact absurd k e
        · exact ⟨y, hy, k⟩)]; rfl
theorem ins_append_not {m : Msg} (b : List Msg) : ∀ {l : List Msg}, ¬ (∃ x ∈ l, ltP m x) → ins m (l ++ b) = l ++ ins m b
  | [], _ => rfl
  | x :: l, h => by
    have e : ¬ ltP m x := fun e => h ⟨x, by simp, e⟩
    rw [List.cons_append, ins_neg e, ins_append_not b (fun ⟨y, hy, k⟩ => h ⟨y, by simp [hy], k⟩)]; rfl
theorem push_ref2 {ops : Array Oper} {rest : List Oper} {o : Oper} {a : Act} {Q : Exit → Act → World → Prop} {w0 : World} (hgd : o.guard = none) (s x : Operand)
    (ho : o.op = .call { callee := .builtin .append, args := #[s, x], argTypes := #[48, 48] }) (B1 bb : Nat) (v : Value) (T : List Msg) (f t : Int) (sx : ByteArray)
    (hs : a.eval s = v) (hx : a.eval x = .slice (some ⟨bb, 0, none⟩) 1 1) (hbb : bb = w0.heap.size) (hA : LR B1 w0 v T) (hn : T.length ≤ 2000) (hbase : B1 ≤ w0.heap.size)
    (h : ∀ v' w', LR B1 w' v' (T ++ [⟨f, t, sx⟩]) → Below B1 w0 w' → (∀ k, k < w0.heap.size → some k ≠ v.ownBlock → w'.heap[k]? = w0.heap[k]?) → wpList Try.prog ops Q rest (a.put o.dst v') w') :
    wpList Try.prog ops Q (o :: rest) a (w0.alloc (.cells #[.int .i64 f, .int .i64 t, .string sx] 37)) := by
  subst hbb
  obtain ⟨i0, hi, hz0, hz1, hz2⟩ := info_parts Try.info37
  have ho2 := hA.own
  refine wpList_append_own _ hgd s x 48 ho B1 37 i0 (.agg #[.int .i64 0, .int .i64 0, .string ⟨#[]⟩]) 3 32 Try.underlying48 hi hz0 hz1 hz2 rfl (by decide) v T.length (mc T) hs (World.ownsRow.alloc hA _) ⟨w0.heap.size, 0, none⟩ 1 1 (encM ⟨f, t, sx⟩) hx rfl (news_cellsR _ _) (by intro u hu; simp [encM] at hu; rcases hu with rfl | rfl | rfl <;> rfl) (by unfold maxLen; omega) (by omega) (by simp; omega) ?_
  intro v' w' hown hg _
  refine h v' w' ?_ ?_ (fun k hk hne => (hg.block k (by simp; omega) hne).trans (Below.heap_alloc _ _ k hk))
  · unfold LR
    have e : mc (T ++ [⟨f, t, sx⟩]) = mc T ++ encM ⟨f, t, sx⟩ := by simp [mc]
    rw [e, List.length_append]
    exact hown
  · refine (below_alloc w0 (.cells #[.int .i64 f, .int .i64 t, .string sx] 37)).mono hbase |>.trans ⟨hg.os, hg.tape, hg.output, hg.size, fun k hk => hg.block k ?_ ?_⟩
    · simp; omega
    · intro e
      have := ho2 k e.symm
      omega
theorem LR.lt {B1 : Nat} {w : World} {v : Value} {l : List Msg} (h : LR B1 w v l) : ∀ x, v.ownBlock = some x → x < w.heap.size := by
  obtain ⟨e1, ⟨rfl, _⟩ | ⟨x, cap, cur, rfl, e4, e5, e6⟩⟩ := h
  · intro x hx; cases hx
  · intro y hy; cases hy; exact lt_of_block e5
theorem two_set1 {w : World} {g : Nat} {a b v : Value} {t : TypeId} (h : w.heap[g]? = some (.cells #[a, b] t (0, 0))) : (w.setCell ⟨g, 1, none⟩ v).heap[g]? = some (.cells #[a, v] t (0, 0)) := by
  simp [World.setCell, Array.getElem?_modify, h]
/-- a new list laid into the reference's bag -/
theorem RB.lay {B1 B2 g : Nat} {w w0 w1 : World} {n : Int} {v v' : Value} {L L' : List Msg} (h : RB B1 g w n v L) (k0 : Below w.heap.size w w0) (k1 : Below B2 w0 w1) (hB : w.heap.size ≤ B2) (h' : LR B2 w1 v' L') (hl : L'.length ≤ 1024) :
    RB B1 g (w1.setCell ⟨g, 1, none⟩ v') n v' L' ∧ Only [g] w (w1.setCell ⟨g, 1, none⟩ v') := by
  have hg := lt_of_block h.cell
  have k : Below w.heap.size w w1 := k0.trans (k1.mono hB)
  have hc := (k.block _ hg).trans h.cell
  have hO : Only [g] w1 (w1.setCell ⟨g, 1, none⟩ v') := Only.setCell _ (by simp)
  refine ⟨⟨two_set1 hc, LR.base (LR.only h' hO (fun x hx => ?_)) (Nat.le_trans h.hi hB), h.lo, Nat.le_trans h.hi (Nat.le_trans k.size hO.size), hl⟩, (Only.of_below k).trans hO⟩
  simp at hx
  subst hx
  omega
/-- the row that is built: p says whether m stands in it -/
noncomputable def pI (p : Bool) (m : Msg) (l : List Msg) : List Msg := if p then ins m l else l
set_option maxRecDepth 100000 in
set_option maxHeartbeats 4000000 in
theorem radd_any {B1 g : Nat} {n : Int} {v : Value} {L : List Msg} (m : Msg) (hlt : L.length < 1024) (w : World) (h : RB B1 g w n v L) : Calls Try.prog 28 #[.pointer (some ⟨g, 0, none⟩), valM m] w fun e w' => e = .returned (.int .i64 0) ∧ (∃ v', RB B1 g w' n v' (ins m L)) ∧ Only [g] w w' := by
  obtain ⟨q0, q1⟩ := two_cells53 h.cell
  obtain ⟨ao, cap, rfl⟩ := h.row.len
  have HR := hid h
  have hle := h.le
  have hg := lt_of_block h.cell
  clear h
  unfold valM
  go_enter Try.func28, Try.ntmps28
  have HX0 := hid (box_at w (.cells #[.int .i64 m.f, .int .i64 m.t, .string m.s] 37))
  have HR0 := hid (HR.out.below (below_alloc w (.cells #[.int .i64 m.f, .int .i64 m.t, .string m.s] 37)))
  have HB0 := hid (below_alloc w (.cells #[.int .i64 m.f, .int .i64 m.t, .string m.s] 37))
  go_wp2
  obtain ⟨w0, hw0⟩ : ∃ w0, w0 = w.alloc (.cells #[.int .i64 m.f, .int .i64 m.t, .string m.s] 37) := ⟨_, rfl⟩
  rw [← hw0] at HX0 HR0 HB0 ⊢
  clear hw0 q0 q1
  have HRW := hid HR.out
  clear HR
  have HAH := hid (fun y w => ahead_any m y w)
  unfold valM at HAH
  go_loopw [5, 6, 20] (fun rv pv i wr => ∃ (q : Nat) (p : Bool), i = .int .i64 q ∧ q ≤ L.length ∧ pv = .bool p ∧ (p = true ↔ ∃ x ∈ L.take q, ltP m x) ∧ LR w0.heap.size wr rv (pI p m (L.take q)) ∧ Below w0.heap.size w0 wr) (fun _ _ i _ => L.length - (intOf i).toNat)
  case atStart => exact ⟨0, false, rfl, Nat.zero_le _, rfl, by simp, LR.nil _ _, Below.refl _ _⟩
  case round =>
    obtain ⟨q, p, rfl, hq, rfl, hp, hLq, hBq⟩ := hrel
    have HP := hid hp
    have HLq := hid hLq
    have HBq := hid hBq
    clear hBq hLq hp
    by_cases hqk : q < L.length
    · obtain ⟨gr, cap', e, hc1, hc2, hbs, hgl, c0, c1, c2⟩ := (HR0.out.row.below HBq.out).cellsAt q hqk
      cases e
      have HT := hid (take_snocL L q hqk)
      obtain ⟨y, hy⟩ : ∃ y, y = L[q] := ⟨_, rfl⟩
      rw [← hy] at c0 c1 c2 HT
      clear hy
      have HXq := hid ((HBq.out.block _ (lt_of_block HX0.out)).trans HX0.out)
      obtain ⟨z0, z1, z2⟩ := three_cells HXq.out
      have hgx : w.heap.size < wr.heap.size := lt_of_block HXq.out
      have HRL : Hid ((pI p m (L.take q)).length ≤ 1100) := by
        show _ ≤ _
        unfold pI
        have h1 : (L.take q).length ≤ 1024 := by rw [List.length_take]; omega
        split
        · rw [ins_len]; omega
        · omega
      have HL5 := hid (HLq.out.below (below_alloc wr (.cells #[.int .i64 y.f, .int .i64 y.t, .string y.s] 37)))
      have HB5 := hid (HBq.out.next (below_alloc wr (.cells #[.int .i64 y.f, .int .i64 y.t, .string y.s] 37)))
      unfold maxLen at hc2
      have HAY := hid (HAH.out y)
      cases p with
      | true =>
        have HIN : Hid (pI true m (L.take (q + 1)) = pI true m (L.take q) ++ [y]) := by
          show _ = _
          rw [HT.out]
          exact ins_append_in _ (HP.out.1 rfl)
        go_wp2_with (first
          | (at_builtin; refine push_ref2 rfl (.tmp 35) (.tmp 37) rfl w0.heap.size (wr.heap.size + 1) _ _ y.f y.t y.s rfl rfl (by simp) HL5.out (by have := HRL.out; omega) HB5.out.size ?_; intro v7 w7 hL7 hb7 _))
        go_roundw
        case rel => exact ⟨q + 1, true, by go_num, by omega, rfl, ⟨fun _ => by rw [HT.out]; obtain ⟨x, hx, k⟩ := HP.out.1 rfl; exact ⟨x, by simp [hx], k⟩, fun _ => rfl⟩, by rw [HIN.out]; exact hL7, HB5.out.trans hb7⟩
        case measure => simp [intOf]; omega
      | false =>
        have HPN : Hid (¬ ∃ x ∈ L.take q, ltP m x) := fun k => by have := HP.out.2 k; cases this
        go_wp2_with (go_at_call 33; fail)
        refine (HAY.out _).mono ?_
        rintro e w6 ⟨⟨r, rfl, hr⟩, hb6⟩
        have HRR := hid hr
        have HB6 := hid (HB5.out.next hb6)
        have HL6 := hid (HL5.out.below hb6)
        have HY6 := hid ((hb6.block _ (lt_of_block (box_at wr _))).trans (box_at wr _))
        have hwr6 : wr.heap.size < w6.heap.size := lt_of_block HY6.out
        have HXM := hid ((HB6.out.block _ (lt_of_block HX0.out)).trans HX0.out)
        clear z0 z1 z2 c0 c1 c2
        obtain ⟨z0, z1, z2⟩ := three_cells HXM.out
        obtain ⟨y0, y1, y2⟩ := three_cells HY6.out
        clear hr hb6
        cases r with
        | false =>
          go_wp2_with (first
            | (at_builtin; refine push_ref2 rfl (.tmp 35) (.tmp 37) rfl w0.heap.size w6.heap.size _ _ y.f y.t y.s rfl rfl rfl HL6.out (by have := HRL.out; omega) HB6.out.size ?_; intro v7 w7 hL7 hb7 _))
          go_roundw
          case rel =>
            have hny : ¬ ltP m y := fun k => by have := HRR.out.2 k; cases this
            exact ⟨q + 1, false, by go_num, by omega, rfl, ⟨fun k => (by cases k), fun k => by
              rw [HT.out] at k
              obtain ⟨x, hx, k⟩ := k
              rcases List.mem_append.1 hx with hx | hx
              · exact absurd ⟨x, hx, k⟩ HPN.out
              · simp at hx; subst hx; exact absurd k hny⟩, by rw [HT.out]; exact hL7, HB6.out.trans hb7⟩
          case measure => simp [intOf]; omega
        | true =>
          have HOW := hid HLq.out.lt
          go_wp2_with (first
            | (at_builtin; have hk := HL7; clear hk; refine push_ref2 rfl (.tmp 35) (.tmp 37) rfl w0.heap.size w7.heap.size _ _ y.f y.t y.s rfl rfl rfl HL7.out (by have := HRL.out; rw [List.length_append]; simp; omega) HB7.out.size ?_; intro v8 w8 hL8 hb8 _)
            | (at_builtin; refine push_ref2 rfl (.tmp 31) (.tmp 33) rfl w0.heap.size w6.heap.size _ _ m.f m.t m.s rfl rfl rfl HL6.out (by have := HRL.out; omega) HB6.out.size ?_; intro v7 w7 hL7 hb7 hk7; have HL7 := hid hL7; have HB7 := hid (HB6.out.trans hb7); clear y0 y1 y2; obtain ⟨y0, y1, y2⟩ := three_cells ((hk7 _ hwr6 (fun e => by have := HOW.out _ e.symm; omega)).trans HY6.out); clear hL7 hb7 hk7))
          go_roundw
          case rel =>
            have hy : ltP m y := HRR.out.1 trivial
            exact ⟨q + 1, true, by go_num, by omega, rfl, ⟨fun _ => ⟨y, by rw [HT.out]; simp, hy⟩, fun _ => rfl⟩, by
              have e : pI true m (L.take (q + 1)) = pI false m (L.take q) ++ [m] ++ [y] := by
                unfold pI
                rw [if_pos rfl, if_neg (by simp), HT.out, ins_append_not _ HPN.out, ins_pos hy]
                simp
              rw [e]
              exact hL8, HB7.out.trans hb8⟩
          case measure => simp [intOf]; omega
    · have hqe : q = L.length := by omega
      subst hqe
      rw [List.take_length] at HP HLq
      have HC := hid ((HBq.out.block _ (Nat.lt_of_lt_of_le hg HB0.out.size)).trans HR0.out.cell)
      obtain ⟨q0, q1⟩ := two_cells53 HC.out
      have hfr := frees HC.out
      have hgq := lt_of_block HC.out
      cases p with
      | true =>
        obtain ⟨ao5, cap5, h5⟩ := HLq.out.len
        subst h5
        go_wp2
        go_ret
        have := HRW.out.lay HB0.out HBq.out HB0.out.size HLq.out (by unfold pI; rw [if_pos rfl, ins_len]; omega)
        exact ⟨rfl, ⟨_, this.1⟩, this.2⟩
      | false =>
        have HXM := hid ((HBq.out.block _ (lt_of_block HX0.out)).trans HX0.out)
        obtain ⟨z0, z1, z2⟩ := three_cells HXM.out
        have hgx : w.heap.size < wr.heap.size := lt_of_block HXM.out
        have HPN : Hid (¬ ∃ x ∈ L, ltP m x) := fun k => by have := HP.out.2 k; cases this
        go_wp2_with (first
          | (at_builtin; refine push_ref2 rfl (.tmp 42) (.tmp 44) rfl w0.heap.size wr.heap.size _ _ m.f m.t m.s rfl rfl rfl HLq.out (by unfold pI; rw [if_neg (by simp)]; omega) HBq.out.size ?_; intro v7 w7 hL7 hb7 _; obtain ⟨ao7, cap7, h7⟩ := hL7.len; subst h7; have HL7 := hid hL7; have HB7 := hid (HBq.out.trans hb7); have HC7 := hid ((HB7.out.block _ (Nat.lt_of_lt_of_le hg HB0.out.size)).trans HR0.out.cell); clear q0 q1 hfr hgq hL7 hb7; obtain ⟨q0, q1⟩ := two_cells53 HC7.out; have hfr := frees HC7.out; have hgq := lt_of_block HC7.out))
        go_ret
        have e : pI false m L ++ [m] = ins m L := by
          have := ins_append_not (m := m) [] HPN.out
          rw [List.append_nil] at this
          rw [this]; rfl
        have t7 := HL7.out
        rw [List.length_append] at t7
        have h7 : LR w0.heap.size w7 (.slice ao7 ((pI false m L).length + 1) cap7) (ins m L) := by
          rw [← e]
          exact t7
        have := HRW.out.lay HB0.out HB7.out HB0.out.size h7 (by rw [ins_len]; omega)
        exact ⟨rfl, ⟨_, this.1⟩, this.2⟩
end Go.Proofs.Ytecfibabeimjoaa
