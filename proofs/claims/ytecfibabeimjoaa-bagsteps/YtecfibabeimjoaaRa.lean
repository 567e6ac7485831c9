import Derived.Test.YtecfibabeimjoaaOm
namespace Go.Proofs.Ytecfibabeimjoaa
open Go.RowKit Go.Maps Go.Sort Go.Shelf
theorem Try.info37 : (Try.prog.info? 37).map (fun i => (i.zero, i.size, i.bytes)) = some (some (.agg #[.int .i64 0, .int .i64 0, .string ⟨#[]⟩]), 3, 32) := by kernel_rfl
/-- a row of the reference's messages -/
def LR (base : Nat) (w : World) (v : Value) (l : List Msg) : Prop := w.ownsRow base 37 3 v l.length (mc l)
theorem LR.cellsAt {base : Nat} {w : World} {v : Value} {l : List Msg} (h : LR base w v l) (i : Nat) (hi : i < l.length) : ∃ gb cap, v = .slice (some ⟨gb, 0, none⟩) l.length cap ∧ l.length ≤ cap ∧ cap ≤ maxLen ∧ base ≤ gb ∧ gb < w.heap.size ∧
    w.cell? ⟨gb, i * 3, none⟩ = some (.int .i64 l[i].f) ∧ w.cell? ⟨gb, i * 3 + 1, none⟩ = some (.int .i64 l[i].t) ∧ w.cell? ⟨gb, i * 3 + 2, none⟩ = some (.string l[i].s) := by
  rcases h.2 with ⟨_, hz⟩ | ⟨gb, cap, cur, rfl, hbase, hgb, r1, r2, r3, r4⟩
  · omega
  · have key : ∀ j, j < 3 → w.cell? ⟨gb, i * 3 + j, none⟩ = (encM l[i])[j]? := by
      intro j hj
      have hlt : i * 3 + j < l.length * 3 := by omega
      have e1 : cur.toList[i * 3 + j]? = (mc l)[i * 3 + j]? := by rw [← r4, List.getElem?_take_of_lt hlt]
      rw [mc_get l _ hlt] at e1
      have e2 : (i * 3 + j) / 3 = i := by omega
      have e3 : (i * 3 + j) % 3 = j := by omega
      rw [e2, e3, getElem!_pos l i hi, Array.getElem?_toList] at e1
      rw [← e1]
      simp [World.cell?, hgb]
    exact ⟨gb, cap, rfl, r1, r2, hbase, lt_of_block hgb, key 0 (by decide), key 1 (by decide), key 2 (by decide)⟩
theorem LR.len {base : Nat} {w : World} {v : Value} {l : List Msg} (h : LR base w v l) : ∃ ao cap, v = .slice ao l.length cap := by
  rcases h.2 with ⟨rfl, hz⟩ | ⟨gb, cap, cur, rfl, _⟩
  · exact ⟨none, 0, by rw [hz]⟩
  · exact ⟨_, cap, rfl⟩
theorem LR.below {base : Nat} {w w' : World} {v : Value} {l : List Msg} (h : LR base w v l) (k : Below w.heap.size w w') : LR base w' v l := by
  obtain ⟨e1, e2 | ⟨x, cap, cur, e3, e4, e5, e6⟩⟩ := h
  · exact ⟨e1, .inl e2⟩
  · exact ⟨e1, .inr ⟨x, cap, cur, e3, e4, (k.block x (lt_of_block e5)).trans e5, e6⟩⟩
theorem LR.only {B1 : Nat} {w w' : World} {v : Value} {l : List Msg} {fp : List Nat} (h : LR B1 w v l) (k : Only fp w w') (h1 : ∀ x ∈ fp, x < B1) : LR B1 w' v l := by
  obtain ⟨e1, e2 | ⟨x, cap, cur, e3, e4, e5, e6⟩⟩ := h
  · exact ⟨e1, .inl e2⟩
  · exact ⟨e1, .inr ⟨x, cap, cur, e3, e4, (k.block x (lt_of_block e5) (fun hm => by have := h1 x hm; omega)).trans e5, e6⟩⟩
theorem LR.base {B1 B2 : Nat} {w : World} {v : Value} {l : List Msg} (h : LR B2 w v l) (k : B1 ≤ B2) : LR B1 w v l := by
  obtain ⟨e1, e2 | ⟨x, cap, cur, e3, e4, e5, e6⟩⟩ := h
  · exact ⟨e1, .inl e2⟩
  · exact ⟨e1, .inr ⟨x, cap, cur, e3, by omega, e5, e6⟩⟩
theorem LR.own {B1 : Nat} {w : World} {v : Value} {l : List Msg} (h : LR B1 w v l) : ∀ x, v.ownBlock = some x → B1 ≤ x := by
  obtain ⟨e1, ⟨rfl, _⟩ | ⟨x, cap, cur, rfl, e4, e5, e6⟩⟩ := h
  · intro x hx; cases hx
  · intro y hy; cases hy; exact e4
theorem LR.nil (B1 : Nat) (w : World) : LR B1 w (.slice none 0 0) [] := ⟨rfl, .inl ⟨rfl, rfl⟩⟩
theorem news_cellsR (W : World) (x : Msg) : ∀ j u, (encM x)[j]? = some u → (W.alloc (.cells #[.int .i64 x.f, .int .i64 x.t, .string x.s] 37)).cell? ((⟨W.heap.size, 0, none⟩ : Addr).add j) = some u := by
  intro j u hu
  unfold encM at hu
  match j, hu with
  | 0, hu => simp at hu; subst hu; simp [Addr.add]
  | 1, hu => simp at hu; subst hu; simp [Addr.add]
  | 2, hu => simp at hu; subst hu; simp [Addr.add]
  | j + 3, hu => simp at hu
theorem push_ref {ops : Array Oper} {rest : List Oper} {o : Oper} {a : Act} {Q : Exit → Act → World → Prop} {w0 : World} (hgd : o.guard = none) (s x : Operand)
    (ho : o.op = .call { callee := .builtin .append, args := #[s, x], argTypes := #[48, 48] }) (B1 bb : Nat) (v : Value) (T : List Msg) (f t : Int) (sx : ByteArray)
    (hs : a.eval s = v) (hx : a.eval x = .slice (some ⟨bb, 0, none⟩) 1 1) (hbb : bb = w0.heap.size) (hA : LR B1 w0 v T) (hn : T.length ≤ 2000) (hbase : B1 ≤ w0.heap.size)
    (h : ∀ v' w', LR B1 w' v' (T ++ [⟨f, t, sx⟩]) → Below B1 w0 w' → wpList Try.prog ops Q rest (a.put o.dst v') w') :
    wpList Try.prog ops Q (o :: rest) a (w0.alloc (.cells #[.int .i64 f, .int .i64 t, .string sx] 37)) := by
  subst hbb
  obtain ⟨i0, hi, hz0, hz1, hz2⟩ := info_parts Try.info37
  have ho2 := hA.own
  refine wpList_append_own _ hgd s x 48 ho B1 37 i0 (.agg #[.int .i64 0, .int .i64 0, .string ⟨#[]⟩]) 3 32 Try.underlying48 hi hz0 hz1 hz2 rfl (by decide) v T.length (mc T) hs (World.ownsRow.alloc hA _) ⟨w0.heap.size, 0, none⟩ 1 1 (encM ⟨f, t, sx⟩) hx rfl (news_cellsR _ _) (by intro u hu; simp [encM] at hu; rcases hu with rfl | rfl | rfl <;> rfl) (by unfold maxLen; omega) (by omega) (by simp; omega) ?_
  intro v' w' hown hg _
  refine h v' w' ?_ ?_
  · unfold LR
    have e : mc (T ++ [⟨f, t, sx⟩]) = mc T ++ encM ⟨f, t, sx⟩ := by simp [mc]
    rw [e, List.length_append]
    exact hown
  · refine (below_alloc w0 (.cells #[.int .i64 f, .int .i64 t, .string sx] 37)).mono hbase |>.trans ⟨hg.os, hg.tape, hg.output, hg.size, fun k hk => hg.block k ?_ ?_⟩
    · simp; omega
    · intro e
      have := ho2 k e.symm
      omega
/-- the reference's bag: its list -/
structure RB (B1 g : Nat) (w : World) (n : Int) (v : Value) (L : List Msg) : Prop where
  cell : w.heap[g]? = some (.cells #[.int .i64 n, v] 53 (0, 0))
  row : LR B1 w v L
  lo : g < B1
  hi : B1 ≤ w.heap.size
  le : L.length ≤ 1024
theorem RB.below {B1 g : Nat} {w w' : World} {n : Int} {v : Value} {L : List Msg} (h : RB B1 g w n v L) (k : Below w.heap.size w w') : RB B1 g w' n v L :=
  ⟨(k.block _ (lt_of_block h.cell)).trans h.cell, h.row.below k, h.lo, Nat.le_trans h.hi k.size, h.le⟩
set_option maxRecDepth 100000 in
set_option maxHeartbeats 1000000 in
theorem rnew_any (n : Int) (h1 : 1 ≤ n) (h2 : n ≤ 7) (w : World) : Calls Try.prog 9 #[.int .i64 n] w fun e w' => e = .returned (.tuple #[.pointer (some ⟨w.heap.size, 0, none⟩), .int .i64 0]) ∧ w'.heap[w.heap.size]? = some (.cells #[.int .i64 n, .slice none 0 0] 53 (0, 0)) ∧ Below w.heap.size w w' := by
  go_enter Try.func9, Try.ntmps9
  go_wp2
  go_ret2
  exact ⟨rfl, box_at _ _, below_alloc _ _⟩
set_option maxRecDepth 100000 in
set_option maxHeartbeats 1000000 in
theorem rnew_bad (n : Int) (h1 : ¬ (1 ≤ n ∧ n ≤ 7)) (w : World) : Calls Try.prog 9 #[.int .i64 n] w fun e w' => e = .returned (.tuple #[.pointer none, .int .i64 1]) ∧ w' = w := by
  go_enter Try.func9, Try.ntmps9
  go_wp2
  all_goals go_ret2
  all_goals exact ⟨rfl, rfl⟩
set_option maxRecDepth 100000 in
set_option maxHeartbeats 1000000 in
theorem ahead_any (a b : Msg) (w : World) : Calls Try.prog 33 #[valM a, valM b] w fun e w' => (∃ r, e = .returned (.bool r) ∧ (r = true ↔ ltP a b)) ∧ Below w.heap.size w w' := by
  unfold valM
  go_enter Try.func33, Try.ntmps33
  go_wp2
  all_goals go_ret
  · rename_i h
    have h' : a.t ≠ b.t := by simpa using h
    refine ⟨⟨_, rfl, ?_⟩, (below_alloc _ _).next (below_alloc _ _)⟩
    rw [decide_eq_true_eq]
    exact ⟨fun k => .inl k, fun k => k.elim id (fun k => absurd k.1 h')⟩
  · rename_i h0 _ _ h
    have h1 : a.t = b.t := by simpa using h0
    have h' : a.f ≠ b.f := by simpa using h
    refine ⟨⟨_, rfl, ?_⟩, (below_alloc _ _).next (below_alloc _ _)⟩
    rw [decide_eq_true_eq]
    exact ⟨fun k => .inr ⟨h1, .inl k⟩, fun k => k.elim (fun k => by omega) (fun k => k.2.elim id (fun k => absurd k.1 h'))⟩
  · rename_i h0 h
    have h1 : a.t = b.t := by simpa using h0
    have h2 : a.f = b.f := by simpa using h
    refine ⟨⟨_, rfl, ?_⟩, (below_alloc _ _).next (below_alloc _ _)⟩
    exact ⟨fun k => .inr ⟨h1, .inr ⟨h2, k⟩⟩, fun k => k.elim (fun k => by omega) (fun k => k.2.elim (fun k => by omega) (fun k => k.2))⟩
/-- ref: a message as the reference has it -/
theorem ref_any (m : Msg) (w : World) : Calls Try.prog 13 #[valM m] w fun e w' => e = .returned (valM m) ∧ Below w.heap.size w w' := by
  unfold valM
  go_enter Try.func13, Try.ntmps13
  go_wp2
  refine bodyPost_ret (v := .agg #[.int .i64 m.f, .int .i64 m.t, .string m.s]) (by simp [results, Try.results13, go_sem]) rfl ⟨rfl, ?_⟩
  exact (below_alloc _ _).next (below_alloc _ _)
theorem cnt_snoc (m x : Msg) (l : List Msg) : cnt m (l ++ [x]) = cnt m l + (if eqB x m then 1 else 0) := by
  rw [cnt_append]
  by_cases h : x = m
  · subst h; rw [cnt_cons_same, if_pos ((eqB_iff x x).2 rfl)]; rfl
  · rw [cnt_cons_other h, if_neg (fun e => h ((eqB_iff x m).1 e))]; rfl
theorem two_cells53 {w : World} {g : Nat} {a b : Value} {t : TypeId} (hh : w.heap[g]? = some (.cells #[a, b] t (0, 0))) : w.cell? ⟨g, 0, none⟩ = some a ∧ w.cell? ⟨g, 1, none⟩ = some b := by
  refine ⟨?_, ?_⟩ <;> simp [World.cell?, hh]
set_option maxRecDepth 100000 in
set_option maxHeartbeats 2000000 in
theorem rcount_any {B1 g : Nat} {n : Int} {v : Value} {L : List Msg} (m : Msg) (w : World) (h : RB B1 g w n v L) : Calls Try.prog 23 #[.pointer (some ⟨g, 0, none⟩), valM m] w fun e w' => e = .returned (.int .i64 (cnt m L : Nat)) ∧ Below w.heap.size w w' := by
  obtain ⟨q0, q1⟩ := two_cells53 h.cell
  obtain ⟨ao, cap, rfl⟩ := h.row.len
  have HR := hid h
  have hle := h.le
  have hg := lt_of_block h.cell
  clear h
  unfold valM
  go_enter Try.func23, Try.ntmps23
  have HX0 := hid (box_at w (.cells #[.int .i64 m.f, .int .i64 m.t, .string m.s] 37))
  have HR0 := hid (HR.out.below (below_alloc w (.cells #[.int .i64 m.f, .int .i64 m.t, .string m.s] 37)))
  have HB0 := hid (below_alloc w (.cells #[.int .i64 m.f, .int .i64 m.t, .string m.s] 37))
  go_wp2
  obtain ⟨w0, hw0⟩ : ∃ w0, w0 = w.alloc (.cells #[.int .i64 m.f, .int .i64 m.t, .string m.s] 37) := ⟨_, rfl⟩
  rw [← hw0] at HX0 HR0 HB0 ⊢
  clear hw0 q0 q1 HR
  go_loopw [5, 13] (fun c i wr => ∃ q : Nat, i = .int .i64 q ∧ q ≤ L.length ∧ c = .int .i64 (cnt m (L.take q) : Nat) ∧ Below w0.heap.size w0 wr) (fun _ i _ => L.length - (intOf i).toNat)
  case atStart => exact ⟨0, rfl, Nat.zero_le _, rfl, Below.refl _ _⟩
  case round =>
    obtain ⟨q, rfl, hq, rfl, hBq⟩ := hrel
    have HBq := hid hBq
    clear hBq
    by_cases hqk : q < L.length
    · obtain ⟨gr, cap', e, hc1, hc2, hbs, hgl, c0, c1, c2⟩ := (HR0.out.row.below HBq.out).cellsAt q hqk
      cases e
      have HT := hid (take_snocL L q hqk)
      obtain ⟨y, hy⟩ : ∃ y, y = L[q] := ⟨_, rfl⟩
      rw [← hy] at c0 c1 c2 HT
      clear hy
      obtain ⟨z0, z1, z2⟩ := three_cells ((HBq.out.block _ (lt_of_block HX0.out)).trans HX0.out)
      have hgx : w.heap.size < wr.heap.size := Nat.lt_of_lt_of_le (lt_of_block HX0.out) HBq.out.size
      have HCC : Hid (cnt m (L.take (q + 1)) = cnt m (L.take q) + (if eqB y m then 1 else 0)) := by
        show _ = _
        rw [HT.out, cnt_snoc]
      have hcq := cnt_le m (L.take q)
      have hcl : cnt m (L.take q) ≤ 1024 := by rw [List.length_take] at hcq; omega
      clear hcq
      unfold maxLen at hc2
      unfold eqB at HCC
      obtain ⟨c, hc⟩ : ∃ c, c = cnt m (L.take q) := ⟨_, rfl⟩
      rw [← hc] at HCC hcl ⊢
      clear hc
      cases a1 : (y.f == m.f) with
      | false =>
        rw [a1] at HCC
        go_wp2
        go_roundw
        case rel => exact ⟨q + 1, by go_num, by omega, by rw [HCC.out]; rfl, HBq.out.next (below_alloc _ _)⟩
        case measure => simp [intOf]; omega
      | true =>
        cases a2 : (y.t == m.t) with
        | false =>
          rw [a1, a2] at HCC
          go_wp2
          go_roundw
          case rel => exact ⟨q + 1, by go_num, by omega, by rw [HCC.out]; rfl, HBq.out.next (below_alloc _ _)⟩
          case measure => simp [intOf]; omega
        | true =>
          cases a3 : (y.s.toList == m.s.toList) with
          | false =>
            rw [a1, a2, a3] at HCC
            go_wp2
            go_roundw
            case rel => exact ⟨q + 1, by go_num, by omega, by rw [HCC.out]; rfl, HBq.out.next (below_alloc _ _)⟩
            case measure => simp [intOf]; omega
          | true =>
            rw [a1, a2, a3] at HCC
            go_wp2
            go_roundw
            case rel => exact ⟨q + 1, by go_num, by omega, by rw [HCC.out]; go_num, HBq.out.next (below_alloc _ _)⟩
            case measure => simp [intOf]; omega
    · have hqe : q = L.length := by omega
      subst hqe
      go_wp2
      go_ret
      exact ⟨by rw [List.take_length]; rfl, HB0.out.next HBq.out⟩
end Go.Proofs.Ytecfibabeimjoaa
