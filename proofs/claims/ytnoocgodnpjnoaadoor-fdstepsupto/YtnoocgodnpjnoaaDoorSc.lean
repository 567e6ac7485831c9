import Derived.Test.YtnoocgodnpjnoaaDoorSa
import Derived.Maps.AppendAt
import Derived.Test.YtnoocgodnpjnoaaDoorOs
namespace Go.Proofs.YtnoocgodnpjnoaaDoor
open Go.RowKit Go.Maps

/-- a file at a place of memory -/
def FAt (w : World) (g o : Nat) (x : Fil) : Prop := w.cell? ⟨g, o, none⟩ = some (.int .i64 x.f) ∧ w.cell? ⟨g, o + 1, none⟩ = some (.int .i64 x.a) ∧ w.cell? ⟨g, o + 2, none⟩ = some (.string x.p)
theorem FAt.same {w w' : World} {g o : Nat} {x : Fil} (h : FAt w g o x) (k : w'.heap[g]? = w.heap[g]?) : FAt w' g o x := by
  unfold FAt World.cell? at *
  simp only [k]
  exact h
/-- a slice that reads as files -/
def FLie (w : World) (v : Value) (l : List Fil) : Prop :=
  ∃ ao cap, v = .slice ao l.length cap ∧ l.length ≤ cap ∧ cap ≤ maxLen ∧ ∀ i (hi : i < l.length), ∃ gb off, ao = some ⟨gb, off, none⟩ ∧ gb < w.heap.size ∧ FAt w gb (off + i * 3) l[i]
theorem FLie.frame {w w' : World} {v : Value} {l : List Fil} (h : FLie w v l) (hs : w.heap.size ≤ w'.heap.size) (k : ∀ b o n c, v = .slice (some ⟨b, o, none⟩) n c → l ≠ [] → w'.heap[b]? = w.heap[b]?) : FLie w' v l := by
  obtain ⟨ao, cap, e, h1, h2, h3⟩ := h
  refine ⟨ao, cap, e, h1, h2, fun i hi => ?_⟩
  obtain ⟨gb, off, e1, hg, c⟩ := h3 i hi
  exact ⟨gb, off, e1, by omega, c.same (k gb off _ _ (by rw [e, e1]) (by intro e0; rw [e0] at hi; simp at hi))⟩
theorem FLie.below {w w' : World} {v : Value} {l : List Fil} (h : FLie w v l) (k : Below w.heap.size w w') : FLie w' v l := by
  obtain ⟨ao, cap, e, h1, h2, h3⟩ := h
  refine ⟨ao, cap, e, h1, h2, fun i hi => ?_⟩
  obtain ⟨gb, off, e1, hg, c⟩ := h3 i hi
  exact ⟨gb, off, e1, Nat.lt_of_lt_of_le hg k.size, c.same (k.block gb hg)⟩
theorem FLie.nil (w : World) : FLie w (.slice none 0 0) [] := ⟨none, 0, rfl, Nat.le_refl _, by decide, fun i hi => by simp at hi⟩
/-- files as cells -/
def fcs (l : List Fil) : List Value := l.flatMap Fil.cs
theorem fcs_append (a b : List Fil) : fcs (a ++ b) = fcs a ++ fcs b := by simp [fcs]
theorem ffc_one (x : Fil) : fcs [x] = x.cs := by simp [fcs]
theorem fc_len (x : Fil) : x.cs.length = 3 := rfl
theorem ffc_len : ∀ l : List Fil, (fcs l).length = l.length * 3
  | [] => rfl
  | x :: l => by
    have := ffc_len l
    unfold fcs at this ⊢
    rw [List.flatMap_cons, List.length_append, this, fc_len, List.length_cons]; omega
theorem fcs_get : ∀ (l : List Fil) (i k : Nat) (hi : i < l.length), k < 3 → (fcs l)[i * 3 + k]? = l[i].cs[k]?
  | x :: l, 0, k, hi, hk => by
    unfold fcs
    rw [List.flatMap_cons, Nat.zero_mul, Nat.zero_add, List.getElem?_append_left (by rw [fc_len]; exact hk)]; rfl
  | x :: l, i + 1, k, hi, hk => by
    have := fcs_get l i k (by simpa using hi) hk
    unfold fcs at this ⊢
    rw [List.flatMap_cons, List.getElem?_append_right (by rw [fc_len]; omega), fc_len, show (i + 1) * 3 + k - 3 = i * 3 + k by omega, this]; rfl
theorem fc_one (x : Fil) (u : Value) (hu : u ∈ x.cs) : u.oneCell' = true := by
  simp [Fil.cs] at hu
  rcases hu with rfl | rfl | rfl <;> rfl
theorem ffc_oneC (l : List Fil) (u : Value) (hu : u ∈ fcs l) : u.oneCell' = true := by
  simp only [fcs, List.mem_flatMap] at hu
  obtain ⟨c, _, hc⟩ := hu
  exact fc_one c u hc
/-- what the cells of an file's place say -/
theorem FAt.get {w : World} {g o : Nat} {x : Fil} (h : FAt w g o x) (k : Nat) (v : Value) (hk : x.cs[k]? = some v) : w.cell? ⟨g, o + k, none⟩ = some v := by
  obtain ⟨c0, c1, c2⟩ := h
  match k, hk with
  | 0, hk => simp [Fil.cs] at hk; subst hk; exact c0
  | 1, hk => simp [Fil.cs] at hk; subst hk; exact c1
  | 2, hk => simp [Fil.cs] at hk; subst hk; exact c2
  | k + 3, hk => simp [Fil.cs] at hk
/-- a row of the call's own: files -/
def FRow (base : Nat) (w : World) (v : Value) (l : List Fil) : Prop := w.ownsRow base 34 3 v l.length (fcs l)
theorem FRow.nil (base : Nat) (w : World) : FRow base w (.slice none 0 0) [] := ⟨rfl, .inl ⟨rfl, rfl⟩⟩
theorem FRow.frame {base : Nat} {w w' : World} {v : Value} {l : List Fil} (h : FRow base w v l) (k : ∀ b, v.ownBlock = some b → w'.heap[b]? = w.heap[b]?) : FRow base w' v l := by
  obtain ⟨e1, e2 | ⟨x, cap, cur, rfl, e4, e5, e6⟩⟩ := h
  · exact ⟨e1, .inl e2⟩
  · exact ⟨e1, .inr ⟨x, cap, cur, rfl, e4, (k x rfl).trans e5, e6⟩⟩
theorem FRow.own {base : Nat} {w : World} {v : Value} {l : List Fil} (h : FRow base w v l) : ∀ x, v.ownBlock = some x → base ≤ x ∧ x < w.heap.size := by
  obtain ⟨e1, ⟨rfl, _⟩ | ⟨x, cap, cur, rfl, e4, e5, e6⟩⟩ := h
  · intro x hx; cases hx
  · intro y hy; cases hy; exact ⟨e4, lt_of_block e5⟩
theorem FRow.below {base : Nat} {w w' : World} {v : Value} {l : List Fil} (h : FRow base w v l) (k : Below w.heap.size w w') : FRow base w' v l :=
  h.frame fun b hb => k.block b (h.own b hb).2
theorem FRow.lie {base : Nat} {w : World} {v : Value} {l : List Fil} (h : FRow base w v l) : FLie w v l := by
  have hh := h
  obtain ⟨e1, ⟨rfl, hz⟩ | ⟨x, cap, cur, rfl, e4, e5, r1, r2, r3⟩⟩ := h
  · have : l = [] := List.eq_nil_of_length_eq_zero hz
    subst this
    exact FLie.nil w
  · refine ⟨_, cap, rfl, r1, r2, fun i hi => ⟨x, 0, rfl, lt_of_block e5, ?_⟩⟩
    have at_ : ∀ k, k < 3 → w.cell? ⟨x, 0 + i * 3 + k, none⟩ = l[i].cs[k]? := by
      intro k hk
      have := World.ownsRow.cellAt hh (i * 3 + k) (by omega)
      rw [Nat.zero_add, this]
      exact fcs_get l i k hi hk
    exact ⟨at_ 0 (by decide), at_ 1 (by decide), at_ 2 (by decide)⟩
theorem FRow.len {base : Nat} {w : World} {v : Value} {l : List Fil} (h : FRow base w v l) : ∃ ao cap, v = .slice ao l.length cap ∧ l.length ≤ cap ∧ cap ≤ maxLen := by
  rcases h.2 with ⟨rfl, hz⟩ | ⟨gb, cap, cur, rfl, _, _, r1, r2, _⟩
  · exact ⟨none, 0, by rw [hz], by omega, by decide⟩
  · exact ⟨_, cap, rfl, r1, r2⟩
set_option maxRecDepth 100000 in
theorem Tryd.infoR34 : (Tryd.prog.info? 34).map (fun i => (i.zero, i.size, i.bytes)) = some (some (.agg #[.int .i64 0, .int .i64 0, .string ⟨#[]⟩]), 3, 32) := by kernel_rfl
/-- files more at the end of a row of the call's own -/
theorem appF {ops : Array Oper} {rest : List Oper} {o : Oper} {a : Act} {Q : Exit → Act → World → Prop} {w0 : World} (hgd : o.guard = none) (s x : Operand)
    (ho : o.op = .call { callee := .builtin .append, args := #[s, x], argTypes := #[26, 26] }) (B1 : Nat) (v u : Value) (T U : List Fil)
    (hs : a.eval s = v) (hx : a.eval x = u) (hA : FRow B1 w0 v T) (hu : FLie w0 u U) (hU : U ≠ []) (hn : T.length + U.length ≤ 1000000000000) (hbase : B1 ≤ w0.heap.size)
    (h : ∀ v' w', FRow B1 w' v' (T ++ U) → Below B1 w0 w' → (∀ k, k < w0.heap.size → some k ≠ v.ownBlock → w'.heap[k]? = w0.heap[k]?) → (∀ b, v'.ownBlock = some b → v.ownBlock = some b ∨ w0.heap.size ≤ b) → wpList Tryd.prog ops Q rest (a.put o.dst v') w') :
    wpList Tryd.prog ops Q (o :: rest) a w0 := by
  obtain ⟨i0, hi, hz0, hz1, hz2⟩ := info_parts Tryd.infoR34
  have ho2 := hA.own
  obtain ⟨ao, cap, rfl, hlc, hcm, hcell⟩ := hu
  have hpos : 0 < U.length := List.length_pos_iff.2 hU
  obtain ⟨gb, off, rfl, hgb, _⟩ := hcell 0 hpos
  refine wpList_append_own_at _ hgd s x 26 ho B1 34 i0 (.agg #[.int .i64 0, .int .i64 0, .string ⟨#[]⟩]) 3 32 Tryd.underlying26 hi hz0 hz1 hz2 rfl (by decide) v T.length (fcs T) hs hA ⟨gb, off, none⟩ U.length cap (fcs U) hx (ffc_len U) (by
      intro j u hj
      have hj3 : j < U.length * 3 := by
        have := (List.getElem?_eq_some_iff.1 hj).1
        rw [ffc_len] at this; exact this
      have hi : j / 3 < U.length := by omega
      obtain ⟨g', o', e', _, hat⟩ := hcell (j / 3) hi
      cases e'
      have hj2 : j = j / 3 * 3 + j % 3 := by omega
      rw [hj2, fcs_get U (j / 3) (j % 3) hi (Nat.mod_lt _ (by decide))] at hj
      have := hat.get (j % 3) u hj
      rw [show off + j / 3 * 3 + j % 3 = off + j by omega] at this
      rw [add_at]
      exact this) (ffc_oneC U) (by unfold maxLen; omega) (by omega) hbase ?_
  intro v' w' hown hg _ hnew
  refine h v' w' ?_ ?_ (fun k hk hne => hg.block k hk hne) ?_
  · unfold FRow
    rw [fcs_append, List.length_append]
    exact hown
  · refine ⟨hg.os, hg.tape, hg.output, hg.size, fun k hk => hg.block k (by omega) ?_⟩
    intro e
    have := (ho2 k e.symm).1
    omega
  · intro b hb
    rcases hnew with e | e
    · exact .inl (e.symm.trans hb)
    · rw [e] at hb; cases hb; exact .inr (Nat.le_refl _)
/-- the document's table in memory -/
def RI (base r : Nat) (w : World) (l : List Fil) : Prop := ∃ v, w.heap[r]? = some (.cells #[v] 28 (0, 0)) ∧ FRow base w v l
theorem RI.lt {base r : Nat} {w : World} {l : List Fil} (h : RI base r w l) : r < w.heap.size := by
  obtain ⟨v, h1, _⟩ := h
  exact lt_of_block h1
theorem RI.below {base r : Nat} {w w' : World} {l : List Fil} (h : RI base r w l) (k : Below w.heap.size w w') : RI base r w' l := by
  obtain ⟨v, h1, h2⟩ := h
  exact ⟨v, (k.block r (lt_of_block h1)).trans h1, h2.below k⟩
theorem RI.new (base : Nat) (w : World) : RI base w.heap.size (w.alloc (.cells #[.slice none 0 0] 28)) [] := ⟨_, box_at _ _, FRow.nil _ _⟩
theorem FRow.kept {base g : Nat} {w w' : World} {v : Value} {l : List Fil} (h : FRow base w v l) (k : KP g w w') (hg : g < base) : FRow base w' v l :=
  h.frame fun b hb => k.block b (h.own b hb).2 (by have := (h.own b hb).1; omega)
theorem RI.kept {base r g : Nat} {w w' : World} {l : List Fil} (h : RI base r w l) (k : KP g w w') (hr : r ≠ g) (hg : g < base) : RI base r w' l := by
  obtain ⟨v, h1, h2⟩ := h
  exact ⟨v, (k.block r (lt_of_block h1) hr).trans h1, h2.kept k hg⟩
/-- where a descriptor stands -/
def idx (D : Nat → Dsc) (fd : Int) : Int := if opn D fd then (cnt D fd.toNat : Int) else -1
set_option maxRecDepth 100000 in
set_option maxHeartbeats 1000000 in
theorem find_ref {base r : Nat} {w : World} {D : Nat → Dsc} (fd : Int) (h : RI base r w (fl D 16)) : Calls Tryd.prog 10 #[.pointer (some ⟨r, 0, none⟩), .int .i64 fd] w fun e w' => e = .returned (.int .i64 (idx D fd)) ∧ Below w.heap.size w w' := by
  obtain ⟨v, h1, h2⟩ := h
  have c0 : w.cell? ⟨r, 0, none⟩ = some v := by simp [World.cell?, h1]
  obtain ⟨ao, cap, rfl, hlc, hcm, hcell⟩ := h2.lie
  unfold maxLen at hcm
  have HC := hid hcell
  have HL := hid (fl_len D 16)
  clear hcell h1 h2
  obtain ⟨n, hn⟩ : ∃ n, n = (fl D 16).length := ⟨_, rfl⟩
  have HN := hid hn
  rw [← hn] at c0 hlc
  clear hn
  go_enter Tryd.func10, Tryd.ntmps10
  go_wp2
  go_loopw [12] (fun i wr => ∃ j : Nat, i = .int .i64 j ∧ j ≤ n ∧ Hid (∀ k : Nat, k < 16 → (D k).o = true → cnt D k < j → (k : Int) ≠ fd) ∧ Hid (Below w.heap.size w wr)) (fun i _ => n - (intOf i).toNat)
  case atStart => exact ⟨0, rfl, Nat.zero_le _, hid (fun k _ _ h => by omega), hid (Below.refl _ _)⟩
  case round =>
    obtain ⟨j, rfl, hj, HI, HB⟩ := hrel
    rename World => wr
    by_cases hlt : j < n
    · have hlt' : j < (fl D 16).length := by rw [← HN.out]; exact hlt
      obtain ⟨gb, off, rfl, hgb, hat⟩ := HC.out j hlt'
      obtain ⟨k, hk, hko, hjc, he⟩ := fl_at 16 (List.getElem?_eq_getElem hlt')
      rw [he] at hat
      have hat' := hat.same (HB.out.block gb hgb)
      have hgr : gb < wr.heap.size := Nat.lt_of_lt_of_le hgb HB.out.size
      obtain ⟨d0, d1, d2⟩ := hat'
      unfold fil at d0 d1 d2
      simp only [] at d0 d1 d2
      obtain ⟨pl, hpl⟩ : ∃ x, x = (D k).n := ⟨_, rfl⟩
      obtain ⟨pa, hpa⟩ : ∃ x, x = (D k).p := ⟨_, rfl⟩
      rw [← hpl] at d1
      rw [← hpa] at d2
      have HX := hid (show k < 16 ∧ (D k).o = true ∧ j = cnt D k from ⟨hk, hko, hjc⟩)
      clear hpl hpa hat he hko hjc hlt' hgb
      by_cases hf : (k : Int) = fd
      · subst hf
        go_wp2
        go_ret
        refine ⟨?_, HB.out.next (below_alloc _ _)⟩
        obtain ⟨x1, x2, x3⟩ := HX.out
        unfold idx
        rw [opn_nat x1, x2, x3]
        simp
      · have hfb : ((k : Int) == fd) = false := by rw [beq_eq_false_iff_ne]; exact hf
        have HI2 : Hid (∀ k : Nat, k < 16 → (D k).o = true → cnt D k < j + 1 → (k : Int) ≠ fd) := hid (fun m hm hmo hc => by
          obtain ⟨x1, x2, x3⟩ := HX.out
          by_cases hmk : m = k
          · rw [hmk]; exact hf
          · refine HI.out m hm hmo ?_
            by_cases hlm : m < k
            · have := cnt_lt hmo hlm; omega
            · have := cnt_lt x2 (show k < m by omega); omega)
        go_wp2
        go_roundw
        case rel => exact ⟨j + 1, by go_num, by omega, HI2, hid (HB.out.next (below_alloc _ _))⟩
        case measure => simp [intOf]; omega
    · have HF : Hid (idx D fd = -1) := hid (by
        unfold idx
        cases ho : opn D fd with
        | false => rfl
        | true =>
          obtain ⟨k, rfl, hk, hko⟩ := opn_parts ho
          refine absurd rfl (HI.out k hk hko ?_)
          have h1 := cnt_lt hko hk
          have h2 := HL.out
          have h3 := HN.out
          omega)
      go_wp2
      go_ret
      exact ⟨by rw [HF.out]; rfl, HB.out⟩
end Go.Proofs.YtnoocgodnpjnoaaDoor
