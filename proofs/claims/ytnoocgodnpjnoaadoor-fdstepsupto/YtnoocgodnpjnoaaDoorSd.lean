import Derived.Test.YtnoocgodnpjnoaaDoorSc
namespace Go.Proofs.YtnoocgodnpjnoaaDoor
open Go.RowKit

theorem fcs_set (l : List Fil) (i : Nat) (a : Int) (hi : i < l.length) : fcs (l.set i ⟨l[i].f, a, l[i].p⟩) = (fcs l).set (i * 3 + 1) (.int .i64 a) := by
  apply List.ext_getElem?
  intro j
  by_cases hj : j < l.length * 3
  · have e : j = j / 3 * 3 + j % 3 := by omega
    have h1 : j / 3 < l.length := by omega
    have h2 : j % 3 < 3 := Nat.mod_lt _ (by decide)
    rw [List.getElem?_set]
    conv => lhs; rw [e]
    rw [fcs_get _ (j / 3) (j % 3) (by rw [List.length_set]; exact h1) h2, List.getElem_set]
    have hg := fcs_get l (j / 3) (j % 3) h1 h2
    rw [← e] at hg
    by_cases hij : i = j / 3
    · rw [if_pos hij]
      subst hij
      have h3 : j % 3 = 0 ∨ j % 3 = 1 ∨ j % 3 = 2 := by omega
      rcases h3 with h3 | h3 | h3
      · rw [if_neg (by omega), hg, h3]; rfl
      · rw [if_pos (by omega), if_pos (by rw [ffc_len]; omega), h3]; rfl
      · rw [if_neg (by omega), hg, h3]; rfl
    · rw [if_neg hij, if_neg (by omega), hg]
  · rw [List.getElem?_eq_none (by rw [ffc_len, List.length_set]; omega), List.getElem?_eq_none (by rw [List.length_set, ffc_len]; omega)]
theorem FRow.put {base x i n cap : Nat} {w : World} {l : List Fil} (h : FRow base w (.slice (some ⟨x, 0, none⟩) n cap) l) (hi : i < l.length) (a : Int) : FRow base (w.setCell ⟨x, i * 3 + 1, none⟩ (.int .i64 a)) (.slice (some ⟨x, 0, none⟩) n cap) (l.set i ⟨l[i].f, a, l[i].p⟩) := by
  obtain ⟨e1, ⟨hv, _⟩ | ⟨g, cap', cur, hv, e4, e5, r1, r2, r3, r4⟩⟩ := h
  · cases hv
  · cases hv
    refine ⟨by rw [ffc_len], .inr ⟨x, cap, _, by rw [List.length_set], e4, set_at e5 _ _, by rw [List.length_set]; exact r1, r2, by rw [Array.size_setIfInBounds]; exact r3, ?_⟩⟩
    rw [fcs_set l i a hi, ← r4, List.length_set, Array.toList_setIfInBounds, List.take_set]
theorem FRow.free {base x n cap : Nat} {w : World} {l : List Fil} (h : FRow base w (.slice (some ⟨x, 0, none⟩) n cap) l) (i : Nat) : w.frozen? ⟨x, i, none⟩ = false := by
  obtain ⟨e1, ⟨hv, _⟩ | ⟨g, cap', cur, hv, e4, e5, r⟩⟩ := h
  · cases hv
  · cases hv
    simp [World.frozen?, e5]
/-- what a change of the document's table leaves -/
structure KR (base top r : Nat) (w w' : World) : Prop where
  os : w'.os = w.os
  tape : w'.tape = w.tape
  output : w'.output = w.output
  size : w.heap.size ≤ w'.heap.size
  block : ∀ k, k < w.heap.size → k ≠ r → k < base ∨ top ≤ k → w'.heap[k]? = w.heap[k]?
theorem KR.of_below {base top r : Nat} {w w' : World} (h : Below w.heap.size w w') : KR base top r w w' := ⟨h.os, h.tape, h.output, h.size, fun k hk _ _ => h.block k hk⟩
theorem KR.trans {base top r : Nat} {a b c : World} (h : KR base top r a b) (k : KR base top r b c) : KR base top r a c :=
  ⟨k.os.trans h.os, k.tape.trans h.tape, k.output.trans h.output, Nat.le_trans h.size k.size, fun i hi hr hb => (k.block i (Nat.lt_of_lt_of_le hi h.size) hr hb).trans (h.block i hi hr hb)⟩
theorem KR.set {base top r x : Nat} {w : World} (i : Nat) (v : Value) (h1 : base ≤ x) (h2 : x < top) : KR base top r w (w.setCell ⟨x, i, none⟩ v) :=
  ⟨rfl, rfl, rfl, by rw [World.size_setCell]; exact Nat.le_refl _, fun k _ _ hb => Below.heap_setCell _ _ _ _ (by show k ≠ x; omega)⟩
theorem KR.setr {base top r : Nat} {w : World} (i : Nat) (v : Value) : KR base top r w (w.setCell ⟨r, i, none⟩ v) :=
  ⟨rfl, rfl, rfl, by rw [World.size_setCell]; exact Nat.le_refl _, fun k _ hr _ => Below.heap_setCell _ _ _ _ hr⟩
/-- the document's table, its row below a bound -/
def RT (base top r : Nat) (w : World) (l : List Fil) : Prop := ∃ v, w.heap[r]? = some (.cells #[v] 28 (0, 0)) ∧ FRow base w v l ∧ ∀ x, v.ownBlock = some x → x < top
theorem RT.ri {base top r : Nat} {w : World} {l : List Fil} (h : RT base top r w l) : RI base r w l := by
  obtain ⟨v, h1, h2, _⟩ := h
  exact ⟨v, h1, h2⟩
theorem RI.rt {base r : Nat} {w : World} {l : List Fil} (h : RI base r w l) : RT base w.heap.size r w l := by
  obtain ⟨v, h1, h2⟩ := h
  exact ⟨v, h1, h2, fun x hx => (h2.own x hx).2⟩
theorem RT.below {base top r : Nat} {w w' : World} {l : List Fil} (h : RT base top r w l) (k : Below w.heap.size w w') : RT base top r w' l := by
  obtain ⟨v, h1, h2, h3⟩ := h
  exact ⟨v, (k.block r (lt_of_block h1)).trans h1, h2.below k, h3⟩
theorem RT.kept {base top r g : Nat} {w w' : World} {l : List Fil} (h : RT base top r w l) (k : KP g w w') (hr : r ≠ g) (hg : g < base) : RT base top r w' l := by
  obtain ⟨v, h1, h2, h3⟩ := h
  exact ⟨v, (k.block r (lt_of_block h1) hr).trans h1, h2.kept k hg, h3⟩
/-- one of the table's, open -/
theorem RT.at {base top r k : Nat} {w : World} {D : Nat → Dsc} (h : RT base top r w (fl D 16)) (hk : k < 16) (ho : (D k).o = true) : ∃ x n cap, w.cell? ⟨r, 0, none⟩ = some (.slice (some ⟨x, 0, none⟩) n cap) ∧ n ≤ cap ∧ cap ≤ maxLen ∧ cnt D k < n ∧ base ≤ x ∧ x < top ∧ x < w.heap.size ∧ FRow base w (.slice (some ⟨x, 0, none⟩) n cap) (fl D 16) ∧ w.heap[r]? = some (.cells #[.slice (some ⟨x, 0, none⟩) n cap] 28 (0, 0)) ∧ w.cell? ⟨x, cnt D k * 3 + 1, none⟩ = some (.int .i64 (D k).n) ∧ w.cell? ⟨x, cnt D k * 3 + 2, none⟩ = some (.string (D k).p) := by
  obtain ⟨v, h1, h2, h3⟩ := h
  have hlt : cnt D k < (fl D 16).length := by rw [fl_len]; exact cnt_lt ho hk
  have hget := fl_get ho 16 hk
  rw [List.getElem?_eq_getElem hlt] at hget
  have hget := Option.some.inj hget
  have h2' := h2
  obtain ⟨e1, ⟨_, hz⟩ | ⟨x, cap, cur, rfl, e4, e5, r1, r2, r3⟩⟩ := h2
  · omega
  · have at_ : ∀ q, q < 3 → w.cell? ⟨x, cnt D k * 3 + q, none⟩ = (fil D k).cs[q]? := by
      intro q hq
      have := World.ownsRow.cellAt h2' (cnt D k * 3 + q) (by omega)
      rw [this, fcs_get _ _ _ hlt hq, hget]
    exact ⟨x, _, cap, by simp [World.cell?, h1], r1, r2, hlt, e4, h3 x rfl, lt_of_block e5, h2', h1, at_ 1 (by decide), at_ 2 (by decide)⟩
/-- a place is put into the row -/
theorem RT.put {base top r x n cap k : Nat} {w : World} {D : Nat → Dsc} (hr : r ≠ x) (h1 : w.heap[r]? = some (.cells #[.slice (some ⟨x, 0, none⟩) n cap] 28 (0, 0))) (h2 : FRow base w (.slice (some ⟨x, 0, none⟩) n cap) (fl D 16)) (hx : x < top) (hk : k < 16) (ho : (D k).o = true) (a : Int) : RT base top r (w.setCell ⟨x, cnt D k * 3 + 1, none⟩ (.int .i64 a)) (fl (upd D k ⟨(D k).o, (D k).p, a⟩) 16) := by
  have hlt : cnt D k < (fl D 16).length := by rw [fl_len]; exact cnt_lt ho hk
  have hget := fl_get ho 16 hk
  rw [List.getElem?_eq_getElem hlt] at hget
  have hget := Option.some.inj hget
  refine ⟨_, (Below.heap_setCell _ _ _ _ hr).trans h1, ?_, fun y hy => by cases hy; exact hx⟩
  have := h2.put hlt a
  rw [hget] at this
  rw [fl_set ho (by exact ho) 16 hk]
  have e : fil (upd D k ⟨(D k).o, (D k).p, a⟩) k = ⟨(fil D k).f, a, (fil D k).p⟩ := by unfold fil; rw [upd_same]
  rw [e]
  exact this
set_option maxRecDepth 100000 in
set_option maxHeartbeats 1000000 in
theorem seek_ref {base top r : Nat} {w : World} {D : Nat → Dsc} (fd m n : Int) (h : RT base top r w (fl D 16)) (hrb : r < base) : Calls Tryd.prog 23 #[.pointer (some ⟨r, 0, none⟩), .int .i64 fd, .int .i64 m, .int .i64 n] w fun e w' => e = .returned (.tuple #[.int .i64 (seekR D fd m n), .int .i64 (seekE D fd m n)]) ∧ RI base r w' (fl (seekD D fd m n) 16) ∧ KR base top r w w' := by
  have HF := hid (find_ref fd h.ri)
  have HH := hid h
  clear h
  unfold seekD seekR seekE
  unfold idx at HF
  cases ho : opn D fd with
  | true =>
    rw [ho] at HF
    obtain ⟨k, rfl, hk, hd⟩ := opn_parts ho
    rw [if_pos rfl, Int.toNat_natCast] at HF
    cases hb : skB m n with
    | true =>
      unfold skB at hb
      simp at hb
      obtain ⟨h1, h2, h3, h4⟩ := hb
      simp only [if_true, Int.toNat_natCast]
      have HO := hid hd
      clear hd ho
      have hw1 : IntKind.i64.wrap (m + n) = m + n := by rw [IntKind.wrap_i64]; omega
      have hw2 : IntKind.i64.wrap (533248 - m) = 533248 - m := by rw [IntKind.wrap_i64]; omega
      have hw3 : IntKind.i64.wrap (0 - m) = -m := by rw [IntKind.wrap_i64]; omega
      go_enter Tryd.func23, Tryd.ntmps23
      go_wp2_with (first | (go_at_call 10; refine (HF.out).mono ?_; rintro e w2 ⟨rfl, b2⟩; have HB := hid b2; clear b2; obtain ⟨x, nn, cap, c0, hnc, hcm, hcn, hbx, hxt, hxl, HR, HR1, c1, c2⟩ := (HH.out.below HB.out).at hk HO.out; replace HR := hid HR; replace HR1 := hid HR1; unfold maxLen at hcm; have f1 := HR.out.free (cnt D k * 3 + 1); obtain ⟨ci, hci⟩ : ∃ c, c = cnt D k := ⟨_, rfl⟩; have HCI := hid hci; rw [← hci] at c1 c2 f1 hcn; rw [← hci]; clear hci))
      go_ret2
      refine ⟨rfl, ?_, (KR.of_below HB.out).trans (KR.set _ _ hbx hxt)⟩
      rw [HCI.out]
      exact (RT.put (by omega) HR1.out HR.out hxt hk HO.out (m + n)).ri
    | false =>
      simp only [Bool.false_eq_true, if_false, if_true, show ¬ (309 : Int) = 0 by decide]
      unfold skB at hb
      clear hd ho
      obtain ⟨ci, hci⟩ : ∃ c, c = cnt D k := ⟨_, rfl⟩
      rw [← hci] at HF
      clear hci
      by_cases h0 : m < 0
      · clear hb
        go_enter Tryd.func23, Tryd.ntmps23
        go_wp2_with (first | (go_at_call 10; refine (HF.out).mono ?_; rintro e w2 ⟨rfl, b2⟩; have HB := hid b2; clear b2))
        go_ret2
        exact ⟨rfl, (HH.out.below HB.out).ri, KR.of_below HB.out⟩
      · by_cases h1 : 533248 < m
        · clear hb
          go_enter Tryd.func23, Tryd.ntmps23
          go_wp2_with (first | (go_at_call 10; refine (HF.out).mono ?_; rintro e w2 ⟨rfl, b2⟩; have HB := hid b2; clear b2))
          go_ret2
          exact ⟨rfl, (HH.out.below HB.out).ri, KR.of_below HB.out⟩
        · have hw2 : IntKind.i64.wrap (533248 - m) = 533248 - m := by rw [IntKind.wrap_i64]; omega
          have hw3 : IntKind.i64.wrap (0 - m) = -m := by rw [IntKind.wrap_i64]; omega
          by_cases h2 : n < -m
          · clear hb
            go_enter Tryd.func23, Tryd.ntmps23
            go_wp2_with (first | (go_at_call 10; refine (HF.out).mono ?_; rintro e w2 ⟨rfl, b2⟩; have HB := hid b2; clear b2))
            go_ret2
            exact ⟨rfl, (HH.out.below HB.out).ri, KR.of_below HB.out⟩
          · have h3 : 533248 - m < n := by
              rw [decide_eq_true (by omega), decide_eq_true (by omega), decide_eq_true (by omega)] at hb
              simp at hb
              omega
            clear hb
            go_enter Tryd.func23, Tryd.ntmps23
            go_wp2_with (first | (go_at_call 10; refine (HF.out).mono ?_; rintro e w2 ⟨rfl, b2⟩; have HB := hid b2; clear b2))
            go_ret2
            exact ⟨rfl, (HH.out.below HB.out).ri, KR.of_below HB.out⟩
  | false =>
    rw [ho] at HF
    simp only [Bool.false_eq_true, if_false, show ¬ (311 : Int) = 0 by decide] at HF ⊢
    clear ho
    go_enter Tryd.func23, Tryd.ntmps23
    go_wp2_with (first | (go_at_call 10; refine (HF.out).mono ?_; rintro e w2 ⟨rfl, b2⟩; have HB := hid b2; clear b2))
    go_ret2
    exact ⟨rfl, (HH.out.below HB.out).ri, KR.of_below HB.out⟩
end Go.Proofs.YtnoocgodnpjnoaaDoor
