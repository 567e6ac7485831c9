import Derived.Test.YtmcahiebcflfoaaKd
namespace Go.Proofs.Ytmcahiebcflfoaa
open Go.RowKit Go.Maps
theorem CLie.same {w w' : World} {v : Value} {l : List Chg} (h : CLie w v l) (hs : w.heap.size ≤ w'.heap.size) (k : ∀ x, v.ownBlock = some x → w'.heap[x]? = w.heap[x]?) : CLie w' v l := by
  obtain ⟨ao, cap, rfl, h1, h2, h3⟩ := h
  refine ⟨ao, cap, rfl, h1, h2, fun i hi => ?_⟩
  obtain ⟨gb, off, e, hg, c0, c1⟩ := h3 i hi
  subst e
  have kb := k gb rfl
  exact ⟨gb, off, rfl, Nat.lt_of_lt_of_le hg hs, (World.cell?_of_block (a := ⟨gb, _, none⟩) kb).trans c0, (World.cell?_of_block (a := ⟨gb, _, none⟩) kb).trans c1⟩
theorem writes_same (v v' : Value) (l : List Chg) (w : World) (h : CLie w v l) (h' : CLie w v' l) : Calls Try.prog 14 #[v, v'] w fun e w' => e = .returned (.bool true) ∧ Below w.heap.size w w' := by
  obtain ⟨ao, cap, rfl, hlc, hcm, hcell⟩ := h
  obtain ⟨ao', cap', rfl, hlc', hcm', hcell'⟩ := h'
  have HC := hid hcell
  have HC' := hid hcell'
  clear hcell hcell'
  unfold maxLen at hcm hcm'
  go_enter Try.func14, Try.ntmps14
  go_wp2
  go_loopw [13] (fun i wr => ∃ (q : Nat), i = .int .i64 q ∧ q ≤ l.length ∧ Below w.heap.size w wr) (fun i _ => l.length - (intOf i).toNat)
  case atStart => exact ⟨0, rfl, Nat.zero_le _, Below.refl _ _⟩
  case round =>
    obtain ⟨q, rfl, hq, hB⟩ := hrel
    have HB := hid hB
    clear hB
    by_cases hqk : q < l.length
    · obtain ⟨gb, off, e, hgl, c0, c1⟩ := HC.out q hqk
      subst e
      obtain ⟨gb', off', e', hgl', d0, d1⟩ := HC'.out q hqk
      subst e'
      obtain ⟨c, hc⟩ : ∃ c, c = l[q] := ⟨_, rfl⟩
      rw [← hc] at c0 c1 d0 d1
      clear hc
      replace c0 := (HB.out.cell (p := ⟨gb, off + q * 2, none⟩) hgl).trans c0
      replace c1 := (HB.out.cell (p := ⟨gb, off + q * 2 + 1, none⟩) hgl).trans c1
      replace d0 := (HB.out.cell (p := ⟨gb', off' + q * 2, none⟩) hgl').trans d0
      replace d1 := (HB.out.cell (p := ⟨gb', off' + q * 2 + 1, none⟩) hgl').trans d1
      have hgr : gb < wr.heap.size := Nat.lt_of_lt_of_le hgl HB.out.size
      have hgr' : gb' < wr.heap.size := Nat.lt_of_lt_of_le hgl' HB.out.size
      go_wp2
      go_quiet ((fail))
      go_wp2
      go_roundw
      case rel => exact ⟨q + 1, by go_num, by omega, HB.out.next ⟨rfl, rfl, rfl, Nat.le_refl _, fun _ _ => rfl⟩⟩
      case measure => simp [intOf]; omega
    · go_wp2
      go_ret
      exact ⟨rfl, HB.out⟩
theorem writes_nil (w : World) : Calls Try.prog 14 #[.slice none 0 0, .slice none 0 0] w fun e w' => e = .returned (.bool true) ∧ Below w.heap.size w w' :=
  writes_same _ _ [] w ⟨none, 0, rfl, Nat.le_refl _, by decide, fun i hi => by simp at hi⟩ ⟨none, 0, rfl, Nat.le_refl _, by decide, fun i hi => by simp at hi⟩
/-- the journal and the reference's, apart -/
structure PS (B g g' : Nat) (r r' : Option Nat) (w : World) (P : Int) (T F S : Nat) (sz : List Int) (T' F' S' : Nat) (vs : List Value) : Prop where
  js : JS g r w P T F S sz
  rk : RK g' r' w P T' F' S' vs
  a1 : g ≠ g'
  a2 : some g ≠ r'
  a3 : some g' ≠ r
  a4 : ∀ x, r = some x → some x ≠ r'
  b1 : B ≤ g
  b2 : B ≤ g'
  b3 : ∀ x, r = some x → B ≤ x
  b4 : ∀ x, r' = some x → B ≤ x
theorem PS.keep {B g g' : Nat} {r r' : Option Nat} {w w' : World} {P : Int} {T F S T' F' S' : Nat} {sz : List Int} {vs : List Value} (h : PS B g g' r r' w P T F S sz T' F' S' vs) (k : Below w.heap.size w w') : PS B g g' r r' w' P T F S sz T' F' S' vs :=
  ⟨h.js.below k, h.rk.below k, h.a1, h.a2, h.a3, h.a4, h.b1, h.b2, h.b3, h.b4⟩
theorem PS.jstep {B g g' : Nat} {r r' r1 : Option Nat} {w w' : World} {P : Int} {T F S T' F' S' T1 F1 S1 : Nat} {sz sz1 : List Int} {vs : List Value} (h : PS B g g' r r' w P T F S sz T' F' S' vs) (hj : JS g r1 w' P T1 F1 S1 sz1) (hn : New w r r1) (hf : JFr g r w w') : PS B g g' r1 r' w' P T1 F1 S1 sz1 T' F' S' vs ∧ Below B w w' := by
  have hl := h.rk.lt
  have hB : B ≤ w.heap.size := Nat.le_trans h.b1 (Nat.le_of_lt h.js.lt.1)
  refine ⟨⟨hj, h.rk.same (hf.block g' hl.1 (Ne.symm h.a1) h.a3) (fun x hx => hf.block x (hl.2 x hx).1 (by rintro rfl; exact h.a2 hx.symm) (by intro e; exact h.a4 x e.symm hx.symm)), h.a1, h.a2, ?_, fun x hx => ?_, h.b1, h.b2, fun x hx => ?_, h.b4⟩, hf.below hB h.b1 h.b3⟩
  · rcases hn with rfl | ⟨k, rfl, hk⟩
    · exact h.a3
    · intro e; cases e; omega
  · rcases hn with rfl | ⟨k, rfl, hk⟩
    · exact h.a4 x hx
    · cases hx
      intro e
      have := (hl.2 x e.symm).1
      omega
  · rcases hn with rfl | ⟨k, rfl, hk⟩
    · exact h.b3 x hx
    · cases hx; omega
theorem PS.kstep {B g g' : Nat} {r r' r1 : Option Nat} {w w' : World} {P : Int} {T F S T' F' S' T1 F1 S1 : Nat} {sz : List Int} {vs vs1 : List Value} (h : PS B g g' r r' w P T F S sz T' F' S' vs) (hj : RK g' r1 w' P T1 F1 S1 vs1) (hn : New w r' r1) (hf : JFr g' r' w w') : PS B g g' r r1 w' P T F S sz T1 F1 S1 vs1 ∧ Below B w w' := by
  have hl := h.js.lt
  have hB : B ≤ w.heap.size := Nat.le_trans h.b1 (Nat.le_of_lt hl.1)
  refine ⟨⟨h.js.same (hf.block g hl.1 h.a1 h.a2) (fun x hx => hf.block x (hl.2 x hx).1 (by rintro rfl; exact h.a3 hx.symm) (h.a4 x hx)), hj, h.a1, ?_, h.a3, fun x hx => ?_, h.b1, h.b2, h.b3, fun x hx => ?_⟩, hf.below hB h.b2 h.b4⟩
  · rcases hn with rfl | ⟨k, rfl, hk⟩
    · exact h.a2
    · intro e; cases e; omega
  · rcases hn with rfl | ⟨k, rfl, hk⟩
    · exact h.a4 x hx
    · intro e
      cases e
      have := (hl.2 x hx).1
      omega
  · rcases hn with rfl | ⟨k, rfl, hk⟩
    · exact h.b4 x hx
    · cases hx; omega
end Go.Proofs.Ytmcahiebcflfoaa
