import Derived.Test.YtmcahiebcflfoaaJe
namespace Go.Proofs.Ytmcahiebcflfoaa
open Go.RowKit Go.Maps
/-- a journal and its sizes, the row's block -/
def JS (g : Nat) (r : Option Nat) (w : World) (P : Int) (T F S : Nat) (l : List Int) : Prop := ∃ sv, sv.ownBlock = r ∧ JIs g w P T F sv S ∧ JRow w sv l
/-- nothing but the journal and its row has changed -/
structure JFr (g : Nat) (r : Option Nat) (w w' : World) : Prop where
  os : w'.os = w.os
  tape : w'.tape = w.tape
  output : w'.output = w.output
  size : w.heap.size ≤ w'.heap.size
  block : ∀ k, k < w.heap.size → k ≠ g → some k ≠ r → w'.heap[k]? = w.heap[k]?
/-- the row is the same, or new -/
def New (w : World) (r r' : Option Nat) : Prop := r' = r ∨ ∃ k, r' = some k ∧ w.heap.size ≤ k
theorem JFr.of {g : Nat} {r : Option Nat} {w w' : World} (k : Below w.heap.size w w') : JFr g r w w' := ⟨k.os, k.tape, k.output, k.size, fun i hi _ _ => k.block i hi⟩
theorem JFr.trans {g : Nat} {r r' : Option Nat} {w w1 w2 : World} (h : JFr g r w w1) (hn : New w r r') (k : JFr g r' w1 w2) : JFr g r w w2 := by
  refine ⟨k.os.trans h.os, k.tape.trans h.tape, k.output.trans h.output, Nat.le_trans h.size k.size, fun i hi h1 h2 => (k.block i (Nat.lt_of_lt_of_le hi h.size) h1 ?_).trans (h.block i hi h1 h2)⟩
  rcases hn with rfl | ⟨x, rfl, hx⟩
  · exact h2
  · intro e; cases e; omega
theorem New.trans {w w1 : World} {r r' r'' : Option Nat} (hs : w.heap.size ≤ w1.heap.size) (h : New w r r') (k : New w1 r' r'') : New w r r'' := by
  rcases k with rfl | ⟨x, rfl, hx⟩
  · exact h
  · exact .inr ⟨x, rfl, by omega⟩
theorem JFr.below {g base : Nat} {r : Option Nat} {w w' : World} (h : JFr g r w w') (hb : base ≤ w.heap.size) (hg : base ≤ g) (hr : ∀ x, r = some x → base ≤ x) : Below base w w' :=
  ⟨h.os, h.tape, h.output, h.size, fun k hk => h.block k (by omega) (by omega) (by intro e; have := hr k e.symm; omega)⟩
theorem JS.lt {g : Nat} {r : Option Nat} {w : World} {P : Int} {T F S : Nat} {l : List Int} (h : JS g r w P T F S l) : g < w.heap.size ∧ ∀ x, r = some x → x < w.heap.size ∧ x ≠ g := by
  obtain ⟨sv, rfl, h1, h2⟩ := h
  refine ⟨h1.lt, fun x hx => ?_⟩
  obtain ⟨cur, hc⟩ := h2.own x hx
  refine ⟨lt_of_block hc, ?_⟩
  rintro rfl
  unfold JIs at h1
  rw [h1] at hc
  simp at hc
theorem JS.below {g : Nat} {r : Option Nat} {w w' : World} {P : Int} {T F S : Nat} {l : List Int} (h : JS g r w P T F S l) (k : Below w.heap.size w w') : JS g r w' P T F S l := by
  obtain ⟨sv, h0, h1, h2⟩ := h
  exact ⟨sv, h0, h1.below k, h2.below k⟩
theorem JIs.set4 {g : Nat} {w : World} {P T F S : Int} {sv : Value} (h : JIs g w P T F sv S) (S' : Int) : JIs g (w.setCell ⟨g, 4, none⟩ (.int .i64 S')) P T F sv S' := by
  unfold JIs at *
  simp [World.setCell, Array.getElem?_modify, h]
theorem JFr.set {g b : Nat} {r : Option Nat} {w w' : World} (h : JFr g r w w') (hb : b = g ∨ some b = r ∨ w.heap.size ≤ b) (o : Nat) (v : Value) : JFr g r w (w'.setCell ⟨b, o, none⟩ v) := by
  refine ⟨h.os, h.tape, h.output, by rw [show (w'.setCell ⟨b, o, none⟩ v).heap.size = w'.heap.size by simp]; exact h.size, fun k hk h1 h2 => ?_⟩
  rw [Below.heap_setCell _ _ _ _ (by rintro rfl; rcases hb with rfl | e | e; exact h1 rfl; exact h2 e; omega)]
  exact h.block k hk h1 h2
theorem JS.set {g b : Nat} {r : Option Nat} {w : World} {P : Int} {T F S : Nat} {l : List Int} (h : JS g r w P T F S l) (hb : b ≠ g) (hr : some b ≠ r) (o : Nat) (v : Value) : JS g r (w.setCell ⟨b, o, none⟩ v) P T F S l := by
  obtain ⟨sv, h0, h1, h2⟩ := h
  refine ⟨sv, h0, (Below.heap_setCell _ _ _ _ (Ne.symm hb)).trans h1, h2.same fun x hx => Below.heap_setCell _ _ _ _ ?_⟩
  rintro rfl
  exact hr (by rw [← h0, hx])
theorem new_j (n : Int) (w : World) (h : 8 ≤ n ∧ n ≤ 256) : Calls Try.prog 9 #[.int .i64 n] w fun e w' => e = .returned (.tuple #[.pointer (some ⟨w.heap.size, 0, none⟩), .int .i64 0]) ∧ JS w.heap.size none w' (n - 1) 0 1 0 [] ∧ Below w.heap.size w w' := by
  have HI := hid (isRegion_any n)
  rw [decide_eq_true h] at HI
  obtain ⟨h1, h2⟩ := h
  go_enter Try.func9, Try.ntmps9
  go_wp2_with (first | (go_at_call 31; refine (HI.out _).mono ?_; rintro e w1 ⟨rfl, hw⟩; have hw := hw.symm; subst hw))
  go_ret2
  exact ⟨rfl, ⟨_, rfl, box_at _ _, JRow.nil _⟩, below_alloc _ _⟩
theorem new_jno (n : Int) (w : World) (h : ¬ (8 ≤ n ∧ n ≤ 256)) : Calls Try.prog 9 #[.int .i64 n] w fun e w' => e = .returned (.tuple #[.pointer none, .int .i64 1]) ∧ w' = w := by
  have HI := hid (isRegion_any n)
  rw [decide_eq_false h] at HI
  clear h
  go_enter Try.func9, Try.ntmps9
  go_wp2_with (first | (go_at_call 31; refine (HI.out _).mono ?_; rintro e w1 ⟨rfl, hw⟩; have hw := hw.symm; subst hw))
  go_ret2
  exact ⟨rfl, rfl⟩
theorem JFr.refl (g : Nat) (r : Option Nat) (w : World) : JFr g r w w := ⟨rfl, rfl, rfl, Nat.le_refl _, fun _ _ _ _ => rfl⟩
set_option maxRecDepth 100000 in
theorem jseal (g : Nat) (r : Option Nat) (P : Int) (T F S : Nat) (l : List Int) (hP : 0 < P) (hT : T < 65536) (hF : F + l.length ≤ 9223372036854775807) (w : World) (h : JS g r w P T F S l) :
    Calls Try.prog 17 #[.pointer (some ⟨g, 0, none⟩)] w fun e w' => e = .returned (.agg #[.int .i64 0, .string (hdB T F (F + l.length))]) ∧ JS g r w' P T F l.length l ∧ JFr g r w w' := by
  have hltr := h.lt
  have hgl := hltr.1
  obtain ⟨sv, hr, h1, h2⟩ := h
  obtain ⟨ao, cap, rfl, hlc, hcm⟩ := h2.len
  have HB0 := hid (below_alloc w (.cells #[.int .i64 0, .string ⟨#[]⟩] 42))
  have HJ := hid (h1.below HB0.out)
  have HN := hid (none_any g P T F S _ hP _ HJ.out)
  have HJs := hid (h1.set4 l.length)
  have HRs : Hid (JRow (w.setCell ⟨g, 4, none⟩ (.int .i64 l.length)) (.slice ao l.length cap) l) := hid (h2.same fun x hx => Below.heap_setCell _ _ _ _ (by exact (hltr.2 x (hr.symm.trans hx)).2))
  have HFs := hid ((JFr.refl g r w).set (.inl rfl) 4 (.int .i64 l.length))
  have hzs : (w.setCell ⟨g, 4, none⟩ (.int .i64 l.length)).heap.size = w.heap.size := by simp
  obtain ⟨ws, hws⟩ : ∃ ws, ws = w.setCell ⟨g, 4, none⟩ (.int .i64 l.length) := ⟨_, rfl⟩
  rw [← hws] at HJs HRs HFs hzs
  have HBs := hid (below_alloc ws (.cells #[.int .i64 0, .string ⟨#[]⟩] 42))
  have HV2 := hid (box_at ws (.cells #[.int .i64 0, .string ⟨#[]⟩] 42))
  obtain ⟨w2, hw2⟩ : ∃ w2, w2 = ws.alloc (.cells #[.int .i64 0, .string ⟨#[]⟩] 42) := ⟨_, rfl⟩
  have hz2 : w2.heap.size = w.heap.size + 1 := by rw [hw2]; simp [hzs]
  rw [← hw2] at HBs HV2
  rw [hzs] at HV2
  have HJ2 := hid (HJs.out.below HBs.out)
  have HR2 := hid (HRs.out.below HBs.out)
  have HFr2 := hid (JFr.trans HFs.out (.inl rfl) (JFr.of HBs.out))
  have HE : Hid (w2 = (w.setCell ⟨g, 4, none⟩ (.int .i64 l.length)).alloc (.cells #[.int .i64 0, .string ⟨#[]⟩] 42)) := by rw [← hws]; exact hid hw2
  have HWr := hid (write_any g P T F l.length _ hP hT hF w2 HJ2.out)
  obtain ⟨u, hu⟩ : ∃ u, u = hdB T F (F + l.length) := ⟨_, rfl⟩
  rw [← hu] at HWr ⊢
  clear hws hw2 hu hzs
  obtain ⟨c0, c1, c2, c3, c4⟩ := HJ.out.cells
  have hf := frees HJ.out
  go_enter Try.func17, Try.ntmps17
  go_wp2_with (first
    | (go_at_call 38; refine (HN.out).mono ?_; rintro e wq ⟨rfl, hw⟩; have hw := hw.symm; subst hw)
    | (go_at_call 39; rw [← HE.out]; refine (HWr.out).mono ?_; rintro e w3 ⟨rfl, hb3⟩; have HV3 := hid ((hb3.block _ (by omega)).trans HV2.out); have HB3 := hid hb3; obtain ⟨q0, q1⟩ := two_cells HV3.out; have hl2 := lt_of_block HV3.out; have hf2 := frees HV3.out; clear hb3))
  have r0 : ((w3.setCell ⟨w.heap.size, 0, none⟩ (.int .i64 0)).setCell ⟨w.heap.size, 1, none⟩ (.string u)).cell? ⟨w.heap.size, 0, none⟩ = some (.int .i64 0) := by simp [World.cell?, World.setCell, Array.getElem?_modify, HV3.out]
  have r1 : ((w3.setCell ⟨w.heap.size, 0, none⟩ (.int .i64 0)).setCell ⟨w.heap.size, 1, none⟩ (.string u)).cell? ⟨w.heap.size, 1, none⟩ = some (.string u) := by simp [World.cell?, World.setCell, Array.getElem?_modify, HV3.out]
  have k3 := JFr.trans HFr2.out (.inl rfl) (JFr.of (g := g) (r := r) HB3.out)
  refine bodyPost_ret (v := .agg #[.int .i64 0, .string u]) (by simp [results, Try.results17, go_sem, r0, r1]) rfl ⟨rfl, ?_, (k3.set (.inr (.inr (Nat.le_refl _))) _ _).set (.inr (.inr (Nat.le_refl _))) _ _⟩
  have hJ : JS g r w3 P T F l.length l := ⟨_, hr, HJ2.out.below HB3.out, HR2.out.below HB3.out⟩
  have n1 : w.heap.size ≠ g := by omega
  have n2 : some w.heap.size ≠ r := by
    intro e
    have := (hltr.2 _ e.symm).1
    omega
  exact (hJ.set n1 n2 _ _).set n1 n2 _ _
end Go.Proofs.Ytmcahiebcflfoaa
