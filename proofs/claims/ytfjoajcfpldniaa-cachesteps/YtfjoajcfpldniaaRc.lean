import Derived.Test.YtfjoajcfpldniaaRb
namespace Go.Proofs.Ytfjoajcfpldniaa
open Go.RowKit Go.Maps

theorem idx_cases (P : List Fm) (k : Int) : (idxP P k = -1 ∧ findP P k = none) ∨ ∃ (i : Nat) (hi : i < P.length), idxP P k = (i : Int) ∧ P[i].b = k ∧ findP P k = some P[i] := by
  rcases hf : P.findIdx? (fun x => x.b == k) with _ | i
  · left
    refine ⟨by unfold idxP; rw [hf], ?_⟩
    rw [List.findIdx?_eq_none_iff] at hf
    unfold findP
    rw [List.find?_eq_none]
    intro x hx
    simpa using hf x hx
  · right
    have hf2 := hf
    rw [List.findIdx?_eq_some_iff_getElem] at hf2
    obtain ⟨hi, he, hno⟩ := hf2
    refine ⟨i, hi, by unfold idxP; rw [hf], by simpa using he, ?_⟩
    unfold findP
    rw [List.find?_eq_some_iff_getElem]
    exact ⟨he, i, hi, rfl, fun j hj => by simpa using hno j hj⟩
theorem erase_drop : ∀ (P : List Fm), (P.map (·.b)).Nodup → ∀ (i : Nat) (hi : i < P.length), P.eraseIdx i = dropP P P[i].b
  | [], _, i, hi => by simp at hi
  | x :: P, hn, 0, _ => by
    rw [List.map_cons, List.nodup_cons] at hn
    unfold dropP
    rw [List.eraseIdx_cons_zero, List.getElem_cons_zero, List.filter_cons]
    simp only [bne_self_eq_false, Bool.false_eq_true, if_false]
    symm
    rw [List.filter_eq_self]
    intro y hy
    have : y.b ≠ x.b := fun e => hn.1 (List.mem_map.2 ⟨y, hy, e⟩)
    simpa using this
  | x :: P, hn, i + 1, hi => by
    rw [List.map_cons, List.nodup_cons] at hn
    have hi' : i < P.length := by simpa using hi
    have ih := erase_drop P hn.2 i hi'
    unfold dropP at ih ⊢
    rw [List.eraseIdx_cons_succ, List.getElem_cons_succ, List.filter_cons, ih]
    have : x.b ≠ P[i].b := fun e => hn.1 (List.mem_map.2 ⟨P[i], List.getElem_mem hi', e.symm⟩)
    rw [if_pos (by simpa using this)]
theorem set_setP : ∀ (P : List Fm), (P.map (·.b)).Nodup → ∀ (i : Nat) (hi : i < P.length) (f : Fm), f.b = P[i].b → P.set i f = setP P f
  | [], _, i, hi, _, _ => by simp at hi
  | x :: P, hn, 0, _, f, hf => by
    rw [List.map_cons, List.nodup_cons] at hn
    rw [List.getElem_cons_zero] at hf
    unfold setP
    rw [List.set_cons_zero, List.map_cons, if_pos (by simp [hf])]
    congr 1
    symm
    refine (List.map_congr_left (g := id) fun y hy => ?_).trans (List.map_id _)
    have : y.b ≠ f.b := fun e => hn.1 (List.mem_map.2 ⟨y, hy, e.trans hf⟩)
    rw [if_neg (by simpa using this)]
    rfl
  | x :: P, hn, i + 1, hi, f, hf => by
    rw [List.map_cons, List.nodup_cons] at hn
    rw [List.getElem_cons_succ] at hf
    have hi' : i < P.length := by simpa using hi
    have ih := set_setP P hn.2 i hi' f hf
    unfold setP at ih ⊢
    have : x.b ≠ f.b := fun e => hn.1 (List.mem_map.2 ⟨P[i], List.getElem_mem hi', by rw [e, hf]⟩)
    rw [List.set_cons_succ, List.map_cons, if_neg (by simpa using this), ih]
theorem cp_set : ∀ (P : List Fm) (i : Nat) (hi : i < P.length) (t : Nat) (_ : t < 4) (f : Fm) (x : Value), encP f = (encP P[i]).set t x → cp (P.set i f) = (cp P).set (i * 4 + t) x
  | [], i, hi, _, _, _, _, _ => by simp at hi
  | y :: P, 0, _, t, ht, f, x, h => by
    rw [List.getElem_cons_zero] at h
    rw [List.set_cons_zero, cp_cons, cp_cons, h, Nat.zero_mul, Nat.zero_add, List.set_append_left _ _ (by simp [encP]; omega)]
  | y :: P, i + 1, hi, t, ht, f, x, h => by
    rw [List.getElem_cons_succ] at h
    have ih := cp_set P i (by simpa using hi) t ht f x h
    rw [List.set_cons_succ, cp_cons, cp_cons, ih, List.set_append_right _ _ (by simp [encP]; omega)]
    congr 2
    simp [encP]
    omega
theorem FRow.set {base : Nat} {w : World} {gb n cap : Nat} {P : List Fm} (h : FRow base w (.slice (some ⟨gb, 0, none⟩) n cap) P) (i : Nat) (hi : i < P.length) (t : Nat) (ht : t < 4) (f : Fm) (x : Value) (hf : encP f = (encP P[i]).set t x) : FRow base (w.setCell ⟨gb, i * 4 + t, none⟩ x) (.slice (some ⟨gb, 0, none⟩) n cap) (P.set i f) := by
  obtain ⟨e1, ⟨e2, _⟩ | ⟨y, cap', cur, e, e4, e5, e6, e7, e8, e9⟩⟩ := h
  · cases e2
  · injection e with q1 q2 q3
    injection q1 with q1
    injection q1 with q1
    subst q1 q3
    refine ⟨by rw [cp_len, List.length_set], .inr ⟨gb, cap, _, by rw [q2, List.length_set], e4, cells_set e5 _, by rw [List.length_set]; exact e6, e7, by simpa using e8, ?_⟩⟩
    rw [List.length_set, cp_set P i hi t ht f x hf, ← e9, Array.set!_eq_setIfInBounds, Array.toList_setIfInBounds, List.take_set]
theorem RC.or {B g : Nat} {w : World} {N : Nat} {P : List Fm} {lv : Value} (h : RC B g w N P lv) (i : Nat) (x : Value) : OR w (w.setCell ⟨g, i, none⟩ x) :=
  ⟨rfl, rfl, rfl, by simp, fun k o hk hn => heap_setCell_other _ _ _ _ (fun e => by subst e; rw [h.c] at hk; exact (hn _ _).1 (Option.some.inj hk).symm)⟩
theorem FRow.or {base : Nat} {w : World} {gb n cap : Nat} {P : List Fm} (h : FRow base w (.slice (some ⟨gb, 0, none⟩) n cap) P) (i : Nat) (x : Value) : OR w (w.setCell ⟨gb, i, none⟩ x) := by
  obtain ⟨_, cur, hc⟩ := h.own gb rfl
  exact ⟨rfl, rfl, rfl, by simp, fun k o hk hn => heap_setCell_other _ _ _ _ (fun e => by subst e; rw [hc] at hk; exact (hn _ _).2 (Option.some.inj hk).symm)⟩
theorem RC.put {B g : Nat} {w : World} {N : Nat} {Q : List Fm} {lv lv' : Value} (hc : w.heap[g]? = some (.cells #[.int .i64 (N : Int), lv] 60 (0, 0))) (hb : B ≤ g) (hr : FRow B w lv' Q) : RC B g (w.setCell ⟨g, 1, none⟩ lv') N Q lv' ∧ OR w (w.setCell ⟨g, 1, none⟩ lv') ∧ Below B w (w.setCell ⟨g, 1, none⟩ lv') := by
  refine ⟨⟨?_, hr.same (fun x hx => heap_setCell_other _ _ _ _ (fun e => ?_)), hb⟩, ⟨rfl, rfl, rfl, by simp, fun k o hk hn => heap_setCell_other _ _ _ _ (fun e => ?_)⟩, ⟨rfl, rfl, rfl, by simp, fun k hk => heap_setCell_other _ _ _ _ (by simp; omega)⟩⟩
  · have := cells_set hc lv' (j := 1)
    simpa using this
  · subst e
    obtain ⟨_, cur, h2⟩ := hr.own _ hx
    rw [hc] at h2
    cases h2
  · subst e
    rw [hc] at hk
    exact (hn _ _).1 (Option.some.inj hk).symm
theorem FRow.apart {base : Nat} {w : World} {v : Value} {P : List Fm} (h : FRow base w v P) {g : Nat} {cs : Array Value} {t : TypeId} (hg : w.heap[g]? = some (.cells cs t (0, 0))) (ht : t ≠ 75) : some g ≠ v.ownBlock := by
  intro e
  obtain ⟨_, cur, hc⟩ := h.own g e.symm
  rw [hg] at hc
  injection hc with hc
  injection hc with _ hc
  exact ht hc
section
variable {B g : Nat} {N : Nat} {P : List Fm} {lv : Value}
set_option maxRecDepth 100000 in
theorem ruse (i : Nat) (hi : i < P.length) (hP : P.length ≤ 100) (w : World) (h : RC B g w N P lv) : Calls Try.prog 42 #[.pointer (some ⟨g, 0, none⟩), .int .i64 (i : Int)] w fun e w' => e = .returned (.tuple #[]) ∧ ∃ lv', RC B g w' N (P.eraseIdx i ++ [P[i]]) lv' ∧ OR w w' ∧ Below B w w' := by
  obtain ⟨c0, c1⟩ := h.cells
  have hgl := h.lt
  have hgb := h.b
  have hfz := frees h.c
  have HH := hid h
  obtain ⟨ao, cap, rfl, hlc, hcm⟩ := h.r.len
  unfold maxLen at hcm
  obtain ⟨gb, rfl, hgl2, _, m0, m1, m2, m3, _⟩ := h.r.cell i hi
  obtain ⟨f, hf⟩ : ∃ f, f = P[i] := ⟨_, rfl⟩
  rw [← hf] at m0 m1 m2 m3 ⊢
  have HB1 := hid (below_alloc w (.cells #[.int .i64 f.b, .int .i64 f.p, .string f.d, .bool f.y] 75))
  have HX := hid (box_at w (.cells #[.int .i64 f.b, .int .i64 f.p, .string f.d, .bool f.y] 75))
  obtain ⟨x0, hx0⟩ : ∃ x0, x0 = w.alloc (.cells #[.int .i64 f.b, .int .i64 f.p, .string f.d, .bool f.y] 75) := ⟨_, rfl⟩
  have HW := hid (rwithout i hi hP x0 (hx0 ▸ h.r.below HB1.out))
  have HE := hid (show (P.eraseIdx i).length ≤ 100 from Nat.le_trans (List.length_eraseIdx_le P i) hP)
  obtain ⟨Q, hQ⟩ : ∃ Q, Q = P.eraseIdx i := ⟨_, rfl⟩
  rw [← hQ] at HW HE ⊢
  rw [← hx0] at HB1 HX
  clear h hf hQ
  go_enter Try.func42, Try.ntmps42
  go_wp2_with (go_at_call 41; fail)
  rw [← hx0]
  refine (HW.out).mono ?_
  rintro e w2 ⟨v2, rfl, hF2, hb2⟩
  have HX2 := hid ((hb2.block _ (lt_of_block HX.out)).trans HX.out)
  have HBw := hid (HB1.out.next hb2)
  have HR2 := hid (HH.out.below HBw.out)
  have hs1 := HB1.out.size
  have hs2 := hb2.size
  have HF2 := hid (hF2.base (b' := B) (by omega))
  obtain ⟨bx, hbx⟩ : ∃ bx, bx = w.heap.size := ⟨_, rfl⟩
  have hbB : B ≤ w2.heap.size := by omega
  rw [← hbx] at HX2 ⊢
  obtain ⟨oa, oc, rfl, ho1, ho2⟩ := HF2.out.len
  unfold maxLen at ho2
  clear hF2 hb2 HX HB1 c0 c1 hgl hfz m0 m1 m2 m3 hx0 HW HH hbx hs1 hs2
  obtain ⟨z0, z1, z2, z3⟩ := four_cells HX2.out
  have hlx := lt_of_block HX2.out
  have hap := HF2.out.apart HR2.out.c (by decide)
  have HAp := hid hap
  clear hap
  go_wp2_with (first
    | (at_builtin; refine pushF (w0 := w2) rfl (.tmp 19) (.tmp 21) rfl B w2.heap.size _ Q f rfl rfl rfl HF2.out (by have := HE.out; omega) hbB ?_
       intro v6 w6 hI6 hb6 ho6 hk6
       obtain ⟨o6, n6, hv6, l6, k6⟩ := hI6.len
       obtain ⟨q6, hq6⟩ : ∃ q6, q6 = (Q ++ [f]).length := ⟨_, rfl⟩
       rw [← hq6] at hv6
       subst hv6
       clear hq6 l6 k6
       have hc6 := (hk6 g HR2.out.lt HAp.out).trans HR2.out.c
       have hgl := lt_of_block hc6
       obtain ⟨y0, y1⟩ := two_cellsK hc6
       have hfz := frees hc6
       have HP := hid (RC.put hc6 hgb hI6)))
  go_end0
  exact ⟨rfl, _, HP.out.1, (OR.of_below HBw.out).trans (ho6.trans HP.out.2.1), (HBw.out.mono (by omega)).trans (hb6.trans HP.out.2.2)⟩
end
end Go.Proofs.Ytfjoajcfpldniaa
