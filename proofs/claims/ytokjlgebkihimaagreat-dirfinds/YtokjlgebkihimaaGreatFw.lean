import Derived.Test.YtokjlgebkihimaaGreatFv
namespace Go.Proofs.YtokjlgebkihimaaGreat
open Go.RowKit Go.Maps Go.Shelf

set_option maxRecDepth 100000 in
theorem isNo_any (s : ByteArray) (w : World) : Calls Tryz.prog 30 #[.string s] w fun e w' => e = .returned (.bool (decide (s.size ≠ 128))) ∧ w' = w := by
  by_cases h : s.size = 128
  · have e : decide (s.size ≠ 128) = false := by simp [h]
    rw [e]
    go_enter Tryz.func30, Tryz.ntmps30
    go_wp2
    go_ret
    exact ⟨rfl, rfl⟩
  · have e : decide (s.size ≠ 128) = true := by simp [h]
    have h' : ¬ ((s.size : Int) = 128) := by omega
    rw [e]
    clear e h
    go_enter Tryz.func30, Tryz.ntmps30
    go_wp2
    go_ret
    exact ⟨by first | rfl | simp [h'], rfl⟩
set_option maxRecDepth 100000 in
theorem contains_any (b off n c : Nat) (F : List ByteArray) (w : World) (hn : n = F.length) (hbig : n ≤ 9223372036854775807) (hc : ∀ j (h : j < F.length), w.cell? ⟨b, off + j, none⟩ = some (.string F[j])) :
    Calls Tryz.prog 29 #[.slice (some ⟨b, off, none⟩) n c, .func (.func 30) #[] #[]] w fun e w' => e = .returned (.bool (F.any fun s => decide (s.size ≠ 128))) ∧ ∃ q, w' = w.drewN q := by
  have hcon := AnyE.slices_ContainsFunc Tryz.containsF Value.string (fun s => decide (s.size ≠ 128)) 30 #[] (enters_of Tryz.func30 (by kernel_rfl) rfl) b off n c F w (fun W s _ => (isNo_any s W).mono fun e w' ⟨he, hw⟩ => ⟨he, 0, hw⟩) (by omega) hbig (fun j hj => by rw [hc j hj]; congr 2; exact (getElem!_pos F j hj).symm)
  rw [hn, List.take_length] at hcon
  rw [hn]
  exact hcon
set_option maxRecDepth 100000 in
theorem own_row {base n : Nat} {v : Value} {news : List Value} {w : World} (h : w.ownsRow base 9 1 v n news) (hn : 0 < n) : ∃ g cap, v = .slice (some ⟨g, 0, none⟩) n cap ∧ base ≤ g ∧ ∀ i (hi : i < news.length), w.cell? ⟨g, i, none⟩ = some news[i] := by
  have hh := h
  obtain ⟨e1, ⟨rfl, e2⟩ | ⟨g, cap, cur, rfl, e3, e4, e5⟩⟩ := h
  · omega
  · refine ⟨g, cap, rfl, e3, fun i hi => ?_⟩
    have := hh.cellAt i (by rw [e1] at hi; omega)
    simpa [hi] using this
set_option maxRecDepth 100000 in
theorem Tryz.info9 : (Tryz.prog.info? 9).map (fun i => (i.zero, i.size, i.bytes)) = some (some (.string ⟨#[]⟩), 1, 16) := by kernel_rfl
set_option maxRecDepth 100000 in
theorem clone_any (b off n c : Nat) (F : List ByteArray) (w : World) (hn : n = F.length) (h0 : 0 < n) (hbig : n ≤ 1024) (hc : ∀ j (h : j < F.length), w.cell? ⟨b, off + j, none⟩ = some (.string F[j])) :
    Calls Tryz.prog 31 #[.slice (some ⟨b, off, none⟩) n c] w fun e w' => ∃ g cap, e = .returned (.slice (some ⟨g, 0, none⟩) n cap) ∧ w.heap.size ≤ g ∧ (∀ i (hi : i < F.length), w'.cell? ⟨g, i, none⟩ = some (.string F[i])) ∧ Below w.heap.size w w' := by
  obtain ⟨i0, hi, hz0, hz1, hz2⟩ := info_parts Tryz.info9
  have hcon := AnyE.slices_Clone Tryz.cloneS i0 _ 1 16 hi hz0 hz1 hz2 rfl (by omega) Tryz.sizeOf9 b off n c (F.map Value.string) w (by simp; omega) (by unfold maxLen; omega) (by omega)
    (fun j u hu => by
      rw [List.getElem?_map] at hu
      cases hf : F[j]? with
      | none => rw [hf] at hu; cases hu
      | some s =>
        rw [hf] at hu
        obtain ⟨hj, rfl⟩ := List.getElem?_eq_some_iff.1 hf
        rw [hc j hj]
        exact hu) (by intro u hu; obtain ⟨s, _, rfl⟩ := List.mem_map.1 hu; rfl)
  refine hcon.mono ?_
  rintro e w' ⟨v, rfl, hown, _, hb⟩
  obtain ⟨g, cap, rfl, hg, hcell⟩ := own_row hown h0
  exact ⟨g, cap, rfl, hg, fun i hi => by rw [hcell i (by simpa using hi)]; simp, hb⟩
/-- the regions of a shape -/
def geo (x y z : Nat) : Geo := ⟨1 + y, 2 + y, 2 + y + (z + 3) / 4, x - (2 + y + (z + 3) / 4), z, x⟩
set_option maxRecDepth 100000 in
theorem geo_ok {x y z : Nat} (h : Sh.okS (x : Int) (y : Int) (z : Int)) : (geo x y z).Ok := by
  obtain ⟨⟨h1, h2, h3⟩, h4⟩ := h
  refine ⟨?_, ?_, ?_, ?_, ?_, ?_, ?_, ?_⟩ <;> simp only [geo] <;> omega
set_option maxRecDepth 100000 in
theorem reg_geo {x y z : Nat} (h : Sh.okS (x : Int) (y : Int) (z : Int)) : Sh.regS (x : Int) (y : Int) (z : Int) = .agg #[.int .i64 1, .int .i64 ((geo x y z).bm : Int), .int .i64 ((geo x y z).t : Int), .int .i64 ((geo x y z).da : Int), .int .i64 ((geo x y z).ct : Int)] := by
  obtain ⟨⟨h1, h2, h3⟩, h4⟩ := h
  have e1 : ((1 + y : Nat) : Int) = 1 + (y : Int) := by omega
  have e2 : ((2 + y : Nat) : Int) = 2 + (y : Int) := by omega
  have e3 : ((2 + y + (z + 3) / 4 : Nat) : Int) = 2 + (y : Int) + ((z : Int) + 3) / 4 := by omega
  have e4 : ((x - (2 + y + (z + 3) / 4) : Nat) : Int) = (x : Int) - (2 + (y : Int) + ((z : Int) + 3) / 4) := by omega
  show _ = Value.agg #[.int .i64 1, .int .i64 ((1 + y : Nat) : Int), .int .i64 ((2 + y : Nat) : Int), .int .i64 ((2 + y + (z + 3) / 4 : Nat) : Int), .int .i64 ((x - (2 + y + (z + 3) / 4) : Nat) : Int)]
  rw [e1, e2, e3, e4]
  rfl
/-- a new view -/
structure NV (x y z : Nat) (F : List ByteArray) (w : World) (p : Nat) (w' : World) : Prop where
  ex : ∃ q cap m, VI (geo x y z) p q cap m w' F F ∧ w.heap.size ≤ q ∧ w.heap.size ≤ m
  le : w.heap.size ≤ p
  bel : Below w.heap.size w w'
set_option maxRecDepth 100000 in
theorem diff_nil (F : List ByteArray) : Diff F F [] := fun c => ⟨fun h => (by cases h), fun ⟨_, _, _, h⟩ => absurd rfl h⟩
set_option maxRecDepth 100000 in
theorem nv_make {x y z g cap m : Nat} {F : List ByteArray} {w w9 : World} (h : Sh.okS (x : Int) (y : Int) (z : Int)) (hF : F.length = x) (hs : ∀ s ∈ F, s.size = 128) (hrow : ∀ i (hi : i < F.length), w9.cell? ⟨g, i, none⟩ = some (.string F[i])) (hm : Um.MIs m w9 0 []) (hg : g < w9.heap.size) (hg0 : w.heap.size ≤ g) (hm0 : w.heap.size ≤ m) (hb : Below w.heap.size w w9) :
    NV x y z F w w9.heap.size (w9.alloc (.cells (vwC (geo x y z) g cap m) 76)) := by
  have hB := below_alloc w9 (.cells (vwC (geo x y z) g cap m) 76)
  refine ⟨⟨g, cap, m, ⟨box_at _ _, fun i hi => (cell_same (hB.block g hg) i).trans (hrow i hi), by omega, ⟨[], hm.same (hB.block m hm.lt), diff_nil F⟩, geo_ok h, hF, hF, hs, hs⟩, hg0, hm0⟩, hb.size, hb.next hB⟩
set_option maxRecDepth 100000 in
theorem row_lt {g : Nat} {F : List ByteArray} {w : World} (h0 : 0 < F.length) (hrow : ∀ i (hi : i < F.length), w.cell? ⟨g, i, none⟩ = some (.string F[i])) : g < w.heap.size := by
  have h1 := hrow 0 h0
  by_cases e : g < w.heap.size
  · exact e
  · exfalso
    have hn : w.heap[g]? = none := by simp; omega
    simp [World.cell?, hn] at h1
set_option maxRecDepth 100000 in
theorem five_of {w : World} {g : Nat} {a b c d e : Value} {t : TypeId} (hh : w.heap[g]? = some (.cells #[a, b, c, d, e] t (0, 0))) : w.cell? ⟨g, 0, none⟩ = some a ∧ w.cell? ⟨g, 1, none⟩ = some b ∧ w.cell? ⟨g, 2, none⟩ = some c ∧ w.cell? ⟨g, 3, none⟩ = some d ∧ w.cell? ⟨g, 4, none⟩ = some e := by simp [World.cell?, hh]
set_option maxRecDepth 100000 in
set_option maxHeartbeats 8000000 in
theorem new_ok {x y z : Nat} (h : Sh.okS (x : Int) (y : Int) (z : Int)) (b off c : Nat) (F : List ByteArray) (hF : F.length = x) (hs : ∀ s ∈ F, s.size = 128) (w : World) (hc : ∀ j (h : j < F.length), w.cell? ⟨b, off + j, none⟩ = some (.string F[j])) (hb : b < w.heap.size) :
    Calls Tryz.prog 7 #[.agg #[.int .i64 (x : Int), .int .i64 (y : Int), .int .i64 (z : Int)], .slice (some ⟨b, off, none⟩) x c] w fun e w' => ∃ p, e = .returned (.tuple #[.pointer (some ⟨p, 0, none⟩), .int .i64 0]) ∧ NV x y z F w p w' := by
  have hx : 0 < x ∧ x ≤ 1024 := by obtain ⟨⟨h1, _⟩, _⟩ := h; omega
  have HO := hid (Sh.of_ok (x : Int) (y : Int) (z : Int) h)
  rw [reg_geo h] at HO
  have hno : (F.any fun s => decide (s.size ≠ 128)) = false := by
    rw [List.any_eq_false]
    intro s hsm
    simp [hs s hsm]
  have hcb : ∀ w', Below w.heap.size w w' → ∀ j (h : j < F.length), w'.cell? ⟨b, off + j, none⟩ = some (.string F[j]) := fun w' hb' j hj => (cell_same (hb'.block b hb) (off + j)).trans (hc j hj)
  have HCT := hid (fun w' (hb' : Below w.heap.size w w') => contains_any b off x c F w' hF.symm (by omega) (hcb w' hb'))
  rw [hno] at HCT
  have HCL := hid (fun w' (hb' : Below w.heap.size w w') => clone_any b off x c F w' hF.symm hx.1 hx.2 (hcb w' hb'))
  have HMK := hid (fun (w9 : World) (g cap m : Nat) => nv_make (w := w) (w9 := w9) (g := g) (cap := cap) (m := m) h hF hs)
  have HF0 : Hid (0 < F.length) := hid (by omega)
  obtain ⟨bm, hbm⟩ : ∃ bm, bm = (geo x y z).bm := ⟨_, rfl⟩
  obtain ⟨t, ht⟩ : ∃ t, t = (geo x y z).t := ⟨_, rfl⟩
  obtain ⟨da, hda⟩ : ∃ da, da = (geo x y z).da := ⟨_, rfl⟩
  obtain ⟨ct, hct⟩ : ∃ ct, ct = (geo x y z).ct := ⟨_, rfl⟩
  have hvw : ∀ g cap m, vwC (geo x y z) g cap m = #[.int .i64 1, .int .i64 (bm : Int), .int .i64 (t : Int), .int .i64 (da : Int), .int .i64 (ct : Int), .int .i64 (z : Int), .slice (some ⟨g, 0, none⟩) x cap, .map (some m)] := by
    intro g cap m
    rw [hbm, ht, hda, hct]
    rfl
  simp only [hvw] at HMK
  rw [← hbm, ← ht, ← hda, ← hct] at HO
  clear hvw hbm ht hda hct hno hcb h hF hs hc hb hx
  go_enter Tryz.func7, Tryz.ntmps7
  go_wp2_with (go_at_call 28; fail)
  obtain ⟨w1, hw1⟩ : ∃ w1, w1 = w.alloc (.cells #[.int .i64 (x : Int), .int .i64 (y : Int), .int .i64 (z : Int)] 23) := ⟨_, rfl⟩
  have hA1 : w1.heap[w.heap.size]? = some (.cells #[.int .i64 (x : Int), .int .i64 (y : Int), .int .i64 (z : Int)] 23 (0, 0)) := by rw [hw1]; exact box_at _ _
  have hB1 : Below w.heap.size w w1 := by rw [hw1]; exact below_alloc w _
  rw [← hw1]
  clear hw1
  refine (HO.out _).mono ?_
  rintro e w2 ⟨rfl, hb2⟩
  have hA2 := (hb2.block _ (lt_of_block hA1)).trans hA1
  have hB2 := hB1.next hb2
  clear hA1 hB1 hb2
  obtain ⟨w3, hw3⟩ : ∃ w3, w3 = w2.alloc (.cells #[.int .i64 1, .int .i64 (bm : Int), .int .i64 (t : Int), .int .i64 (da : Int), .int .i64 (ct : Int)] 68) := ⟨_, rfl⟩
  have hA3 : w3.heap[w.heap.size]? = some (.cells #[.int .i64 (x : Int), .int .i64 (y : Int), .int .i64 (z : Int)] 23 (0, 0)) := by rw [hw3]; exact (Below.heap_alloc _ _ _ (lt_of_block hA2)).trans hA2
  have hR3 : w3.heap[w2.heap.size]? = some (.cells #[.int .i64 1, .int .i64 (bm : Int), .int .i64 (t : Int), .int .i64 (da : Int), .int .i64 (ct : Int)] 68 (0, 0)) := by rw [hw3]; exact box_at _ _
  have hB3 : Below w.heap.size w w3 := by rw [hw3]; exact hB2.next (below_alloc _ _)
  have hs2 := lt_of_block hA2
  obtain ⟨a0, a1, a2⟩ := three_cells hA2
  go_wp2_with (go_at_call 29; fail)
  rw [← hw3]
  clear hw3 a0 a1 a2 hA2 hB2
  refine (HCT.out _ hB3).mono ?_
  rintro e w4 ⟨rfl, q4, hw4⟩
  have hA4 : w4.heap[w.heap.size]? = some (.cells #[.int .i64 (x : Int), .int .i64 (y : Int), .int .i64 (z : Int)] 23 (0, 0)) := by rw [hw4]; exact hA3
  have hR4 : w4.heap[w2.heap.size]? = some (.cells #[.int .i64 1, .int .i64 (bm : Int), .int .i64 (t : Int), .int .i64 (da : Int), .int .i64 (ct : Int)] 68 (0, 0)) := by rw [hw4]; exact hR3
  have HB4 : Hid (Below w.heap.size w w4) := by rw [hw4]; exact hB3.dN _
  clear hw4 hA3 hR3 hB3
  go_wp2
  obtain ⟨a0, a1, a2⟩ := three_cells hA4
  obtain ⟨b0, b1, b2, b3, b4⟩ := five_of hR4
  have hl1 := lt_of_block hA4
  have hl2 := lt_of_block hR4
  have HA4 := hid hA4
  have HR4 := hid hR4
  clear hA4 hR4
  have HKB : Hid (∀ (w8 : World) (g8 cap8 : Nat), (∀ i (hi : i < F.length), w8.cell? ⟨g8, i, none⟩ = some (.string F[i])) → w.heap.size ≤ g8 → Below w.heap.size w w8 → NV x y z F w (w8.heap.size + 1) ((w8.alloc (.map #[] 0)).alloc (.cells #[.int .i64 1, .int .i64 (bm : Int), .int .i64 (t : Int), .int .i64 (da : Int), .int .i64 (ct : Int), .int .i64 (z : Int), .slice (some ⟨g8, 0, none⟩) x cap8, .map (some w8.heap.size)] 76))) := hid (fun w8 g8 cap8 hrow hg hb8 => by
    have hlt := row_lt HF0.out hrow
    have k := HMK.out (w8.alloc (.map #[] 0)) g8 cap8 w8.heap.size (fun i hi => (cell_same (Below.heap_alloc _ _ _ hlt) i).trans (hrow i hi)) (Um.MIs.made w8) (by simp; omega) hg hb8.size (hb8.next (below_alloc _ _))
    rw [World.size_alloc] at k
    exact k)
  have hmm := @run_makeMap Tryz.prog
  go_region_with (first
    | (go_at_call 31; refine (HCL.out _ (by first | exact HB4.out.next ⟨rfl, rfl, rfl, Nat.le_refl _, fun _ _ => rfl⟩ | exact (HB4.out.next (below_alloc w4 _)).next ⟨rfl, rfl, rfl, Nat.le_refl _, fun _ _ => rfl⟩)).mono ?_; rintro e w8 ⟨g8, cap8, rfl, hg8, hrow8, hb8⟩
       have HB8 : Hid (Below w4.heap.size w4 w8) := by first | exact hid ⟨hb8.os, hb8.tape, hb8.output, hb8.size, hb8.block⟩ | exact hid ((below_alloc w4 (.map #[] 0)).next ⟨hb8.os, hb8.tape, hb8.output, hb8.size, hb8.block⟩)
       have hA8 := (HB8.out.block _ (lt_of_block HA4.out)).trans HA4.out
       have hR8 := (HB8.out.block _ (lt_of_block HR4.out)).trans HR4.out
       obtain ⟨a0, a1, a2⟩ := three_cells hA8
       obtain ⟨b0, b1, b2, b3, b4⟩ := five_of hR8
       have hl1 := lt_of_block hA8
       have hl2 := lt_of_block hR8
       have HROW := hid hrow8
       have HG8 := hid hg8
       have HBB := hid hb8
       clear hA8 hR8 hrow8 hg8 hb8))
  all_goals
    go_wp2
    go_ret2
    refine ⟨_, rfl, ?_⟩
    first
      | exact HMK.out w8 g8 cap8 w4.heap.size HROW.out ((Um.MIs.made w4).same (HBB.out.block w4.heap.size (by simp))) (row_lt HF0.out HROW.out) (by have h1 := HG8.out; have h2 := HB4.out.size; simp at h1; omega) HB4.out.size (HB4.out.next HB8.out)
      | exact HKB.out w8 g8 cap8 HROW.out (by have h1 := HG8.out; have h2 := HB4.out.size; simp at h1; omega) (HB4.out.next HB8.out)
end Go.Proofs.YtokjlgebkihimaaGreat
