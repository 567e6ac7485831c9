import Derived.Test.YtopebghandojbaaGreatJg
import Derived.Test.YtopebghandojbaaGreatTq
namespace Go.Proofs.YtopebghandojbaaGreat
open Go.RowKit Go.Maps
/-- the writes of blocks, from a place of the ring on -/
def wrL (P : Int) : Int → List ByteArray → List Chg
  | _, [] => []
  | h, b :: B => ⟨1 + h % P, b⟩ :: wrL P (h + 1) B
set_option maxRecDepth 100000 in
theorem wrL_len (P : Int) : ∀ (h : Int) (B : List ByteArray), (wrL P h B).length = B.length
  | _, [] => rfl
  | h, b :: B => by simp [wrL, wrL_len P (h + 1) B]
set_option maxRecDepth 100000 in
theorem wrL_get (P : Int) : ∀ (h : Int) (B : List ByteArray) (i : Nat) (hi : i < (wrL P h B).length) (hj : i < B.length), (wrL P h B)[i] = ⟨1 + (h + i) % P, B[i]⟩
  | _, [], i, hi, hj => by simp at hj
  | h, b :: B, 0, hi, hj => by simp [wrL]
  | h, b :: B, i + 1, hi, hj => by
    have := wrL_get P (h + 1) B i (by rw [wrL_len]; simpa using hj) (by simpa using hj)
    simp only [wrL, List.getElem_cons_succ]
    rw [this, show h + 1 + (i : Int) = h + ((i + 1 : Nat) : Int) by omega]
/-- writes, of which so many have been laid into their row -/
def Fiw (g n q : Nat) (w : World) (L : List Chg) : Prop :=
  ∃ cur, w.heap[g]? = some (.cells cur 120 (0, 0)) ∧ cur.size = n * 2 ∧ ∀ i (hi : i < L.length), i < q → cur[i * 2]? = some (.int .i64 L[i].b) ∧ cur[i * 2 + 1]? = some (.string L[i].d)
set_option maxRecDepth 100000 in
theorem Fiw.get {g n q : Nat} {w : World} {L : List Chg} (h : Fiw g n q w L) (j : Nat) (hj : j < n * 2) : ∃ x, w.cell? ⟨g, j, none⟩ = some x := by
  obtain ⟨cur, h1, h2, _⟩ := h
  exact ⟨cur[j]'(by omega), by simp [World.cell?, h1]⟩
set_option maxRecDepth 100000 in
theorem Fiw.free {g n q : Nat} {w : World} {L : List Chg} (h : Fiw g n q w L) (j : Nat) : w.frozen? ⟨g, j, none⟩ = false := by
  obtain ⟨cur, h1, h2, _⟩ := h
  simp [World.frozen?, h1]
set_option maxRecDepth 100000 in
theorem Fiw.set {g n q : Nat} {w : World} {L : List Chg} (h : Fiw g n q w L) (hL : L.length = n) (hq : q < n) :
    Fiw g n (q + 1) ((w.setCell ⟨g, q * 2, none⟩ (.int .i64 (L[q]'(by omega)).b)).setCell ⟨g, q * 2 + 1, none⟩ (.string (L[q]'(by omega)).d)) L := by
  obtain ⟨cur, h1, h2, h3⟩ := h
  refine ⟨_, cells_set (cells_set h1 _) _, by simp [h2], fun i hi hlt => ?_⟩
  by_cases hiq : i = q
  · subst hiq
    have z0 : i * 2 < cur.size := by omega
    have z1 : i * 2 + 1 < cur.size := by omega
    refine ⟨?_, ?_⟩
    · simp [z0]
    · simp [z1]
  · obtain ⟨k0, k1⟩ := h3 i hi (by omega)
    have z0 : ¬ q * 2 = i * 2 := by omega
    have z1 : ¬ q * 2 + 1 = i * 2 := by omega
    have z2 : ¬ q * 2 = i * 2 + 1 := by omega
    have z3 : ¬ q * 2 + 1 = i * 2 + 1 := by omega
    refine ⟨?_, ?_⟩
    · rw [← k0]; simp [z0, z1]
    · rw [← k1, Array.set!_eq_setIfInBounds, Array.set!_eq_setIfInBounds, Array.getElem?_setIfInBounds_ne z3, Array.getElem?_setIfInBounds_ne z2]
set_option maxRecDepth 100000 in
theorem Fiw.lie {g n : Nat} {w : World} {L : List Chg} (h : Fiw g n n w L) (hL : L.length = n) (hn : n ≤ 1000) : CLie w (.slice (some ⟨g, 0, none⟩) n n) L := by
  obtain ⟨cur, h1, h2, h3⟩ := h
  refine ⟨_, _, by rw [hL], by omega, by unfold maxLen; omega, fun i hi => ⟨g, 0, rfl, lt_of_block h1, ?_⟩⟩
  obtain ⟨k0, k1⟩ := h3 i hi (by omega)
  rw [Nat.zero_add]
  exact ⟨by simp [World.cell?, h1, k0], by simp [World.cell?, h1, k1]⟩
set_option maxRecDepth 100000 in
theorem Tryz.infoW42 : (Tryz.prog.info? 120).map (fun i => (i.zero, i.size, i.bytes)) = some (some (.agg #[.int .i64 0, .string ⟨#[]⟩]), 2, 24) := by kernel_rfl
set_option maxRecDepth 100000 in
theorem mkW (n : Nat) (hn : n ≤ 100) : ∃ cs, (∀ w : World, (Instr.makeSlice 116 (.int .i64 (n : Int)) (.int .i64 (n : Int))).run Tryz.prog w = .ok (.slice (some ⟨w.heap.size, 0, none⟩) n n) (w.alloc (.cells cs 120))) ∧ ∀ (w : World) L, Fiw w.heap.size n 0 (w.alloc (.cells cs 120)) L := by
  obtain ⟨i0, hi, hz0, hz1, hz2⟩ := info_parts Tryz.infoW42
  refine ⟨madeCells (Value.agg #[.int .i64 0, .string ⟨#[]⟩]).cells (n * 2), fun w => ?_, fun w L => ⟨_, box_at _ _, by simp [size_madeCells], fun i hi h => by omega⟩⟩
  have := run_makeSlice (P := Tryz.prog) w 116 120 i0 (.agg #[.int .i64 0, .string ⟨#[]⟩]) Tryz.underlying116 hi hz0 .i64 .i64 (n : Int) (n : Int) (by omega) (by omega) (by rw [hz1]; omega) (by rw [hz2]; omega) (by omega)
  have e1 : (n : Int).toNat = n := by omega
  rw [e1, hz1] at this
  exact this
set_option maxRecDepth 100000 in
theorem encL_len (seq : Nat) (l : List Chg) : (encL seq l).length = l.length + 1 := by unfold encL; simp
set_option maxRecDepth 100000 in
set_option maxHeartbeats 4000000 in
theorem jappend (g : Nat) (r : Option Nat) (P : Int) (T F S : Nat) (l : List Int) (v : Value) (L : List Chg) (hP : 0 < P) (hP2 : P ≤ 300) (hT : T < P) (hF0 : 1 ≤ F) (hF : F + l.length ≤ 1099511627776) (hl : l.length ≤ 300) (hn : ∀ x ∈ l, 0 ≤ x) (hs : sumI l + L.length + 1 ≤ P) (hr : right L = true) (w : World) (h : JS g r w P T F S l) (hL : CLie w v L) :
    Calls Tryz.prog 65 #[.pointer (some ⟨g, 0, none⟩), v] w fun e w' => ∃ wb r', e = .returned (.tuple #[.slice (some ⟨wb, 0, none⟩) (L.length + 1) (L.length + 1), .int .i64 0]) ∧ w.heap.size ≤ wb ∧ some wb ≠ r' ∧ CLie w' (.slice (some ⟨wb, 0, none⟩) (L.length + 1) (L.length + 1)) (wrL P (T + sumI l) (encL (F + l.length) L)) ∧ JS g r' w' P T F S (l ++ [(L.length : Int) + 1]) ∧ New w r r' ∧ JFr g r w w' := by
  have hltr := h.lt
  have hgl := hltr.1
  have h48 := right_len hr
  have hs0 := sumI_nn hn
  have HC := hid (check_any v L w hL)
  rw [hr] at HC
  simp only [if_true] at HC
  have HE := hid (fun w h => encode_ok (F + l.length) v L (by omega) (by omega) w h hr)
  rw [show ((F + l.length : Nat) : Int) = (F : Int) + (l.length : Int) by omega] at HE
  have hel := encL_len (F + l.length) L
  obtain ⟨EB, hEB⟩ : ∃ EB, EB = encL (F + l.length) L := ⟨_, rfl⟩
  rw [← hEB] at HE hel ⊢
  clear hEB
  obtain ⟨n, hnn⟩ : ∃ n, n = L.length + 1 := ⟨_, rfl⟩
  have hni : (L.length : Int) + 1 = (n : Int) := by omega
  rw [← hnn] at hel ⊢
  rw [hni]
  have hn49 : n ≤ 49 := by omega
  have hn1 : 1 ≤ n := by omega
  have hsn : sumI l + n ≤ P := by omega
  clear h48 hs hni hnn
  obtain ⟨sv, hro, h1, h2⟩ := h
  obtain ⟨ao, cap, rfl, hlc, hcm⟩ := h2.len
  have HNx := hid (fun w h => next_any g P T F S ao l.length cap hl (by omega) (by omega) hP w h)
  have HFr := hid (fun w h hl => free_any g P T F S (.slice ao l.length cap) l hn (by omega) hP hP2 w h hl)
  have HTot := hid (fun w h => total_any (.slice ao l.length cap) l hn (by omega) w h)
  have HPl := hid (fun p w hp h => place_any g P T F S p (.slice ao l.length cap) hP hp w h)
  obtain ⟨A, hA⟩ : ∃ A, A = sumI l := ⟨_, rfl⟩
  rw [← hA] at HFr HTot hsn hs0 ⊢
  have HJ := hid h1
  have HR := hid h2
  have HL := hid hL
  clear h1 h2 hA hn hL hr
  go_enter Tryz.func65, Tryz.ntmps65
  go_upto_region 7 with (first
    | (go_at_call 63; refine (HC.out).mono ?_; rintro e w1 ⟨rfl, hb1⟩; have HB1 := hid hb1; clear hb1)
    | (go_at_call 54; refine (HNx.out _ (by exact HJ.out.below HB1.out)).mono ?_; rintro e w2 ⟨rfl, q2, hw⟩; have hw := hw.symm; subst hw)
    | (go_at_call 112; fail))
  refine (HE.out _ (by exact HL.out.below (HB1.out.next ⟨rfl, rfl, rfl, Nat.le_refl _, fun _ _ => rfl⟩))).mono ?_
  rintro e w3 ⟨bv, rfl, hsl, hb3⟩
  have HS3 := hid hsl
  have k2 : Below w.heap.size w (w1.drewN q2) := HB1.out.next ⟨rfl, rfl, rfl, Nat.le_refl _, fun _ _ => rfl⟩
  have HB3 : Hid (Below w.heap.size w w3) := hid (k2.next hb3)
  clear k2
  clear hb3
  obtain ⟨bo, bc, rfl, hbl, hbm, hbc⟩ := hsl
  rw [hel] at HS3 hbl ⊢
  clear hbc
  go_upto_region 7 with (first
    | (go_at_call 64; refine (HFr.out _ (by exact HJ.out.below HB3.out) (by exact (HR.out.below HB3.out).lie)).mono ?_; rintro e w4 ⟨rfl, q4, hw⟩; have hw := hw.symm; subst hw))
  have HB4 : Hid (Below w.heap.size w (w3.drewN q4)) := hid (HB3.out.next ⟨rfl, rfl, rfl, Nat.le_refl _, fun _ _ => rfl⟩)
  have HS4 : Hid (SLie (w3.drewN q4) (.slice bo n bc) EB) := hid (HS3.out.below ⟨rfl, rfl, rfl, Nat.le_refl _, fun _ _ => rfl⟩)
  obtain ⟨w4, hw4⟩ : ∃ w4, w4 = w3.drewN q4 := ⟨_, rfl⟩
  rw [← hw4] at HB4 HS4 ⊢
  clear hw4
  have HJ4 := hid (HJ.out.below HB4.out)
  have HR4 := hid (HR.out.below HB4.out)
  obtain ⟨c0, c1, c2, c3, c4⟩ := HJ4.out.cells
  have hlt4 := HJ4.out.lt
  have hwr : IntKind.i64.wrap ((T : Int) + A) = (T : Int) + A := by rw [IntKind.wrap_i64]; omega
  go_quiet ((go_at_call 111; exact Calls.quiet_of_same (HTot.out _ (by exact HR4.out.lie.below ⟨rfl, rfl, rfl, Nat.le_refl _, fun _ _ => rfl⟩))))
  have HB5 : Hid (Below w.heap.size w (w4.drewN nq)) := hid (HB4.out.next ⟨rfl, rfl, rfl, Nat.le_refl _, fun _ _ => rfl⟩)
  have HS5 : Hid (SLie (w4.drewN nq) (.slice bo n bc) EB) := hid (HS4.out.below ⟨rfl, rfl, rfl, Nat.le_refl _, fun _ _ => rfl⟩)
  obtain ⟨w5, hw5⟩ : ∃ w5, w5 = w4.drewN nq := ⟨_, rfl⟩
  rw [← hw5] at HB5 HS5 ⊢
  clear hw5 c0 c1 c2 c3 c4 hlt4
  have HJ5 := hid (HJ.out.below HB5.out)
  have HR5 := hid (HR.out.below HB5.out)
  obtain ⟨cs, hmk, hmF⟩ := mkW n (by omega)
  have HMF := hid hmF
  clear hmF
  have hmk1 := hmk w5
  have HF6 := hid (HMF.out w5 (wrL P (T + A) EB))
  have HB6 := hid (below_alloc w5 (.cells cs 120))
  go_wp2
  clear hmk1 hmk
  obtain ⟨w6, hw6⟩ : ∃ w6, w6 = w5.alloc (.cells cs 120) := ⟨_, rfl⟩
  rw [← hw6] at HF6 HB6 ⊢
  clear hw6
  have hWl : (wrL P (T + A) EB).length = n := by rw [wrL_len]; exact hel
  go_loopw [49] (fun i wr => ∃ q : Nat, i = .int .i64 q ∧ q ≤ n ∧ Fiw w5.heap.size n q wr (wrL P (T + A) EB) ∧ Below w5.heap.size w5 wr) (fun i _ => n - (intOf i).toNat)
  case atStart => exact ⟨0, rfl, Nat.zero_le _, HF6.out, HB6.out⟩
  case round =>
    obtain ⟨q, rfl, hq, hFq, hBq⟩ := hrel
    have HFq := hid hFq
    have HBq := hid hBq
    clear hFq hBq
    have HJq := hid (HJ5.out.below HBq.out)
    by_cases hqk : q < n
    · obtain ⟨pg, po, e, hpg, pc⟩ : ∃ pg po, bo = some ⟨pg, po, none⟩ ∧ pg < w5.heap.size ∧ w5.cell? ⟨pg, po + q, none⟩ = some (.string (EB[q]'(by omega))) := by
        obtain ⟨ao', cap', e, _, _, hc⟩ := HS5.out
        obtain ⟨g', o', e', k1, k2⟩ := hc q (by omega)
        injection e with e1 e2 e3
        exact ⟨g', o', e1.trans e', k1, k2⟩
      subst e
      replace pc := (HBq.out.cell (p := ⟨pg, po + q, none⟩) hpg).trans pc
      have hpr : pg < wr.heap.size := Nat.lt_of_lt_of_le hpg HBq.out.size
      obtain ⟨x0, hx0⟩ := HFq.out.get (q * 2) (by omega)
      obtain ⟨x1, hx1⟩ := HFq.out.get (q * 2 + 1) (by omega)
      have hf0 := HFq.out.free (q * 2)
      have hf1 := HFq.out.free (q * 2 + 1)
      have HS := hid (HFq.out.set hWl hqk)
      rw [wrL_get P (T + A) EB q (by omega) (by omega)] at HS
      have HPq := hid (HPl.out ((T : Int) + A + q) wr (by omega) HJq.out)
      have hmod := Int.emod_lt_of_pos ((T : Int) + A + q) hP
      have hmod0 := Int.emod_nonneg ((T : Int) + A + q) (show P ≠ 0 by omega)
      obtain ⟨d, hd⟩ : ∃ d, d = EB[q]'(by omega) := ⟨_, rfl⟩
      obtain ⟨z, hz⟩ : ∃ z, z = ((T : Int) + A + q) % P := ⟨_, rfl⟩
      rw [← hd] at pc HS
      rw [← hz] at HPq HS hmod hmod0
      clear hd hz
      have hwl : w5.heap.size < wr.heap.size := by
        obtain ⟨cur, k, _⟩ := HFq.out
        exact lt_of_block k
      go_wp2_with (first | (go_at_call 113; refine (HPq.out).mono ?_; rintro e wz ⟨rfl, hw⟩; have hw := hw.symm; subst hw))
      go_roundw
      case rel => exact ⟨q + 1, by go_num, by omega, HS.out, (HBq.out.setCell (Nat.le_refl _) _).setCell (Nat.le_refl _) _⟩
      case measure => simp [intOf]; omega
    · have hqe : q = n := by omega
      subst hqe
      obtain ⟨c0, c1, c2, c3, c4⟩ := HJq.out.cells
      have hltq := HJq.out.lt
      have HRq := hid (HR5.out.below HBq.out)
      have hfq := frees HJq.out
      have hgr : some g ≠ (Value.slice ao l.length cap).ownBlock := by
        intro e
        exact (hltr.2 g (hro.symm.trans e.symm)).2 rfl
      have hsz : w.heap.size ≤ w5.heap.size := HB5.out.size
      have hszq : w5.heap.size < wr.heap.size := by
        obtain ⟨cur, k, _⟩ := HFq.out
        exact lt_of_block k
      have hw5r : some w5.heap.size ≠ (Value.slice ao l.length cap).ownBlock := by
        intro e
        have := (hltr.2 _ (hro.symm.trans e.symm)).1
        omega
      go_wp2_with (first
        | (at_builtin; refine pushJ (w0 := wr) rfl (.tmp 70) (.tmp 73) rfl wr.heap.size _ l q rfl rfl rfl HRq.out (by omega) ?_; intro v7 w7 hR7 hg7 hn7; have HR7 := hid hR7; have HG7 := hid hg7; have HN7 := hid hn7; obtain ⟨a7, c7, rfl, _, _⟩ := hR7.len; have HJ7 : Hid (JIs g w7 P T F (.slice ao l.length cap) S) := hid ((hg7.block g hltq hgr).trans HJq.out); clear hR7 hg7 hn7 c0 c1 c2 c3 c4 hfq; obtain ⟨c0, c1, c2, c3, c4⟩ := HJ7.out.cells; have hf7 := frees HJ7.out; have hlt7 := HJ7.out.lt))
      rw [List.length_append, List.length_singleton] at HR7 HN7
      have ne7 : ∀ x, (Value.slice a7 (l.length + 1) c7).ownBlock = some x → x ≠ g ∧ x ≠ w5.heap.size := by
        intro x hx
        rcases HN7.out with e | ⟨k, e, hk⟩
        · have e2 := hltr.2 x (hro.symm.trans (e.symm.trans hx))
          exact ⟨e2.2, by omega⟩
        · rw [hx] at e
          injection e with e
          omega
      refine bodyPost_ret (v := .tuple #[.slice (some ⟨w5.heap.size, 0, none⟩) q q, .int .i64 0]) (by simp [results, Tryz.results65, go_sem]) rfl ⟨w5.heap.size, (Value.slice a7 (l.length + 1) c7).ownBlock, rfl, hsz, ?_, ?_, ?_, ?_, ?_⟩
      · intro e
        exact (ne7 _ e.symm).2 rfl
      · have k : ∀ x, w5.heap.size = x → (w7.setCell ⟨g, 3, none⟩ (.slice a7 (l.length + 1) c7)).heap[x]? = wr.heap[x]? := by
          rintro x rfl
          exact (Below.heap_setCell _ _ _ _ (by have := HJ5.out.lt; simp; omega)).trans (HG7.out.block _ hszq hw5r)
        obtain ⟨cur, k1, k2, k3⟩ := HFq.out
        exact Fiw.lie ⟨cur, (k _ rfl).trans k1, k2, k3⟩ hWl (by omega)
      · refine ⟨_, rfl, HJ7.out.set3 _, HR7.out.same fun x hx => Below.heap_setCell _ _ _ _ ?_⟩
        exact (ne7 x hx).1
      · rcases HN7.out with e | ⟨k, e, hk⟩
        · exact .inl (e.trans hro)
        · exact .inr ⟨k, e, by omega⟩
      · have kq : Below w.heap.size w wr := HB5.out.next HBq.out
        have k7 : JFr g r w w7 := (JFr.of kq).trans (.inl rfl) ⟨HG7.out.os, HG7.out.tape, HG7.out.output, HG7.out.size, fun k hk _ h2 => HG7.out.block k hk (by show some k ≠ (Value.slice ao l.length cap).ownBlock; rw [hro]; exact h2)⟩
        exact k7.set (.inl rfl) _ _
end Go.Proofs.YtopebghandojbaaGreat
