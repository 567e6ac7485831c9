import Derived.Test.YtjphfpfagnhelaaMe
import Derived.Test.YtjphfpfagnhelaaCOp
import Derived.Deep.CutRange
import Derived.Deep.CutBlock
import Derived.Deep.RegionHeld3
namespace Go.Proofs.Ytjphfpfagnhelaa
open Go.RowKit Go.Maps Go.Shelf

theorem new_w (w : World) : Calls Try.prog 34 #[] w fun e w' => e = .returned (.pointer (some ⟨w.heap.size, 0, none⟩)) ∧ (∀ base, WIs base w.heap.size w' []) ∧ Below w.heap.size w w' ∧ w'.heap.size = w.heap.size + 1 := by
  refine (new_any w).mono ?_
  rintro e w' ⟨rfl, rfl⟩
  exact ⟨rfl, fun base => WIs.new w base, below_alloc _ _, alloc_size _ _⟩
/-- a message in memory -/
def MBox (q : Nat) (w : World) (K V N A C : Int) (sl : Value) : Prop := w.heap[q]? = some (.cells #[.int .i64 K, .int .i64 V, .int .i64 N, .int .i64 A, .int .i64 C, sl] 24 (0, 0))
theorem MBox.cells {q : Nat} {w : World} {K V N A C : Int} {sl : Value} (h : MBox q w K V N A C sl) : w.cell? ⟨q, 0, none⟩ = some (.int .i64 K) ∧ w.cell? ⟨q, 1, none⟩ = some (.int .i64 V) ∧ w.cell? ⟨q, 2, none⟩ = some (.int .i64 N) ∧ w.cell? ⟨q, 3, none⟩ = some (.int .i64 A) ∧ w.cell? ⟨q, 4, none⟩ = some (.int .i64 C) ∧ w.cell? ⟨q, 5, none⟩ = some sl :=
  ⟨cell_at h, cell_at h, cell_at h, cell_at h, cell_at h, cell_at h⟩
set_option maxRecDepth 100000 in
/-- write, where the numbers or the views are wrong -/
theorem write_bad {w : World} (m : Mg) (h : ELie w m.sl m.es) (hb : (hdB m.K m.V m.N m.A m.C && !fallsB m.es) = false) : Calls Try.prog 18 #[m.v] w fun e w' => e = .panicked [brk 4] ∧ Below w.heap.size w w' := by
  have HR : Hid (∀ o, Calls Try.prog 33 #[m.v] (w.alloc o) fun e w' => e = .returned (.bool false) ∧ Below (w.alloc o).heap.size (w.alloc o) w') := hid (fun o => by have := isRightM_any m (h.below (below_alloc w o)); rw [hb] at this; exact this)
  have NN := hid need_no
  obtain ⟨K, V, N, A, C, sl, es⟩ := m
  obtain ⟨sa, sn, sc, hsl⟩ : ∃ a n c, sl = .slice a n c := by obtain ⟨a, c, e, _⟩ := h; exact ⟨a, _, c, e⟩
  subst hsl
  simp only [Mg.v] at HR ⊢
  clear h hb
  go_enter Try.func18, Try.ntmps18
  go_wp2_with (first | (go_at_call 33; refine (HR.out _).mono ?_; rintro e w1 ⟨rfl, b1⟩) | (go_at_call 32; refine (NN.out _ _).mono ?_; rintro e w2 ⟨rfl, rfl⟩))
  exact ⟨rfl, rfl, (below_alloc _ _).next b1⟩
/-- numbers one behind the other -/
def numL (l : List Nat) : List UInt8 := l.flatMap uEnc
theorem numL_take {l : List Nat} {j : Nat} (hj : j < l.length) : numL (l.take (j + 1)) = numL (l.take j) ++ uEnc l[j] := by
  rw [List.take_succ_eq_append_getElem hj]; unfold numL; rw [List.flatMap_append]; simp
theorem numL_len : ∀ l : List Nat, (∀ x ∈ l, x < 9223372036854775808) → (numL l).length ≤ 9 * l.length
  | [], _ => by simp [numL]
  | x :: l, h => by
    have a := uEnc_len63 x (h x List.mem_cons_self)
    have b := numL_len l fun y hy => h y (List.mem_cons_of_mem _ hy)
    have e : numL (x :: l) = uEnc x ++ numL l := by simp [numL]
    rw [e, List.length_append, List.length_cons]; omega
set_option maxRecDepth 100000 in
set_option maxHeartbeats 2000000 in
theorem write_go {w : World} (k v n a c q : Nat) (sl : Value) (es : List Ent) (h : ELie w sl es) (hok : ∀ y ∈ es, y.Ok) (hn : es.length ≤ 2000000) (hq : q = es.length) (hk : k < 1000000000000000) (hv : v < 1000000000000000) (hnn : n < 1000000000000000) (ha : a < 1000000000000000) (hc : c < 1000000000000000)
    (hb : (hdB k v n a c && !fallsB es) = true) : Calls Try.prog 18 #[.agg #[.int .i64 k, .int .i64 v, .int .i64 n, .int .i64 a, .int .i64 c, sl]] w fun e w' =>
      (es.all rgt = false → e = .panicked [brk 4]) ∧
      (es.all rgt = true → 60000 < (numL [k, v, n, a, c, q]).length + (encs es).length + 4 → e = .panicked [brk 2]) ∧
      (es.all rgt = true → (numL [k, v, n, a, c, q]).length + (encs es).length + 4 ≤ 60000 → e = .returned (.string (st (Cd.sealL (numL [k, v, n, a, c, q] ++ encs es))))) ∧ Below w.heap.size w w' := by
  have HR : Hid (∀ o, Calls Try.prog 33 #[.agg #[.int .i64 k, .int .i64 v, .int .i64 n, .int .i64 a, .int .i64 c, sl]] (w.alloc o) fun e w' => e = .returned (.bool true) ∧ Below (w.alloc o).heap.size (w.alloc o) w') := hid (fun o => by have := isRightM_any ⟨k, v, n, a, c, sl, es⟩ (h.below (below_alloc w o)); rw [hb] at this; exact this)
  have NO := hid need_ok
  have NN := hid need_no
  have NW := hid new_w
  have HS := hid h
  have HOK := hid hok
  have HQ := hid hq
  have hqb : q ≤ 2000000 := by omega
  obtain ⟨sa, sc, hsl⟩ : ∃ a c, sl = .slice a q c := by obtain ⟨a, c, e, _⟩ := h; exact ⟨a, c, by rw [hq]; exact e⟩
  subst hsl
  obtain ⟨L, hL⟩ : ∃ L, L = [k, v, n, a, c, q] := ⟨_, rfl⟩
  rw [← hL]
  have HL := hid hL
  clear h hb hok hq hL
  go_enter Try.func18, Try.ntmps18
  go_upto_region 3 with (first | (go_at_call 33; refine (HR.out _).mono ?_; rintro e w1 ⟨rfl, b1⟩; have B1 := hid b1; clear b1) | (go_at_call 32; refine (NO.out _ _).mono ?_; rintro e w2 ⟨rfl, rfl⟩) | (go_at_call 34; refine (NW.out _).mono ?_; rintro e w3 ⟨rfl, wi, b3, s3⟩; have WI := hid wi; have B3 := hid b3; have S3 := hid s3; clear wi b3 s3))
  have l1 : w.heap.size < w2.heap.size := by have := B1.out.size; rw [alloc_size] at this; omega
  have mb : MBox w.heap.size w3 k v n a c (.slice sa q sc) := (B3.out.block _ l1).trans ((B1.out.block _ (by rw [alloc_size]; omega)).trans (box_at _ _))
  have bw3 : Below w.heap.size w w3 := ((below_alloc w _).next B1.out).next B3.out
  obtain ⟨g, hg⟩ : ∃ g, g = w2.heap.size := ⟨_, rfl⟩
  rw [← hg] at l1 WI S3 ⊢
  have MB := hid mb
  have BW := hid bw3
  have L1 := hid l1
  obtain ⟨c0, c1, c2, c3, c4, c5⟩ := mb.cells
  have hgs : w3.heap.size = g + 1 := S3.out
  clear B1 B3 hg mb bw3 l1 HR NW
  clear w2
  go_wp2
  obtain ⟨W, hW⟩ : ∃ W, W = w3.alloc (.cells #[.int .i64 k, .int .i64 v, .int .i64 n, .int .i64 a, .int .i64 c, .int .i64 q] 3) := ⟨_, rfl⟩
  rw [← hW]
  have HWI : Hid (WIs (g + 2) g W []) := hid (by rw [hW]; exact (WI.out (g + 2)).below (below_alloc _ _))
  have HM : Hid (MBox w.heap.size W k v n a c (.slice sa q sc)) := hid (by rw [hW]; exact (alloc_past _ _ (by have := L1.out; omega)).trans MB.out)
  have HAR : Hid (W.heap[g + 1]? = some (.cells #[.int .i64 k, .int .i64 v, .int .i64 n, .int .i64 a, .int .i64 c, .int .i64 q] 3 (0, 0))) := hid (by rw [hW, ← hgs]; exact box_at _ _)
  have HWS : Hid (W.heap.size = g + 2) := hid (by rw [hW, alloc_size, hgs])
  have HBW : Hid (Below w.heap.size w W) := hid (by rw [hW]; exact BW.out.next (below_alloc _ _))
  clear hW c0 c1 c2 c3 c4 c5 hgs MB BW WI S3
  clear w3
  have HLL : Hid (L.length = 6) := hid (by rw [HL.out]; rfl)
  have HLC : Hid (∀ j (hj : j < L.length), (#[.int .i64 k, .int .i64 v, .int .i64 n, .int .i64 a, .int .i64 c, .int .i64 q] : Array Value)[j]? = some (.int .i64 ((L[j] : Nat) : Int))) := hid (fun j hj => by
    have e := HL.out
    subst e
    match j, hj with
    | 0, _ => rfl
    | 1, _ => rfl
    | 2, _ => rfl
    | 3, _ => rfl
    | 4, _ => rfl
    | 5, _ => rfl)
  have HLB : Hid (∀ x ∈ L, x < 9223372036854775808) := hid (fun x hx => by
    rw [HL.out] at hx
    simp at hx
    omega)
  go_loopw [26] (fun i wr => ∃ j : Nat, i = .int .i64 j ∧ j ≤ 6 ∧ Hid (WIs (g + 2) g wr (numL (L.take j))) ∧ Hid (Kept (g + 2) g W wr)) (fun i _ => 6 - (intOf i).toNat)
  case atStart => exact ⟨0, rfl, by omega, HWI, hid (Kept.refl _ _ _)⟩
  case round =>
    obtain ⟨j, rfl, hj, HI, HK⟩ := hrel
    rename World => wr
    by_cases hlt : j < 6
    · have hjl : j < L.length := by rw [HLL.out]; exact hlt
      have c0 : wr.cell? ⟨g + 1, j, none⟩ = some (.int .i64 ((L[j] : Nat) : Int)) := (cell_at ((HK.out.block (g + 1) (by omega) (by omega)).trans HAR.out)).trans (HLC.out j hjl)
      have HF : Hid (numL (L.take (j + 1)) = numL (L.take j) ++ uEnc L[j]) := hid (numL_take hjl)
      have hx := HLB.out _ (List.getElem_mem hjl)
      have HLN : Hid ((numL (L.take j)).length ≤ 100) := hid (by
        have := numL_len (L.take j) fun x hx => HLB.out x (List.mem_of_mem_take hx)
        rw [List.length_take] at this
        omega)
      obtain ⟨x, hxx⟩ : ∃ x, x = L[j] := ⟨_, rfl⟩
      rw [← hxx] at c0 HF hx
      clear hxx
      have HX := hid hx
      clear hx
      go_wp2_with (go_at_call 35; fail)
      refine (uint_w (g + 2) g x (numL (L.take j)) (by have := HX.out; omega) (by have := HLN.out; omega) wr HI.out (by have := HK.out.size; have := HWS.out; omega)).mono ?_
      rintro e w4 ⟨rfl, i4, k4⟩
      have HI4 : Hid (WIs (g + 2) g w4 (numL (L.take (j + 1)))) := hid (by rw [HF.out]; exact i4)
      have HK4 : Hid (Kept (g + 2) g W w4) := hid (HK.out.trans k4)
      clear i4 k4 c0
      go_wp2
      go_roundw
      case rel => exact ⟨j + 1, by go_num, by omega, HI4, HK4⟩
      case measure => simp [intOf]; omega
    · have hj6 : j = 6 := by omega
      have HI6 : Hid (WIs (g + 2) g wr (numL L)) := hid (by have := HI.out; rw [hj6, List.take_of_length_le (by rw [HLL.out]; omega)] at this; exact this)
      have c5 : wr.cell? ⟨w.heap.size, 5, none⟩ = some (.slice sa q sc) := MBox.cells (K := k) (V := v) (N := n) (A := a) (C := c) ((HK.out.block w.heap.size (by have := L1.out; omega) (by have := L1.out; omega)).trans HM.out) |>.2.2.2.2.2
      have hbw : Below w.heap.size w wr := HBW.out.trans (HK.out.below (by have := HWS.out; have := HBW.out.size; omega) (by have := L1.out; omega))
      have hbd : Below w.heap.size w wr.drew := ⟨hbw.os, hbw.tape, hbw.output, hbw.size, hbw.block⟩
      have HE := hid (ents_any (HS.out.below hbd) HOK.out hn)
      have HO := hid (out_w (g + 2) g (numL L) wr.drew HI6.out)
      have HBR := hid hbd
      have HNL : Hid ((numL L).length ≤ 100) := hid (by
        have := numL_len L HLB.out
        rw [HLL.out] at this
        omega)
      clear hbw hbd hj6 HI HK
      cases har : es.all rgt with
      | false =>
        have HA := hid har
        clear har
        go_wp2
        go_region_with (first | (go_at_call 36; refine HO.out.mono ?_; rintro e w5 ⟨rfl, rfl⟩) | (go_at_call 29; refine HE.out.mono ?_; rintro e w6 ⟨_, k2, b6⟩; obtain rfl := k2 HA.out; refine (fun (_ : wpAny Try.prog .any #[] (fun _ _ _ => True) 0 #[] { tmps := #[], defers := [] } w) => ?_) ?_; exact ⟨rfl, fun _ => rfl, fun e => (by rw [HA.out] at e; cases e), fun e => (by rw [HA.out] at e; cases e), HBR.out.trans (b6.mono HBR.out.size)⟩))
        all_goals trivial
      | true =>
        have HA := hid har
        have HEL : Hid ((encs es).length ≤ 12378 * 2000000) := hid (by
          have := encs_len es har HOK.out
          omega)
        clear har
        have hadd := fun wx => Go.run_string_add_sum (P := Try.prog) (w := wx) (st (numL L)) (st (encs es)) (by rw [st_size, st_size]; have := HEL.out; have := HNL.out; omega)
        go_wp2
        go_region_with (first | (go_at_call 36; refine HO.out.mono ?_; rintro e w5 ⟨rfl, rfl⟩) | (go_at_call 29; refine HE.out.mono ?_; rintro e w6 ⟨k1, _, b6⟩; obtain rfl := k1 HA.out; clear k1))
        all_goals (
          have bw6 : Below w.heap.size w w6 := HBR.out.trans (b6.mono HBR.out.size)
          clear b6
          have HB6 := hid bw6
          clear bw6
          have sz : (st (numL L) ++ st (encs es)).size = (numL L).length + (encs es).length := by rw [ByteArray.size_append, st_size, st_size]
          have HSZ := hid sz
          obtain ⟨z, hz⟩ : ∃ z, z = st (numL L) ++ st (encs es) := ⟨_, rfl⟩
          rw [← hz] at sz HSZ
          have HZ : Hid (z.data.toList = numL L ++ encs es) := hid (by rw [hz]; simp [st])
          simp only [← hz]
          clear hz hadd
          have HSL := hid (Cd.seal_any z)
          clear sz
          by_cases hfit : (z.size : Int) + 4 ≤ 60000
          · have HFT := hid hfit
            have hwr : IntKind.i64.wrap ((z.size : Int) + 4) = (z.size : Int) + 4 := by rw [IntKind.wrap_i64]; omega
            go_wp2_with (first | (go_at_call 32; refine (NO.out _ _).mono ?_; rintro e w7 ⟨rfl, rfl⟩) | (go_at_call 37; refine (HSL.out (by have := HFT.out; omega) _).mono ?_; rintro e w8 ⟨rfl, b8⟩))
            go_ret
            rw [HZ.out]
            refine ⟨fun e => (by rw [HA.out] at e; cases e), fun _ e => ?_, fun _ _ => rfl, HB6.out.trans (b8.mono HB6.out.size)⟩
            have := HSZ.out
            have := HFT.out
            omega
          · have HFT := hid hfit
            have hwr : IntKind.i64.wrap ((z.size : Int) + 4) = (z.size : Int) + 4 := by have := HSZ.out; have := HEL.out; have := HNL.out; rw [IntKind.wrap_i64]; omega
            go_wp2_with (first | (go_at_call 32; refine (NN.out _ _).mono ?_; rintro e w7 ⟨rfl, rfl⟩))
            refine ⟨rfl, fun e => (by rw [HA.out] at e; cases e), fun _ _ => rfl, fun _ e => ?_, HB6.out⟩
            have := HSZ.out
            have := HFT.out
            omega)
end Go.Proofs.Ytjphfpfagnhelaa
