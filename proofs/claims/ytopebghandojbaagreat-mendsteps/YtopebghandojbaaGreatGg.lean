import Derived.Test.YtopebghandojbaaGreatGe
import Derived.Test.YtopebghandojbaaGreatHsh
namespace Go.Proofs.YtopebghandojbaaGreat
open Go.RowKit Go.Maps

theorem r9_mem (x y : Nat) : ∀ (l : List Chg) (last : Int), r9 x y last l = true → ∀ c ∈ l, (y : Int) < c.b ∧ c.b < x ∧ c.d.size = 128
  | [], _, _, c, hc => by cases hc
  | a :: l, last, h, c, hc => by
    simp only [r9, Bool.and_eq_true, decide_eq_true_eq] at h
    rcases List.mem_cons.1 hc with rfl | hc
    · exact ⟨h.1.1, h.1.2, h.2.1⟩
    · exact r9_mem x y l a.b h.2.2.2 c hc
theorem r9_len (x y : Nat) : ∀ (l : List Chg) (last : Int), r9 x y last l = true → l = [] ∨ last + (l.length : Int) < x
  | [], _, _ => .inl rfl
  | a :: l, last, h => by
    simp only [r9, Bool.and_eq_true, decide_eq_true_eq] at h
    obtain ⟨⟨h1, h2⟩, h3, h4, h5⟩ := h
    right
    rw [List.length_cons]
    push_cast
    rcases r9_len x y l a.b h5 with e | e
    · rw [e]; simp; omega
    · omega
/-- the blocks of a device of a shape that has some blocks -/
def qsB (L : List Chg) : List (Nat × ByteArray) := L.map fun c => (c.b.toNat, c.d)
def fmtB (x y z : Nat) (L : List Chg) : Nat → Option ByteArray := Dv.seen (fmtL x y z) (qsB L)
theorem fmtB_eq (x y z : Nat) (L : List Chg) : fmtB x y z L = Dv.seen (fun _ => none) ([(0, Sh.superS x y z), (1, hdB 0 1 1)] ++ qsB L) := by
  unfold fmtB fmtL Dv.seen
  rw [List.foldl_append]
theorem qsB_take (L : List Chg) (q : Nat) (h : q < L.length) : qsB (L.take (q + 1)) = qsB (L.take q) ++ [(L[q].b.toNat, L[q].d)] := by
  unfold qsB
  rw [List.take_succ_eq_append_getElem h, List.map_append]
  rfl
theorem qsB_len (L : List Chg) : (qsB L).length = L.length := by simp [qsB]
set_option maxRecDepth 100000 in
theorem rformat_shape (x y z : Int) (h : ¬ Sh.okS x y z) (v : Value) (w : World) : Calls Tryz.prog 9 #[.agg #[.int .i64 x, .int .i64 y, .int .i64 z], v] w fun e w' => e = .returned (.tuple #[.pointer none, .int .i64 60]) ∧ Below w.heap.size w w' := by
  have HS := hid (fun w => Sh.refSuper_bad x y z h w)
  go_enter Tryz.func9, Tryz.ntmps9
  go_wp2_with (first
    | (go_at_call 46; refine (HS.out _).mono ?_; rintro e w1 ⟨rfl, hb1⟩))
  go_ret2
  exact ⟨rfl, (below_alloc _ _).next hb1⟩
set_option maxRecDepth 100000 in
theorem rformat_bad (x y z : Nat) (h : Sh.okS x y z) (v : Value) (L : List Chg) (h9 : r9 x y (-1) L = false) (w : World) (hL : CLie w v L) : Calls Tryz.prog 9 #[.agg #[.int .i64 x, .int .i64 y, .int .i64 z], v] w fun e w' => e = .returned (.tuple #[.pointer none, .int .i64 70]) ∧ Below w.heap.size w w' := by
  have HS := hid (fun w => Sh.refSuper_ok x y z h w)
  have H9 := hid (fun w' (k : Below w.heap.size w w') => right9_any x y z v L w' (hL.below k))
  rw [h9] at H9
  obtain ⟨lo, lc, rfl, _⟩ := hL
  have hbx := box_at w (.cells #[.int .i64 (x : Int), .int .i64 (y : Int), .int .i64 (z : Int)] 23)
  have HBX := hid hbx
  have HB0 := hid (below_alloc w (.cells #[.int .i64 (x : Int), .int .i64 (y : Int), .int .i64 (z : Int)] 23))
  clear hbx
  go_enter Tryz.func9, Tryz.ntmps9
  go_wp2_with (first
    | (go_at_call 46; refine (HS.out _).mono ?_; rintro e w1 ⟨rfl, hb1⟩
       obtain ⟨d0, d1, d2⟩ := three_cells ((hb1.block _ (lt_of_block HBX.out)).trans HBX.out))
    | (go_at_call 34; refine (H9.out _ (HB0.out.next hb1)).mono ?_; rintro e w2 ⟨rfl, hb2⟩))
  go_ret2
  exact ⟨rfl, (HB0.out.next hb1).next hb2⟩
set_option maxRecDepth 100000 in
set_option maxHeartbeats 4000000 in
theorem rformat_ok (x y z : Nat) (h : Sh.okS x y z) (v : Value) (L : List Chg) (h9 : r9 x y (-1) L = true) (w : World) (hL : CLie w v L) :
    Calls Tryz.prog 9 #[.agg #[.int .i64 x, .int .i64 y, .int .i64 z], v] w fun e w' => ∃ d fp, e = .returned (.tuple #[.pointer (some ⟨d, 0, none⟩), .int .i64 0]) ∧ Dv.XD w.heap.size d w' x (fmtB x y z L) [] fp ∧ Below w.heap.size w w' := by
  have hx := h.1.1
  have hy := h.1.2.1
  have hmem := r9_mem x y L _ h9
  have hlen : L.length ≤ 1024 := by
    rcases r9_len x y L _ h9 with e | e
    · rw [e]; simp
    · omega
  have HS := hid (fun w => Sh.refSuper_ok x y z h w)
  have hss := super_size x y z
  have hhs : (hdB 0 1 1).size = 128 := hdB_size 0 1 1
  have H9 := hid (fun w' (k : Below w.heap.size w w') => right9_any x y z v L w' (hL.below k))
  rw [h9] at H9
  have HMEM := hid hmem
  have HN := hid (fun w' (k : Below w.heap.size w w') => Dv.xd_new x (by omega) (by omega) w.heap.size w' k.size)
  have HJ := hid (fun w' => refNew_j (y : Int) w' (by omega))
  have HH := hid (fun g r (P : Int) w' hk => refHeader_j g r P 0 1 0 [] (by decide) (by decide) w' hk)
  have HFE := hid (fmtB_eq x y z L)
  obtain ⟨su, hsu⟩ : ∃ su, su = Sh.superS x y z := ⟨_, rfl⟩
  obtain ⟨hd, hhd⟩ : ∃ hd, hd = hdB 0 1 1 := ⟨_, rfl⟩
  have hhd2 : hdB 0 1 (1 + 0) = hd := by rw [hhd]
  rw [← hsu] at HS hss HFE
  rw [← hhd] at hhs HFE
  rw [hhd2] at HH
  clear hsu hhd hhd2
  obtain ⟨lo, lc, rfl, hll, hlc, hcell⟩ := hL
  unfold maxLen at hlc
  have HC := hid hcell
  have hbx := box_at w (.cells #[.int .i64 (x : Int), .int .i64 (y : Int), .int .i64 (z : Int)] 23)
  have HBX := hid hbx
  have HB0 := hid (below_alloc w (.cells #[.int .i64 (x : Int), .int .i64 (y : Int), .int .i64 (z : Int)] 23))
  clear hbx hmem h9 hcell
  go_enter Tryz.func9, Tryz.ntmps9
  go_upto_region 8 with (first
    | (go_at_call 46; refine (HS.out _).mono ?_; rintro e w1 ⟨rfl, hb1⟩
       obtain ⟨d0, d1, d2⟩ := three_cells ((hb1.block _ (lt_of_block HBX.out)).trans HBX.out)
       have HB1 := hid (HB0.out.next hb1)
       have HX1 := hid ((hb1.block _ (lt_of_block HBX.out)).trans HBX.out)
       clear hb1)
    | (go_at_call 34; refine (H9.out _ HB1.out).mono ?_; rintro e w2 ⟨rfl, hb2⟩
       clear d0 d1 d2
       obtain ⟨d0, d1, d2⟩ := three_cells ((hb2.block _ (lt_of_block HX1.out)).trans HX1.out)
       have HB2 := hid (HB1.out.next hb2)
       have HX2 := hid ((hb2.block _ (lt_of_block HX1.out)).trans HX1.out)
       clear hb2)
    | (go_at_call 28; refine (HN.out _ HB2.out).mono ?_; rintro e w3 ⟨rfl, hd3, hb3⟩
       clear d0 d1 d2
       obtain ⟨d0, d1, d2⟩ := three_cells ((hb3.block _ (lt_of_block HX2.out)).trans HX2.out)
       have HB3 := hid (HB2.out.next hb3)
       have HD3 := hid hd3
       clear hb3 hd3)
    | (go_at_call 47; refine (HJ.out _).mono ?_; rintro e w4 ⟨rfl, hk4, hb4⟩
       have HB4 := hid (HB3.out.next hb4)
       have HD4 := hid (HD3.out.below hb4)
       have HK4 := hid hk4
       clear hb4 hk4 d0 d1 d2))
  obtain ⟨d, hde⟩ : ∃ d, d = w2.heap.size + 1 := ⟨_, rfl⟩
  obtain ⟨j, hje⟩ : ∃ j, j = w3.heap.size := ⟨_, rfl⟩
  obtain ⟨fp, hfp⟩ : ∃ fp, fp = [w2.heap.size, w2.heap.size + 1] := ⟨_, rfl⟩
  have hjfp : j ∉ fp := fun hm => by
    rw [hfp] at hm
    have := (HD3.out.lo j hm).2
    omega
  rw [← hfp, ← hde] at HD4
  rw [← hje] at HK4
  rw [← hde, ← hje]
  clear hde hje hfp HD3
  have HW0 := hid (Dv.XD.write 0 su hss (by omega) (by simp) w4 HD4.out HB4.out.size)
  have hjl := HK4.out.lt.1
  have hK4 := HK4.out
  have hlo := HD4.out.lo
  have HLO := hid hlo
  clear hlo
  go_upto_region 9 with (first
    | (go_at_call 30; refine HW0.out.mono ?_; rintro e w5 ⟨rfl, fp5, hd5, ho5, hf5⟩))
  have HB5 := hid (HB4.out.trans (ho5.below HB4.out.size (fun a ha => (HLO.out a ha).1)))
  have HD5 := hid hd5
  have HK5 : Hid (RK j none w5 ((y : Int) - 1) 0 1 0 []) := hid (hK4.same (ho5.block j hjl hjfp) (fun a ha => by cases ha))
  have HW1 := hid (fun w' (k : Below w5.heap.size w5 w') => Dv.XD.write 1 hd hhs (by omega) (by simp) w' (HD5.out.below k) (Nat.le_trans HB5.out.size k.size))
  have hlo5 := hd5.lo
  have HLO5 := hid hlo5
  clear hd5 ho5 hlo5 HW0 HD4 hK4
  go_upto_region 10 with (first
    | (go_at_call 48; refine (HH.out _ _ _ _ HK5.out).mono ?_; rintro e w6 ⟨rfl, hb6⟩)
    | (go_at_call 30; refine (HW1.out _ hb6).mono ?_; rintro e w7 ⟨rfl, fp7, hd7, ho7, hf7⟩))
  have hge : ∀ a ∈ fp7, w.heap.size ≤ a := fun a ha => (hd7.lo a ha).1
  have HB7 := hid ((HB5.out.next hb6).trans (ho7.below (Nat.le_trans HB5.out.size hb6.size) (fun a ha => (HLO5.out a ha).1)))
  have HD7 := hid hd7
  clear hd7 ho7 hf7 hb6 HW1 HLO5 HD5
  go_wp2
  go_loopw [46] (fun i wr => ∃ (q : Nat) (fq : List Nat), i = .int .i64 q ∧ q ≤ L.length ∧ Dv.XD w.heap.size d wr x (fun _ => none) ([(0, su), (1, hd)] ++ qsB (L.take q)) fq ∧ Below w.heap.size w wr) (fun i _ => L.length - (intOf i).toNat)
  case atStart => exact ⟨0, fp7, rfl, Nat.zero_le _, by simpa [qsB] using HD7.out, HB7.out⟩
  case round =>
    obtain ⟨q, fq, rfl, hq, hdq, hbq⟩ := hrel
    have HDq := hid hdq
    have HBq := hid hbq
    have hsz := hbq.size
    clear hdq hbq
    by_cases hqk : q < L.length
    · obtain ⟨gb, of2, e, hgl, d0, d1⟩ := HC.out q hqk
      subst e
      have hT := qsB_take L q hqk
      have hm := HMEM.out _ (List.getElem_mem hqk)
      have hln := qsB_len (L.take q)
      rw [List.length_take] at hln
      obtain ⟨cc, hcc⟩ : ∃ cc, cc = L[q] := ⟨_, rfl⟩
      rw [← hcc] at d0 d1 hT hm
      clear hcc
      obtain ⟨cb, cd⟩ := cc
      have hm : (y : Int) < cb ∧ cb < x ∧ cd.size = 128 := hm
      obtain ⟨b, rfl⟩ : ∃ b : Nat, cb = b := ⟨cb.toNat, by omega⟩
      have hT : qsB (L.take (q + 1)) = qsB (L.take q) ++ [(b, cd)] := hT
      have HT := hid hT
      replace d0 := (HBq.out.cell (p := ⟨gb, of2 + q * 2, none⟩) hgl).trans d0
      replace d1 := (HBq.out.cell (p := ⟨gb, of2 + q * 2 + 1, none⟩) hgl).trans d1
      have d0 : wr.cell? ⟨gb, of2 + q * 2, none⟩ = some (.int .i64 (b : Int)) := d0
      have d1 : wr.cell? ⟨gb, of2 + q * 2 + 1, none⟩ = some (.string cd) := d1
      have hgr : gb < wr.heap.size := by omega
      have HB8 := hid (below_alloc wr (.cells #[.int .i64 (b : Int), .string cd] 94))
      have HW := hid (fun w' (k : Below wr.heap.size wr w') => Dv.XD.write b cd hm.2.2 (by omega) (by rw [List.length_append, hln]; simp; omega) w' (HDq.out.below k) (Nat.le_trans hsz k.size))
      have hlo := HDq.out.lo
      have HLO := hid hlo
      clear hm hln hT hlo
      go_wp2_with (first
        | (go_at_call 30; refine (HW.out _ (by exact HB8.out)).mono ?_; rintro e w8 ⟨rfl, fp8, hd8, ho8, hf8⟩))
      go_roundw
      case rel => exact ⟨q + 1, fp8, by go_num, by omega, by rw [HT.out, ← List.append_assoc]; exact hd8, HBq.out.trans ((HB8.out.mono hsz).trans (ho8.below (Nat.le_trans hsz HB8.out.size) (fun a ha => (HLO.out a ha).1)))⟩
      case measure => simp only [intOf] at *; omega
    · have hqe : q = L.length := by omega
      subst hqe
      rw [List.take_length] at HDq
      have hln := qsB_len L
      have HFL := hid (Dv.XD.flush (by rw [List.length_append, hln]; simp; omega) wr HDq.out)
      have hlo := HDq.out.lo
      have HLO := hid hlo
      clear hln hlo
      go_wp2_with (first
        | (go_at_call 32; refine HFL.out.mono ?_; rintro e w8 ⟨rfl, hd8, ho8⟩))
      go_ret2
      exact ⟨d, fq, rfl, by rw [HFE.out]; exact hd8, HBq.out.trans (ho8.below hsz (fun a ha => (HLO.out a ha).1))⟩
end Go.Proofs.YtopebghandojbaaGreat
