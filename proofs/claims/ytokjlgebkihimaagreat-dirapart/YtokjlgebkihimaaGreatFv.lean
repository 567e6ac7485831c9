import Derived.Test.YtokjlgebkihimaaGreatSh
namespace Go.Proofs.YtokjlgebkihimaaGreat
open Go.RowKit Go.Maps

set_option maxRecDepth 100000 in
theorem okN_nat {v : Nat} (h : v < 1024) : okN (v : Int) = true := by unfold okN; rw [decide_eq_true_eq]; omega
set_option maxRecDepth 100000 in
theorem usedI_put {n : Ino} {v pl : Nat} (h : usedI n = true) (hv : v < 1024) : usedI (n.put (v : Int) pl) = true := by
  have hk := okN_nat hv
  unfold usedI namesB at h ⊢
  simp only [Bool.and_eq_true] at h ⊢
  unfold Ino.put
  split <;> simp_all
set_option maxRecDepth 100000 in
theorem usedI_nam {n : Ino} {inn pl v : Nat} (h : usedI n = true) (hv : v < 1024) : usedI (namN n inn pl v) = true := by
  unfold namN
  split
  · exact usedI_put h hv
  · exact h
set_option maxRecDepth 100000 in
theorem usedI_mk {G : Geo} (hG : G.Ok) {B : List ByteArray} {n : Ino} {inn pl : Nat} (h : usedI n = true) : usedI (mkS G B n inn pl).2.2 = true := by
  unfold mkS
  cases hf : fre G B with
  | none => exact h
  | some b => exact usedI_nam h (by have := (fre_lt hG hf).1; have := hG.n1; omega)
set_option maxRecDepth 100000 in
theorem usedI_st {G : Geo} (hG : G.Ok) {B : List ByteArray} {n : Ino} {inn pl : Nat} (h : usedI n = true) : usedI (stS G B n inn pl).2.2 = true := by
  unfold stS
  split
  · exact usedI_mk hG h
  · exact h
set_option maxRecDepth 100000 in
theorem usedI_rch {G : Geo} (hG : G.Ok) {B : List ByteArray} {n : Ino} {i : Nat} (h : usedI n = true) : usedI (rchS G B n i).2.2 = true := by
  unfold rchS
  split
  · split
    · exact usedI_mk hG h
    · split
      · split
        · exact usedI_st hG h
        · exact usedI_mk hG (usedI_st hG h)
      · split
        · exact usedI_st hG h
        · split
          · exact usedI_st hG (usedI_st hG h)
          · exact usedI_mk hG (usedI_st hG (usedI_st hG h))
  · exact h
set_option maxRecDepth 100000 in
theorem usedI_lay {G : Geo} (hG : G.Ok) : ∀ (f : Nat) {B : List ByteArray} {n : Ino} {x : Nat} {d : List UInt8}, usedI n = true → usedI (layS G f B n x d).2.2 = true
  | 0, _, _, _, _, h => h
  | f + 1, B, n, x, d, h => by
    have hr := usedI_rch hG (B := B) (i := x / 128) h
    unfold layS
    split
    · exact h
    · split
      · rename_i h2
        rw [h2] at hr; exact hr
      · rename_i h2
        rw [h2] at hr; exact usedI_lay hG f hr
set_option maxRecDepth 100000 in
theorem layS_01 (G : Geo) : ∀ (f : Nat) (B : List ByteArray) (n : Ino) (x : Nat) (d : List UInt8), (layS G f B n x d).1 = 0 ∨ (layS G f B n x d).1 = 306
  | 0, _, _, _, _ => .inl rfl
  | f + 1, B, n, x, d => by
    unfold layS
    split
    · exact .inl rfl
    · split
      · exact .inr rfl
      · exact layS_01 G f _ _ _ _
set_option maxRecDepth 100000 in
theorem usedI_z {n : Ino} (h : usedI n = true) : 0 ≤ n.z ∧ n.z ≤ 533248 := by
  unfold usedI at h
  simp only [Bool.and_eq_true, decide_eq_true_eq] at h
  exact ⟨h.1.1.2, h.1.2⟩
set_option maxRecDepth 100000 in
theorem usedI_size {n : Ino} {z : Int} (h : usedI n = true) (h0 : 0 ≤ z) (h1 : z ≤ 533248) : usedI { n with z := z } = true := by
  unfold usedI namesB at h ⊢
  simp only [Bool.and_eq_true, decide_eq_true_eq] at h ⊢
  exact ⟨⟨⟨h.1.1.1, h0⟩, h1⟩, h.2⟩
set_option maxRecDepth 100000 in
theorem usedI_chk {n : Ino} (h : usedI n = true) : chkE n = 0 := by unfold chkE rightI; rw [h, Bool.or_true]; rfl
set_option maxRecDepth 100000 in
theorem dec_ok {l : List UInt8} (h : decE l = 0) : rightI (decI l) = true := by
  unfold decE at h
  unfold decI
  split at h
  · rename_i h1; rw [if_pos h1]; exact h1.1
  · cases h
set_option maxRecDepth 100000 in
theorem get_ok {b : ByteArray} {k : Int} (h : getE b k = 0) : rightI (getI b k) = true := by
  unfold getE at h
  unfold getI
  split at h
  · rename_i h1; rw [if_pos h1]; exact dec_ok h
  · rename_i h1; exact absurd h h1
set_option maxRecDepth 100000 in
theorem usd_ok {G : Geo} {B : List ByteArray} {i : Int} (h : usdE G B i = 0) : (0 ≤ i ∧ i < G.z) ∧ nodeE G B i = 0 ∧ usdI G B i = nodeI G B i ∧ usedI (usdI G B i) = true := by
  unfold usdE at h
  unfold usdI
  split at h
  · cases h
  · rename_i h1
    rw [if_neg h1]
    unfold nodeE at h
    split at h
    · rename_i h2
      refine ⟨h2, by unfold nodeE; rw [if_pos h2]; exact h, rfl, ?_⟩
      have hr : rightI (nodeI G B i) = true := by unfold nodeI; rw [if_pos h2]; exact get_ok h
      unfold rightI at hr
      rw [Bool.or_eq_true] at hr
      rcases hr with hr | hr
      · exact absurd ⟨by unfold nodeE; rw [if_pos h2]; exact h, by rw [free_zero hr]; rfl⟩ h1
      · exact hr
    · cases h
set_option maxRecDepth 100000 in
theorem lay_used {G : Geo} (hG : G.Ok) {B : List ByteArray} {n : Ino} {x : Nat} {d : ByteArray} (h : usedI n = true) (hx : x + d.size ≤ 533248) : usedI (layR G B n x d).2.2 = true := by
  unfold layR
  have hz := usedI_z h
  exact usedI_lay hG _ (usedI_size h (by omega) (by omega))
end Go.Proofs.YtokjlgebkihimaaGreat
namespace Go.Proofs.YtokjlgebkihimaaGreat
open Go.RowKit Go.Maps

set_option maxRecDepth 100000 in
theorem VI.frz {G : Geo} {p q cap m : Nat} {w : World} {F B : List ByteArray} (h : VI G p q cap m w F B) (i : Nat) : w.frozen? ⟨p, i, none⟩ = false := by
  have := h.own
  simp [World.frozen?, this]
set_option maxRecDepth 100000 in
/-- the view whose map is laid back -/
theorem fail_view {G : Geo} {p q cap m m' g : Nat} {w3 w4 : World} {F B B4 : List ByteArray} {M : List Chg} (h4 : VI G p q cap m w4 F B4) (h3 : VI G p q cap m w3 F B) (hM : Um.MIs m' w3 M.length M) (hD : Diff F B M) (ho : Only [g, m] w3 w4) (hg : m' ≠ g) (hm : m' ≠ m) (hp : m' ≠ p) (_hq : m' ≠ q) : VI G p q cap m' (w4.setCell ⟨p, 7, none⟩ (.map (some m'))) F B := by
  have hM4 : Um.MIs m' w4 M.length M := hM.same (ho.block m' hM.lt (by simp; exact ⟨hg, hm⟩))
  refine ⟨?_, fun i hi => ?_, h4.ne, ⟨M, hM4.same (set_off _ _ hp), hD⟩, h4.ok, h4.fl, h3.bl, h4.fs, h3.bs⟩
  · rw [set_at h4.own 7 _]
    rfl
  · rw [cell_same (set_off _ _ h4.ne)]
    exact h4.row i hi
set_option maxRecDepth 100000 in
set_option maxHeartbeats 2000000 in
theorem write_ok {G : Geo} {p q cap m : Nat} {w : World} {F B : List ByteArray} (i : Nat) (x : Nat) (d : ByteArray) (hd : d.size ≤ 1024) (hd0 : d.size ≠ 0) (hx : x + d.size ≤ 533248) (hu : usdE G B (i : Int) = 0) (hL : (layR G B (usdI G B (i : Int)) x d).1 = 0) (h : VI G p q cap m w F B) : Calls Tryz.prog 71 #[.pointer (some ⟨p, 0, none⟩), .int .i64 (i : Int), .int .i64 (x : Int), .string d] w fun e w' => e = .returned (.int .i64 0) ∧ VI G p q cap m w' F (putB G (layR G B (usdI G B (i : Int)) x d).2.1 i (layR G B (usdI G B (i : Int)) x d).2.2) ∧ Only [m] w w' := by
  have HV := hid h
  have HG := hid h.ok
  obtain ⟨⟨hi0, hi1⟩, hne0, hse, hus⟩ := usd_ok hu
  have hiz : i < G.z := by omega
  have HN := hid (vnone_any h)
  have HU := hid (used_any (i : Int) h)
  rw [hu] at HU
  have HLU := hid (lay_used HG.out (B := B) (x := x) (d := d) hus hx)
  have hzz := usedI_z hus
  have HLA := hid (fun w' g (hX : Box g w' (usdI G B (i : Int))) (h1 : g ≠ p) (h2 : g ≠ q) (hv : VI G p q cap m w' F B) => lay_any (w := w') (usdI G B (i : Int)) x d hx hzz hX h1 h2 hv)
  have HPQ : Hid (p < w.heap.size ∧ q < w.heap.size ∧ m < w.heap.size) := hid ⟨h.pl, h.ql, h.ml⟩
  have hne : d.toList.isEmpty = false := by
    rw [Lib.toList_data, List.isEmpty_eq_false_iff]
    intro e
    exact hd0 (by rw [← len_list, e]; rfl)
  have hwr : IntKind.i64.wrap (533248 - (d.size : Int)) = 533248 - (d.size : Int) := by rw [IntKind.wrap_i64]; omega
  have c7 : w.cell? ⟨p, 7, none⟩ = some (.map (some m)) := (h.cell 7).trans rfl
  have hd1 : decide ((1024 : Int) < (d.size : Int)) = false := by simp; omega
  have hx1 : decide (533248 - (d.size : Int) < (x : Int)) = false := by simp; omega
  have HC7 : Hid (∀ w', VI G p q cap m w' F B → w'.cell? ⟨p, 7, none⟩ = some (.map (some m))) := fun w' hv => (hv.cell 7).trans rfl
  obtain ⟨R, hR⟩ : ∃ R, R = layR G B (usdI G B (i : Int)) x d := ⟨_, rfl⟩
  rw [← hR] at HLA HLU hL ⊢
  have HP := hid (fun w' (hv : VI G p q cap m w' F R.2.1) => vput_any (w := w') i hiz R.2.2 (usedI_chk HLU.out) hv)
  rw [hL] at HLA
  obtain ⟨r1, rB, rn⟩ := R
  simp only at hL HLA HLU HP ⊢
  obtain ⟨B9, hB9⟩ : ∃ B9, B9 = putB G rB i rn := ⟨_, rfl⟩
  rw [← hB9] at HP ⊢
  clear hB9
  obtain ⟨k', l', z', a', b', c', d', e', f', s', t'⟩ := rn
  simp only [Ino.v] at HP
  obtain ⟨n, hn⟩ : ∃ n, n = usdI G B (i : Int) := ⟨_, rfl⟩
  rw [← hn] at HU HLA
  clear h hi0 hi1 hne0 hse hus hu hiz hzz hR hn hd hd0 hx hL HLU
  obtain ⟨k, l, z, a0, b0, c0, d0, e0, f0, s0, t0⟩ := n
  simp only [Ino.v] at HU
  go_enter Tryz.func71, Tryz.ntmps71
  go_wp2_with (first
    | (go_at_call 55; refine HN.out.mono ?_; rintro e w0 ⟨rfl, hw⟩; have hw := hw.symm; subst hw)
    | (go_at_call 94; refine HU.out.mono ?_; rintro e w1 ⟨rfl, hb1⟩
       have HB1 := hid hb1
       replace c7 := HC7.out _ (HV.out.below hb1)
       have hpl1 : p < w1.heap.size := by have := HPQ.out; have := hb1.size; omega
       clear hb1)
    | (go_at_call 95; fail))
  obtain ⟨w2, hw2⟩ : ∃ w2, w2 = w1.alloc (.cells #[.int .i64 k, .int .i64 l, .int .i64 z, .int .i64 a0, .int .i64 b0, .int .i64 c0, .int .i64 d0, .int .i64 e0, .int .i64 f0, .int .i64 s0, .int .i64 t0] 36) := ⟨_, rfl⟩
  have hX2 : Box w1.heap.size w2 ⟨k, l, z, a0, b0, c0, d0, e0, f0, s0, t0⟩ := by rw [hw2]; exact box_at _ _
  have hB2 : Below w1.heap.size w1 w2 := by rw [hw2]; exact below_alloc w1 _
  rw [← hw2]
  have hs2 : w2.heap.size = w1.heap.size + 1 := by rw [hw2]; simp
  clear hw2
  have hV2 := (HV.out.below HB1.out).below hB2
  obtain ⟨M, hM, hD⟩ := hV2.map
  refine (mclone hM).mono ?_
  rintro e w3 ⟨rfl, hM3, hb3⟩
  have HV3 := hid (hV2.below hb3)
  have HX3 := hid (hX2.below hb3)
  have HB3 := hid ((HB1.out.next hB2).next hb3)
  have HLT : Hid (w.heap.size ≤ w1.heap.size ∧ w2.heap.size = w1.heap.size + 1 ∧ w2.heap.size < w3.heap.size) := hid ⟨HB1.out.size, hs2, hM3.lt⟩
  have HM3 := hid hM3
  have HD := hid hD
  have HDL := hid (hM.rise)
  clear c7 hX2 hB2 hV2 hM hD hM3 hb3 hs2 hpl1
  go_wp2_with (first
    | (go_at_call 96; refine (HLA.out _ _ HX3.out (by have := HLT.out; have := HPQ.out; omega) (by have := HLT.out; have := HPQ.out; omega) HV3.out).mono ?_; rintro e w4 ⟨rfl, hv4, hx4, ho4⟩
       have HV4 := hid hv4
       have HX4 := hid hx4
       have HO4 := hid ho4
       clear hv4 hx4 ho4
       obtain ⟨x0, x1, x2, x3, x4, x5, x6, x7, x8, x9, x10⟩ := HX4.out.cells
       skip)
    | (go_at_call 61; refine (HP.out _ HV4.out).mono ?_; rintro e w5 ⟨rfl, hv5, ho5⟩))
  go_ret
  refine ⟨rfl, hv5, ?_⟩
  have hl := HLT.out
  have hO : Only [m] w w4 := ⟨HO4.out.os.trans HB3.out.os, HO4.out.tape.trans HB3.out.tape, HO4.out.output.trans HB3.out.output, Nat.le_trans HB3.out.size HO4.out.size, fun j hj hn => (HO4.out.block j (by have := HB3.out.size; omega) (by simp at hn ⊢; omega)).trans (HB3.out.block j hj)⟩
  exact hO.trans ho5
set_option maxRecDepth 100000 in
set_option maxHeartbeats 2000000 in
theorem write_fail {G : Geo} {p q cap m : Nat} {w : World} {F B : List ByteArray} (i : Nat) (x : Nat) (d : ByteArray) (hd : d.size ≤ 1024) (hd0 : d.size ≠ 0) (hx : x + d.size ≤ 533248) (hu : usdE G B (i : Int) = 0) (hL : (layR G B (usdI G B (i : Int)) x d).1 = 306) (h : VI G p q cap m w F B) : Calls Tryz.prog 71 #[.pointer (some ⟨p, 0, none⟩), .int .i64 (i : Int), .int .i64 (x : Int), .string d] w fun e w' => e = .returned (.int .i64 306) ∧ ∃ m', VI G p q cap m' w' F B ∧ Only [p, m] w w' ∧ (m' = m ∨ w.heap.size ≤ m') := by
  have HV := hid h
  have HG := hid h.ok
  obtain ⟨⟨hi0, hi1⟩, hne0, hse, hus⟩ := usd_ok hu
  have hiz : i < G.z := by omega
  have HN := hid (vnone_any h)
  have HU := hid (used_any (i : Int) h)
  rw [hu] at HU
  have HLU := hid (lay_used HG.out (B := B) (x := x) (d := d) hus hx)
  have hzz := usedI_z hus
  have HLA := hid (fun w' g (hX : Box g w' (usdI G B (i : Int))) (h1 : g ≠ p) (h2 : g ≠ q) (hv : VI G p q cap m w' F B) => lay_any (w := w') (usdI G B (i : Int)) x d hx hzz hX h1 h2 hv)
  have HPQ : Hid (p < w.heap.size ∧ q < w.heap.size ∧ m < w.heap.size) := hid ⟨h.pl, h.ql, h.ml⟩
  have hne : d.toList.isEmpty = false := by
    rw [Lib.toList_data, List.isEmpty_eq_false_iff]
    intro e
    exact hd0 (by rw [← len_list, e]; rfl)
  have hwr : IntKind.i64.wrap (533248 - (d.size : Int)) = 533248 - (d.size : Int) := by rw [IntKind.wrap_i64]; omega
  have c7 : w.cell? ⟨p, 7, none⟩ = some (.map (some m)) := (h.cell 7).trans rfl
  have hd1 : decide ((1024 : Int) < (d.size : Int)) = false := by simp; omega
  have hx1 : decide (533248 - (d.size : Int) < (x : Int)) = false := by simp; omega
  have HC7 : Hid (∀ w', VI G p q cap m w' F B → w'.cell? ⟨p, 7, none⟩ = some (.map (some m))) := fun w' hv => (hv.cell 7).trans rfl
  obtain ⟨R, hR⟩ : ∃ R, R = layR G B (usdI G B (i : Int)) x d := ⟨_, rfl⟩
  rw [← hR] at HLA hL
  rw [hL] at HLA
  obtain ⟨n, hn⟩ : ∃ n, n = usdI G B (i : Int) := ⟨_, rfl⟩
  rw [← hn] at HU HLA
  clear h hi0 hi1 hne0 hse hus hu hiz hzz hR hn hd hd0 hx hL HLU
  obtain ⟨k, l, z, a0, b0, c0, d0, e0, f0, s0, t0⟩ := n
  simp only [Ino.v] at HU
  go_enter Tryz.func71, Tryz.ntmps71
  go_wp2_with (first
    | (go_at_call 55; refine HN.out.mono ?_; rintro e w0 ⟨rfl, hw⟩; have hw := hw.symm; subst hw)
    | (go_at_call 94; refine HU.out.mono ?_; rintro e w1 ⟨rfl, hb1⟩
       have HB1 := hid hb1
       replace c7 := HC7.out _ (HV.out.below hb1)
       have hpl1 : p < w1.heap.size := by have := HPQ.out; have := hb1.size; omega
       clear hb1)
    | (go_at_call 95; fail))
  obtain ⟨w2, hw2⟩ : ∃ w2, w2 = w1.alloc (.cells #[.int .i64 k, .int .i64 l, .int .i64 z, .int .i64 a0, .int .i64 b0, .int .i64 c0, .int .i64 d0, .int .i64 e0, .int .i64 f0, .int .i64 s0, .int .i64 t0] 36) := ⟨_, rfl⟩
  have hX2 : Box w1.heap.size w2 ⟨k, l, z, a0, b0, c0, d0, e0, f0, s0, t0⟩ := by rw [hw2]; exact box_at _ _
  have hB2 : Below w1.heap.size w1 w2 := by rw [hw2]; exact below_alloc w1 _
  rw [← hw2]
  have hs2 : w2.heap.size = w1.heap.size + 1 := by rw [hw2]; simp
  clear hw2
  have hV2 := (HV.out.below HB1.out).below hB2
  obtain ⟨M, hM, hD⟩ := hV2.map
  refine (mclone hM).mono ?_
  rintro e w3 ⟨rfl, hM3, hb3⟩
  have HV3 := hid (hV2.below hb3)
  have HX3 := hid (hX2.below hb3)
  have HB3 := hid ((HB1.out.next hB2).next hb3)
  have HLT : Hid (w.heap.size ≤ w1.heap.size ∧ w2.heap.size = w1.heap.size + 1 ∧ w2.heap.size < w3.heap.size) := hid ⟨HB1.out.size, hs2, hM3.lt⟩
  have HM3 := hid hM3
  have HD := hid hD
  have HDL := hid (hM.rise)
  clear c7 hX2 hB2 hV2 hM hD hM3 hb3 hs2 hpl1
  go_wp2_with (first
    | (go_at_call 96; refine (HLA.out _ _ HX3.out (by have := HLT.out; have := HPQ.out; omega) (by have := HLT.out; have := HPQ.out; omega) HV3.out).mono ?_; rintro e w4 ⟨rfl, hv4, hx4, ho4⟩
       have HV4 := hid hv4
       have HX4 := hid hx4
       have HO4 := hid ho4
       clear hv4 hx4 ho4
       have hmn := fail_view HV4.out HV3.out HM3.out HD.out HO4.out (by have := HLT.out; omega) (by have := HLT.out; have := HPQ.out; omega) (by have := HLT.out; have := HPQ.out; omega) (by have := HLT.out; have := HPQ.out; omega)
       have hfr := HV4.out.frz 7
       have hcl : w4.cell? ⟨p, 7, none⟩ = some (.map (some m)) := (HV4.out.cell 7).trans rfl
       have HMN := hid hmn
       clear hmn))
  go_ret
  refine ⟨rfl, w2.heap.size, HMN.out, ?_, .inr (by have := HLT.out; omega)⟩
  have hl := HLT.out
  have hO : Only [p, m] w w4 := ⟨HO4.out.os.trans HB3.out.os, HO4.out.tape.trans HB3.out.tape, HO4.out.output.trans HB3.out.output, Nat.le_trans HB3.out.size HO4.out.size, fun j hj hn => (HO4.out.block j (by have := HB3.out.size; omega) (by simp at hn ⊢; omega)).trans (HB3.out.block j hj)⟩
  exact hO.trans (Only.setCell _ (by simp))
end Go.Proofs.YtokjlgebkihimaaGreat
