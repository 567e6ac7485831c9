import Derived.Test.YtjphfpfagnhelaaMt
namespace Go.Proofs.Ytjphfpfagnhelaa
open Go.RowKit Go.Maps Go.Shelf

/-- what the reference's Decode tells of bytes -/
def DecR (s : ByteArray) (x : Ent) (n e : Int) : Prop := ∀ w, Calls Try.prog 27 #[.string s] w fun y w' => y = .returned (.tuple #[x.v, .int .i64 n, .int .i64 e]) ∧ Below w.heap.size w w'
/-- the loop's state -/
structure LR (w0 : World) (R Q B : Nat) (K V N A C : Int) (l : List Ent) (w : World) : Prop where
  res : NBox R w 0 0 0 0 0 (.slice none 0 0)
  msg : ∃ v, NBox Q w K V N A C v ∧ ERow B w v l
  RQ : R ≠ Q
  lR : w0.heap.size ≤ R
  lQ : w0.heap.size ≤ Q
  RB : R < B
  QB : Q < B
  Bs : B ≤ w.heap.size
  bel : Below w0.heap.size w0 w
theorem LR.below {w0 w w' : World} {R Q B : Nat} {K V N A C : Int} {l : List Ent} (h : LR w0 R Q B K V N A C l w) (k : Below w.heap.size w w') : LR w0 R Q B K V N A C l w' := by
  obtain ⟨v, m1, m2⟩ := h.msg
  exact ⟨(k.block R (lt_of_block h.res)).trans h.res, ⟨v, (k.block Q (lt_of_block m1)).trans m1, m2.below k⟩, h.RQ, h.lR, h.lQ, h.RB, h.QB, Nat.le_trans h.Bs k.size, h.bel.trans (k.mono h.bel.size)⟩
theorem LR.push {w0 w w' : World} {R Q B : Nat} {K V N A C : Int} {l l' : List Ent} {v v' : Value} (h : LR w0 R Q B K V N A C l w) (m1 : NBox Q w K V N A C v) (hr : ERow B w' v' l') (hb : Below B w w') : LR w0 R Q B K V N A C l' (w'.setCell ⟨Q, 5, none⟩ v') := by
  refine ⟨(set_off 5 _ h.RQ).trans ((hb.block R h.RB).trans h.res), ⟨v', set_at ((hb.block Q h.QB).trans m1) 5 v', hr.frame fun b hbb => set_off 5 _ ?_⟩, h.RQ, h.lR, h.lQ, h.RB, h.QB, ?_, ?_⟩
  · have := (hr.own b hbb).1; have := h.QB; omega
  · rw [set_size]; exact Nat.le_trans h.Bs hb.size
  · exact (h.bel.trans (hb.mono (Nat.le_trans h.lQ (Nat.le_of_lt h.QB)))).setCell (p := ⟨Q, 5, none⟩) h.lQ _
set_option maxRecDepth 100000 in
set_option maxHeartbeats 4000000 in
theorem rdec_loop (s : ByteArray) (z0 z1 z2 z3 z4 z5 z6 : ByteArray) (n1 n2 n3 n4 n5 : Int) (q : Nat) (hs : s.size ≤ 60000) (hqs : q ≤ s.size) (Q1 : QC z0 0 n1 0 z1) (Q2 : QC z1 0 n2 0 z2) (Q3 : QC z2 0 n3 0 z3) (Q4 : QC z3 0 n4 0 z4) (Q5 : QC z4 0 n5 0 z5) (Q6 : QC z5 0 q 0 z6) (es : List Ent) (tail : List UInt8) (hz6 : z6 = st (encs es ++ tail))
    (hall : es.all rgt = true) (hd : ∀ j (hj : j < es.length), DecR (st (encs (es.drop j) ++ tail)) es[j] ((encE es[j]).length : Nat) 0)
    (hend : es.length = q ∨ (es.length < q ∧ ∃ x m e, DecR (st tail) x m e ∧ e ≠ 0))
    (HO : ∀ w, Calls Try.prog 25 #[.string s] w fun e w' => e = .returned (.tuple #[.string z0, .int .i64 0]) ∧ Below w.heap.size w w') (w : World) :
    Calls Try.prog 11 #[.string s] w fun e w' => (¬ (es.length = q ∧ tail = [] ∧ (hdB n1 n2 n3 n4 n5 && !fallsB es) = true) → e = .returned (.tuple #[(.agg #[.int .i64 0, .int .i64 0, .int .i64 0, .int .i64 0, .int .i64 0, .slice none 0 0]), .int .i64 4])) ∧
      ((es.length = q ∧ tail = [] ∧ (hdB n1 n2 n3 n4 n5 && !fallsB es) = true) → ∃ sl, e = .returned (.tuple #[.agg #[.int .i64 n1, .int .i64 n2, .int .i64 n3, .int .i64 n4, .int .i64 n5, sl], .int .i64 0]) ∧ ELie w' sl es) ∧ Below w.heap.size w w' := by
  have hnot : ∀ (x : Bool) (w : World), (Op.unary .not (.bool x)).run Try.prog w = .ok (.bool (!x)) w := fun _ _ => rfl
  have hf : ¬ (60000 : Int) < (s.size : Int) := by omega
  have hf2 : ¬ (s.size : Int) < (q : Int) := by omega
  have HH := hid HO
  have HALL := hid hall
  have HD := hid hd
  have HEND := hid hend
  have K1 := hid Q1
  have K2 := hid Q2
  have K3 := hid Q3
  have K4 := hid Q4
  have K5 := hid Q5
  have K6 := hid Q6
  have HZ6 := hid hz6
  have hq6 : q ≤ 60000 := by omega
  have hdq : decide (s.size < q) = false := decide_eq_false (by omega)
  clear HO Q1 Q2 Q3 Q4 Q5 Q6 hz6 hall hd hend
  go_enter Try.func11, Try.ntmps11
  go_upto_region 14 with (first | (go_at_call 25; refine (HH.out _).mono ?_; rintro e w1 ⟨rfl, b1⟩; have hr := hid (qst_new z0 (nbox_new w) (alloc_size _ _) (below_alloc _ _) b1); clear b1) | (go_at_call 26; first | ((with_reducible refine (hr.out.go K1.out).mono ?_); rintro e wa ⟨rfl, r3⟩; have hr3 := hid r3; clear r3 hr K1; have hr := hr3; clear hr3) | ((with_reducible refine (hr.out.go K2.out).mono ?_); rintro e wb ⟨rfl, r3⟩; have hr3 := hid r3; clear r3 hr K2; have hr := hr3; clear hr3) | ((with_reducible refine (hr.out.go K3.out).mono ?_); rintro e wc ⟨rfl, r3⟩; have hr3 := hid r3; clear r3 hr K3; have hr := hr3; clear hr3) | ((with_reducible refine (hr.out.go K4.out).mono ?_); rintro e wd ⟨rfl, r3⟩; have hr3 := hid r3; clear r3 hr K4; have hr := hr3; clear hr3) | ((with_reducible refine (hr.out.go K5.out).mono ?_); rintro e we ⟨rfl, r3⟩; have hr3 := hid r3; clear r3 hr K5; have hr := hr3; clear hr3) | ((with_reducible refine (hr.out.go K6.out).mono ?_); rintro e wf ⟨rfl, r3⟩; have hr3 := hid r3; clear r3 hr K6; have hr := hr3; clear hr3)))
  have hq := hr.out.alloc (.cells #[.int .i64 n1, .int .i64 n2, .int .i64 n3, .int .i64 n4, .int .i64 n5, .slice none 0 0] 30)
  have c0 := hq.rd.c0
  have c1 := hq.rd.c1
  have lw : w.heap.size < wf.heap.size := lt_of_block hr.out.res
  have HLS : Hid (LR w w.heap.size wf.heap.size (wf.heap.size + 1) n1 n2 n3 n4 n5 [] (wf.alloc (.cells #[.int .i64 n1, .int .i64 n2, .int .i64 n3, .int .i64 n4, .int .i64 n5, .slice none 0 0] 30))) := hid ⟨hq.res, ⟨_, box_at _ _, ERow.nil _ _⟩, by omega, Nat.le_refl _, by omega, by omega, by omega, by rw [alloc_size]; exact Nat.le_refl _, hq.bel⟩
  obtain ⟨Q, hQ⟩ : ∃ Q, Q = wf.heap.size := ⟨_, rfl⟩
  obtain ⟨W, hW⟩ : ∃ W, W = wf.alloc (.cells #[.int .i64 n1, .int .i64 n2, .int .i64 n3, .int .i64 n4, .int .i64 n5, .slice none 0 0] 30) := ⟨_, rfl⟩
  rw [← hQ, ← hW] at HLS
  rw [← hW] at c0 c1
  rw [← hQ, ← hW]
  obtain ⟨Z, hZ⟩ : ∃ Z : Nat → ByteArray, Z = fun j => st (encs (es.drop j) ++ tail) := ⟨_, rfl⟩
  have HZ0 : z6 = Z 0 := by rw [hZ]; exact HZ6.out
  have HZ : Hid (∀ j, Z j = st (encs (es.drop j) ++ tail)) := hid (fun j => by rw [hZ])
  rw [HZ0] at c0
  clear hr hq hQ hW hZ HZ0 HZ6 lw HH
  go_wp2
  go_loopw [20, 21] (fun r i wr => ∃ j : Nat, i = .int .i64 j ∧ j ≤ es.length ∧ j ≤ q ∧ r = .string (Z j) ∧ Hid (LR w w.heap.size Q (Q + 1) n1 n2 n3 n4 n5 (es.take j) wr)) (fun _ i _ => q - (intOf i).toNat)
  case atStart => exact ⟨0, rfl, Nat.zero_le _, Nat.zero_le _, rfl, HLS⟩
  case round =>
    obtain ⟨j, rfl, hj, hjq, rfl, HL⟩ := hrel
    rename World => wr
    by_cases hlt : j < es.length
    · have hjq2 : j < q := by rcases HEND.out with h | h <;> omega
      have hjl : (j : Int) < (q : Int) := by omega
      have HDJ := hid (HD.out j hlt)
      rw [← HZ.out j] at HDJ
      obtain ⟨x, hx⟩ : ∃ x, x = es[j] := ⟨_, rfl⟩
      rw [← hx] at HDJ
      have HTK : Hid (es.take (j + 1) = es.take j ++ [x]) := hid (by rw [hx, List.take_succ_eq_append_getElem hlt])
      have hsl : ∀ w, (Instr.slice 9 (.string (Z j)) (some (.int .i64 ((encE x).length : Nat))) none none).run Try.prog w = .ok (.string (Z (j + 1))) w := fun w => by
        rw [HZ.out j, HZ.out (j + 1), List.drop_eq_getElem_cons hlt, encs_cons, List.append_assoc, ← hx]
        exact st_slice _ _ w
      clear hx
      obtain ⟨len, hlen⟩ : ∃ n : Nat, n = (encE x).length := ⟨_, rfl⟩
      rw [← hlen] at HDJ hsl
      clear hlen
      obtain ⟨zj, hzj⟩ : ∃ z, z = Z j := ⟨_, rfl⟩
      obtain ⟨zk, hzk⟩ : ∃ z, z = Z (j + 1) := ⟨_, rfl⟩
      rw [← hzj] at HDJ hsl ⊢
      rw [← hzk] at hsl
      have HZK := hid hzk
      clear hzj hzk
      have HDO := HDJ
      clear HDJ
      unfold DecR at HDO
      have hjn : (es.take j).length ≤ 1000000 := by rw [List.length_take]; omega
      obtain ⟨V1, C1, R1, K1, A1, N1, p1, t1, d1⟩ := x
      simp only [Ent.v] at HDO
      go_upto_region 23 with (first | (go_at_call 27; refine (HDO.out _).mono ?_; rintro e w7 ⟨rfl, b7⟩; have hb7 := hid b7; clear b7))
      have HL8 := hid ((HL.out.below hb7.out).below (below_alloc w7 (.cells #[.int .i64 V1, .int .i64 C1, .int .i64 R1, .int .i64 K1, .int .i64 A1, .int .i64 N1, .string p1, .string t1, .string d1] 54)))
      have bx : Box w7.heap.size (w7.alloc (.cells #[.int .i64 V1, .int .i64 C1, .int .i64 R1, .int .i64 K1, .int .i64 A1, .int .i64 N1, .string p1, .string t1, .string d1] 54)) ⟨V1, C1, R1, K1, A1, N1, p1, t1, d1⟩ := box_at _ _
      obtain ⟨E, hE⟩ : ∃ E, E = w7.heap.size := ⟨_, rfl⟩
      rw [← hE] at bx ⊢
      obtain ⟨w8, hw8⟩ : ∃ W, W = w7.alloc (.cells #[.int .i64 V1, .int .i64 C1, .int .i64 R1, .int .i64 K1, .int .i64 A1, .int .i64 N1, .string p1, .string t1, .string d1] 54) := ⟨_, rfl⟩
      rw [← hw8] at bx HL8 ⊢
      obtain ⟨Tk, hTk⟩ : ∃ T, T = es.take j := ⟨_, rfl⟩
      rw [← hTk] at HL8 hjn HTK
      clear hw8 hE hb7 HL hTk
      obtain ⟨d0, d1', d2, d3, d4, d5, d6, d7, d8⟩ := bx.cells
      obtain ⟨vv, m1, m2⟩ := HL8.out.msg
      obtain ⟨ar, cr, hrv, hr1, hr2⟩ := m2.len
      subst hrv
      unfold maxLen at hr2
      have e5 := m1.cells.2.2.2.2.2
      have HM1 := hid m1
      have HM2 := hid m2
      have HO1 := hid (one_lie w8 ⟨V1, C1, R1, K1, A1, N1, p1, t1, d1⟩)
      simp only [Ent.cs] at HO1
      have HBS := hid HL8.out.Bs
      have HQB := hid HL8.out.QB
      clear m1 m2 bx
      go_wp2_with (at_builtin; refine appE rfl (.tmp 107) (.tmp 109) rfl (Q + 1) _ _ Tk [⟨V1, C1, R1, K1, A1, N1, p1, t1, d1⟩] rfl rfl (HM2.out.below (below_alloc _ _)) HO1.out (by simp) (by simp; omega) (Nat.le_trans HBS.out (below_alloc _ _).size) ?_; intro v3 w3 hr3 hb3 _ _; have hbb := ((below_alloc w8 _).mono HBS.out).trans hb3; have mq := (hbb.block Q HQB.out).trans HM1.out; obtain ⟨ar3, cr3, e3, _, _⟩ := hr3.len; subst e3; have y5 := cell_at (i := 5) mq; have y6 := free_at mq 5; simp at y5; have HR3 := hid hr3; have HBB := hid hbb; clear hr3 hb3 hbb mq)
      go_roundw
      case rel =>
        have hls := hid (HL8.out.push HM1.out (by have h := HR3.out; rw [List.length_append, List.length_singleton] at h; exact h) HBB.out)
        rw [← HTK.out] at hls
        exact ⟨j + 1, by go_num, by omega, by omega, by rw [HZK.out], hls⟩
      case measure => simp [intOf]; omega
    · have hje : j = es.length := by omega
      have HTK : Hid (es.take j = es) := hid (by rw [hje, List.take_length])
      have HZT : Hid (Z j = st tail) := hid (by rw [HZ.out j, hje, List.drop_length]; simp [encs])
      rw [HTK.out] at HL
      rw [HZT.out]
      rcases HEND.out with hq | ⟨hq, x, m, er, hdx, her⟩
      · have HQ2 := hid hq
        have hjl : ¬ (j : Int) < (q : Int) := by omega
        clear hje hq
        obtain ⟨vv, m1, m2⟩ := HL.out.msg
        have HRW := hid m2
        obtain ⟨ar, cr, hrv, hr1, hr2⟩ := m2.len
        subst hrv
        have HRM := hid (fun w' (h : Below wr.heap.size wr w') => rright_any n1 n2 n3 n4 n5 (.slice ar es.length cr) es (m2.lie.below h))
        have HRE : Hid (rrB n1 n2 n3 n4 n5 es = (hdB n1 n2 n3 n4 n5 && !fallsB es)) := hid (by unfold rrB; rw [HALL.out, Bool.true_and, Bool.and_comm])
        rw [HRE.out] at HRM
        obtain ⟨f0, f1, f2, f3, f4, f5⟩ := m1.cells
        have HM1 := hid m1
        clear m1 m2
        obtain ⟨zt, hzt⟩ : ∃ z, z = st tail := ⟨_, rfl⟩
        rw [← hzt]
        have HZ2 := hid hzt
        clear hzt
        by_cases ht : tail = []
        · have hz : zt = ⟨#[]⟩ := by rw [HZ2.out, ht]; rfl
          subst hz
          have HTL := hid ht
          clear ht
          cases hR : (hdB n1 n2 n3 n4 n5 && !fallsB es) with
          | true =>
            rw [hR] at HRM
            have HR := hid hR
            clear hR
            go_wp2_with (first | (go_at_call 19; refine (HRM.out _ (Below.refl _ _)).mono ?_; rintro e w7 ⟨rfl, b7⟩; obtain ⟨g0, g1, g2, g3, g4, g5⟩ := NBox.cells (show NBox Q w7 n1 n2 n3 n4 n5 (.slice ar es.length cr) from (b7.block Q (lt_of_block HM1.out)).trans HM1.out); have hres := hid (show NBox w.heap.size w7 0 0 0 0 0 (.slice none 0 0) from (b7.block w.heap.size (lt_of_block HL.out.res)).trans HL.out.res); have hb7 := hid b7; clear b7) | ((with_reducible refine at_store30 w.heap.size n1 n2 n3 n4 n5 (.slice ar es.length cr) ?h1 ?h2 hres.out ?h4 ?hk); (case h1 => first | rfl | simp | go_simp); (case h2 => first | rfl | simp | go_simp); (case h4 => rfl); intro w9 m9 k9; have HM9 := hid m9; have HK9 := hid k9; clear m9 k9))
            have bel7 : Below w.heap.size w w7 := HL.out.bel.trans (hb7.out.mono HL.out.bel.size)
            have bel9 : Below w.heap.size w w9 := bel7.trans (HK9.out.below bel7.size (Nat.le_refl _))
            have row7 := HRW.out.below hb7.out
            have row9 : ERow (Q + 1) w9 (.slice ar es.length cr) es := row7.frame fun b hb => HK9.out.block b (row7.own b hb).2 (by have := (row7.own b hb).1; have := HL.out.RB; omega)
            exact ret11r HM9.out rfl rfl rfl ⟨fun h => absurd ⟨HQ2.out, HTL.out, HR.out⟩ h, fun _ => ⟨_, rfl, row9.lie⟩, bel9⟩
          | false =>
            rw [hR] at HRM
            have HR := hid hR
            clear hR
            go_upto_region 26 with (first | (go_at_call 19; refine (HRM.out _ (Below.refl _ _)).mono ?_; rintro e w7 ⟨rfl, b7⟩; have hres := hid (show NBox w.heap.size w7 0 0 0 0 0 (.slice none 0 0) from (b7.block w.heap.size (lt_of_block HL.out.res)).trans HL.out.res); have hb7 := hid b7; clear b7))
            go_wp2_with (refine at_store30 w.heap.size _ _ _ _ _ _ rfl rfl hres.out rfl ?_; intro w9 m9 k9; have HM9 := hid m9; have HK9 := hid k9; clear m9 k9)
            have bel7 : Below w.heap.size w w7 := HL.out.bel.trans (hb7.out.mono HL.out.bel.size)
            have HF9 := hid (bel7.trans (HK9.out.below bel7.size (Nat.le_refl _)))
            exact ret11r HM9.out rfl rfl rfl ⟨fun _ => rfl, fun h => absurd h.2.2 (by rw [HR.out]; simp), HF9.out⟩
        · have hzn : zt ≠ ⟨#[]⟩ := by
            rw [HZ2.out]
            intro e
            apply ht
            have := congrArg (fun b : ByteArray => b.data.toList) e
            simpa [st] using this
          have hzn2 := str_ne hzn
          have hzn3 : zt.toList.isEmpty = false := by
            cases h : zt.toList.isEmpty with
            | false => rfl
            | true =>
              rw [List.isEmpty_iff.1 h] at hzn2
              simp at hzn2
          have hzn4 : (zt.toList == ([] : List UInt8)) = false := by
            cases h : zt.toList with
            | nil => rw [h] at hzn3; cases hzn3
            | cons b t => rfl
          clear hzn
          have HTL := hid ht
          clear ht
          have hres := hid HL.out.res
          go_upto_region 26 with fail
          go_wp2_with (refine at_store30 w.heap.size _ _ _ _ _ _ rfl rfl hres.out rfl ?_; intro w9 m9 k9; have HM9 := hid m9; have HK9 := hid k9; clear m9 k9)
          have HF9 := hid (HL.out.bel.trans (HK9.out.below HL.out.bel.size (Nat.le_refl _)))
          exact ret11r HM9.out rfl rfl rfl ⟨fun _ => rfl, (by first | exact fun h => absurd h.2.1 HTL.out | exact fun _ h2 => absurd h2 HTL.out | exact fun _ h2 _ => absurd h2 HTL.out), HF9.out⟩
      · have HDO := hid hdx
        unfold DecR at HDO
        have hjl : (j : Int) < (q : Int) := by omega
        have hnq : ¬ es.length = q := by omega
        have HNQ := hid hnq
        have hf3 : (er != 0) = true := by simp [her]
        clear hdx her hnq hq hje
        obtain ⟨V1, C1, R1, K1, A1, N1, p1, t1, d1⟩ := x
        simp only [Ent.v] at HDO
        go_upto_region 22 with (first | (go_at_call 27; refine (HDO.out _).mono ?_; rintro e w7 ⟨rfl, b7⟩; have hl7 := (HL.out.below b7).below (below_alloc w7 (.cells #[.int .i64 V1, .int .i64 C1, .int .i64 R1, .int .i64 K1, .int .i64 A1, .int .i64 N1, .string p1, .string t1, .string d1] 54)); have hres := hid hl7.res; have hbl := hid hl7.bel; clear b7 hl7))
        go_wp2_with (refine at_store30 w.heap.size _ _ _ _ _ _ rfl rfl hres.out rfl ?_; intro w9 m9 k9; have HM9 := hid m9; have HK9 := hid k9; clear m9 k9)
        have HF9 := hid (hbl.out.trans (HK9.out.below hbl.out.size (Nat.le_refl _)))
        exact ret11r HM9.out rfl rfl rfl ⟨fun _ => rfl, fun h => absurd h.1 HNQ.out, HF9.out⟩
end Go.Proofs.Ytjphfpfagnhelaa
