import Derived.Test.YtjphfpfagnhelaaMi
import Derived.Test.YtjphfpfagnhelaaMk
namespace Go.Proofs.Ytjphfpfagnhelaa
open Go.RowKit Go.Maps Go.Shelf

theorem st_slice (a b : List UInt8) (w : World) : (Instr.slice 9 (.string (st (a ++ b))) (some (.int .i64 ((a.length : Nat) : Int))) none none).run Try.prog w = .ok (.string (st b)) w := by
  have := run_slice_string_l w 9 (st (a ++ b)) Try.underlying9 .i64 ((a.length : Nat) : Int) (by omega) (by rw [st_size, List.length_append]; omega)
  rw [this, Int.toNat_natCast, st_rest]
/-- what Decode tells of bytes -/
def DecO (s : ByteArray) (x : Ent) (n e : Int) : Prop := ∀ w, Calls Try.prog 48 #[.string s] w fun y w' => y = .returned (.tuple #[x.v, .int .i64 n, .int .i64 e]) ∧ Below w.heap.size w w'
/-- the loop's state: R the result's variable, Q the message's, the row of its entries above B -/
structure LS (w0 : World) (R Q B : Nat) (K V N A C : Int) (l : List Ent) (w : World) : Prop where
  res : MBox R w 0 0 0 0 0 (.slice none 0 0)
  msg : ∃ v, MBox Q w K V N A C v ∧ ERow B w v l
  RQ : R ≠ Q
  lR : w0.heap.size ≤ R
  lQ : w0.heap.size ≤ Q
  RB : R < B
  QB : Q < B
  Bs : B ≤ w.heap.size
  bel : Below w0.heap.size w0 w
theorem LS.below {w0 w w' : World} {R Q B : Nat} {K V N A C : Int} {l : List Ent} (h : LS w0 R Q B K V N A C l w) (k : Below w.heap.size w w') : LS w0 R Q B K V N A C l w' := by
  obtain ⟨v, m1, m2⟩ := h.msg
  exact ⟨(k.block R (lt_of_block h.res)).trans h.res, ⟨v, (k.block Q (lt_of_block m1)).trans m1, m2.below k⟩, h.RQ, h.lR, h.lQ, h.RB, h.QB, Nat.le_trans h.Bs k.size, h.bel.trans (k.mono h.bel.size)⟩
theorem LS.push {w0 w w' : World} {R Q B : Nat} {K V N A C : Int} {l l' : List Ent} {v v' : Value} (h : LS w0 R Q B K V N A C l w) (m1 : MBox Q w K V N A C v) (hr : ERow B w' v' l') (hb : Below B w w') : LS w0 R Q B K V N A C l' (w'.setCell ⟨Q, 5, none⟩ v') := by
  refine ⟨(set_off 5 _ h.RQ).trans ((hb.block R h.RB).trans h.res), ⟨v', set_at ((hb.block Q h.QB).trans m1) 5 v', hr.frame fun b hbb => set_off 5 _ ?_⟩, h.RQ, h.lR, h.lQ, h.RB, h.QB, ?_, ?_⟩
  · have := (hr.own b hbb).1; have := h.QB; omega
  · rw [set_size]; exact Nat.le_trans h.Bs hb.size
  · exact (h.bel.trans (hb.mono (Nat.le_trans h.lQ (Nat.le_of_lt h.QB)))).setCell (p := ⟨Q, 5, none⟩) h.lQ _
set_option maxRecDepth 100000 in
set_option maxHeartbeats 4000000 in
theorem read_loop (s : ByteArray) (k v n a c q : Nat) (es : List Ent) (tail : List UInt8) (hs : s.size ≤ 60000) (hT : (numL [k, v, n, a, c, q] ++ (encs es ++ tail)).length ≤ 60000)
    (h0 : k < 9223372036854775808) (h1 : v < 9223372036854775808) (h2 : n < 9223372036854775808) (h3 : a < 9223372036854775808) (h4 : c < 9223372036854775808) (h5 : q < 9223372036854775808)
    (hall : es.all rgt = true) (hok : ∀ y ∈ es, y.Ok) (hd : ∀ j (hj : j < es.length), DecO (st (encs (es.drop j) ++ tail)) es[j] ((encE es[j]).length : Nat) 0)
    (hend : es.length = q ∨ (es.length < q ∧ ∃ x m e, DecO (st tail) x m e ∧ e ≠ 0))
    (HO : ∀ w, Calls Try.prog 44 #[.string s] w fun e w' => e = .returned (.tuple #[.string (st (numL [k, v, n, a, c, q] ++ (encs es ++ tail))), .int .i64 0]) ∧ Below w.heap.size w w') (w : World) :
    Calls Try.prog 24 #[.string s] w fun e w' => (¬ (es.length = q ∧ tail = [] ∧ (hdB k v n a c && !fallsB es) = true) → e = .panicked [brk 4]) ∧
      ((es.length = q ∧ tail = [] ∧ (hdB k v n a c && !fallsB es) = true) → ∃ sl, e = .returned (.agg #[.int .i64 k, .int .i64 v, .int .i64 n, .int .i64 a, .int .i64 c, sl]) ∧ ELie w' sl es) ∧ Below w.heap.size w w' := by
  have NO := hid need_ok
  have NN := hid need_no
  have HH := hid HO
  have hf : (s.size : Int) ≤ 60000 := by omega
  have HALL := hid hall
  have HOK := hid hok
  have HD := hid hd
  have HEND := hid hend
  have HT := hid hT
  have hes : 9 * es.length ≤ 60000 := by
    have := encs_many es hall hok
    simp only [List.length_append] at hT
    omega
  obtain ⟨z0, hz0⟩ : ∃ z, z = st (numL [k, v, n, a, c, q] ++ (encs es ++ tail)) := ⟨_, rfl⟩
  obtain ⟨z1, hz1⟩ : ∃ z, z = st (numL [v, n, a, c, q] ++ (encs es ++ tail)) := ⟨_, rfl⟩
  obtain ⟨z2, hz2⟩ : ∃ z, z = st (numL [n, a, c, q] ++ (encs es ++ tail)) := ⟨_, rfl⟩
  obtain ⟨z3, hz3⟩ : ∃ z, z = st (numL [a, c, q] ++ (encs es ++ tail)) := ⟨_, rfl⟩
  obtain ⟨z4, hz4⟩ : ∃ z, z = st (numL [c, q] ++ (encs es ++ tail)) := ⟨_, rfl⟩
  obtain ⟨z5, hz5⟩ : ∃ z, z = st (numL [q] ++ (encs es ++ tail)) := ⟨_, rfl⟩
  obtain ⟨z6, hz6⟩ : ∃ z, z = st (encs es ++ tail) := ⟨_, rfl⟩
  have N0 : Hid (∀ w0 R g w, RSt w0 R g w z0 → Calls Try.prog 46 #[.pointer (some ⟨g, 0, none⟩)] w fun x w' => x = .returned (.int .i64 k) ∧ RSt w0 R g w' z1) := hid (fun w0 R g w h => by
    rw [hz0, numL_cons, List.append_assoc] at h
    rw [hz1]
    refine h.num h0 ?_
    rw [st_size]
    simp only [numL_cons, List.length_append] at hT ⊢
    unfold maxLen
    omega)
  have N1 : Hid (∀ w0 R g w, RSt w0 R g w z1 → Calls Try.prog 46 #[.pointer (some ⟨g, 0, none⟩)] w fun x w' => x = .returned (.int .i64 v) ∧ RSt w0 R g w' z2) := hid (fun w0 R g w h => by
    rw [hz1, numL_cons, List.append_assoc] at h
    rw [hz2]
    refine h.num h1 ?_
    rw [st_size]
    simp only [numL_cons, List.length_append] at hT ⊢
    unfold maxLen
    omega)
  have N2 : Hid (∀ w0 R g w, RSt w0 R g w z2 → Calls Try.prog 46 #[.pointer (some ⟨g, 0, none⟩)] w fun x w' => x = .returned (.int .i64 n) ∧ RSt w0 R g w' z3) := hid (fun w0 R g w h => by
    rw [hz2, numL_cons, List.append_assoc] at h
    rw [hz3]
    refine h.num h2 ?_
    rw [st_size]
    simp only [numL_cons, List.length_append] at hT ⊢
    unfold maxLen
    omega)
  have N3 : Hid (∀ w0 R g w, RSt w0 R g w z3 → Calls Try.prog 46 #[.pointer (some ⟨g, 0, none⟩)] w fun x w' => x = .returned (.int .i64 a) ∧ RSt w0 R g w' z4) := hid (fun w0 R g w h => by
    rw [hz3, numL_cons, List.append_assoc] at h
    rw [hz4]
    refine h.num h3 ?_
    rw [st_size]
    simp only [numL_cons, List.length_append] at hT ⊢
    unfold maxLen
    omega)
  have N4 : Hid (∀ w0 R g w, RSt w0 R g w z4 → Calls Try.prog 46 #[.pointer (some ⟨g, 0, none⟩)] w fun x w' => x = .returned (.int .i64 c) ∧ RSt w0 R g w' z5) := hid (fun w0 R g w h => by
    rw [hz4, numL_cons, List.append_assoc] at h
    rw [hz5]
    refine h.num h4 ?_
    rw [st_size]
    simp only [numL_cons, List.length_append] at hT ⊢
    unfold maxLen
    omega)
  have N5 : Hid (∀ g w, RIs g w z5 0 → Calls Try.prog 46 #[.pointer (some ⟨g, 0, none⟩)] w fun x w' => x = .returned (.int .i64 q) ∧ RIs g w' z6 0 ∧ Kept w.heap.size g w w') := hid (fun g w h => by
    rw [hz5, numL_cons, List.append_assoc] at h
    rw [hz6, show encs es ++ tail = numL [] ++ (encs es ++ tail) by simp [numL]]
    refine number_ok q h5 _ ?_ g w h
    rw [st_size]
    simp only [numL_cons, List.length_append] at hT ⊢
    unfold maxLen
    omega)
  obtain ⟨pn, hpn⟩ : ∃ p, p = (numL [k, v, n, a, c, q]).length := ⟨_, rfl⟩
  have hs0 : z0.size = pn + z6.size := by rw [hz0, hz6, hpn, st_size, st_size, List.length_append]
  have hsb : z0.size ≤ 60000 := by rw [hz0, st_size]; exact hT
  have hw1 : IntKind.i64.wrap ((z0.size : Int) - (z6.size : Int)) = (pn : Int) := by rw [IntKind.wrap_i64]; omega
  have hw2 : (z0.size : Int) - (z6.size : Int) = (pn : Int) := by omega
  have hsl0 : ∀ w, (Instr.slice 9 (.string z0) (some (.int .i64 (pn : Int))) none none).run Try.prog w = .ok (.string z6) w := fun w => by
    rw [hz0, hz6, hpn]
    exact st_slice _ _ w
  rw [← hz0] at HH
  have HZ6 := hid hz6
  have HQ := hid h5
  have hq63 : (q : Int) ≤ 9223372036854775807 := by omega
  clear HO hT hz0 hz1 hz2 hz3 hz4 hz5 hz6 h0 h1 h2 h3 h4 h5 hpn hall hok hd hend
  go_enter Try.func24, Try.ntmps24
  go_upto_region 8 with (first | (go_at_call 32; refine (NO.out _ _).mono ?_; rintro e w2 ⟨rfl, rfl⟩) | (go_at_call 44; refine (HH.out _).mono ?_; rintro e w1 ⟨rfl, b1⟩) | (go_at_call 45; refine (of_any _ _).mono ?_; rintro e w2 ⟨rfl, rfl⟩; have hr := hid (rst_new z0 (box_at _ _) (alloc_size _ _) (below_alloc _ _) b1); clear b1) | (go_at_call 46; first | (refine (N0.out _ _ _ _ (by with_reducible exact hr.out)).mono ?_; rintro e wa ⟨rfl, r3⟩; have hr3 := hid r3; clear r3 hr; have hr := hr3; clear hr3) | (refine (N1.out _ _ _ _ (by with_reducible exact hr.out)).mono ?_; rintro e wb ⟨rfl, r3⟩; have hr3 := hid r3; clear r3 hr; have hr := hr3; clear hr3) | (refine (N2.out _ _ _ _ (by with_reducible exact hr.out)).mono ?_; rintro e wc ⟨rfl, r3⟩; have hr3 := hid r3; clear r3 hr; have hr := hr3; clear hr3) | (refine (N3.out _ _ _ _ (by with_reducible exact hr.out)).mono ?_; rintro e wd ⟨rfl, r3⟩; have hr3 := hid r3; clear r3 hr; have hr := hr3; clear hr3) | (refine (N4.out _ _ _ _ (by with_reducible exact hr.out)).mono ?_; rintro e we ⟨rfl, r3⟩; have hr3 := hid r3; clear r3 hr; have hr := hr3; clear hr3) | (refine (N5.out _ _ (hr.out.alloc _).rd).mono ?_; rintro e wf ⟨rfl, r4, k4⟩; have hr4 := hid ((hr.out.alloc _).step r4 k4); have hm4 := hid (show MBox we.heap.size wf k v n a c (.slice none 0 0) from (k4.block we.heap.size (by rw [alloc_size]; omega) (by have := hr.out.rd.lt; omega)).trans (box_at _ _)); have hq4 := hid (show we.heap.size + 1 ≤ wf.heap.size from by have := k4.size; rw [alloc_size] at this; exact this); have hr5 := hid (show w.heap.size < we.heap.size from lt_of_block hr.out.res); clear r4 k4 hr)) | (go_at_call 47; refine (left_r _ _ _ _ hr4.out.rd).mono ?_; rintro e w6 ⟨rfl, rfl⟩))
  obtain ⟨Q, hQ⟩ : ∃ Q, Q = we.heap.size := ⟨_, rfl⟩
  rw [← hQ] at hr5 hm4 hq4 ⊢
  have HLS : Hid (LS w w.heap.size Q w6.heap.size k v n a c [] w6) := hid ⟨hr4.out.res, ⟨_, hm4.out, ERow.nil _ _⟩, by have := hr5.out; omega, Nat.le_refl _, by have := hr5.out; omega, by have := hr5.out; have := hq4.out; omega, by have := hq4.out; omega, Nat.le_refl _, hr4.out.bel⟩
  obtain ⟨B, hB⟩ : ∃ B, B = w6.heap.size := ⟨_, rfl⟩
  rw [← hB] at HLS
  obtain ⟨Z, hZ⟩ : ∃ Z : Nat → ByteArray, Z = fun j => st (encs (es.drop j) ++ tail) := ⟨_, rfl⟩
  have HZ0 : z6 = Z 0 := by rw [hZ]; exact HZ6.out
  have HZ : Hid (∀ j, Z j = st (encs (es.drop j) ++ tail)) := hid (fun j => by rw [hZ])
  clear hZ hB hr4 hm4 hq4 hr5 hQ HZ6 N0 N1 N2 N3 N4 N5 HH hsl0 hw1 hw2 hs0 hsb
  rw [HZ0]
  clear HZ0
  go_wp2
  go_loopw [8, 47] (fun r i wr => ∃ j : Nat, i = .int .i64 j ∧ j ≤ es.length ∧ j ≤ q ∧ r = .string (Z j) ∧ Hid (LS w w.heap.size Q B k v n a c (es.take j) wr)) (fun _ i _ => q - (intOf i).toNat)
  case atStart => exact ⟨0, rfl, Nat.zero_le _, Nat.zero_le _, rfl, HLS⟩
  case round =>
    obtain ⟨j, rfl, hj, hjq, rfl, HL⟩ := hrel
    rename World => wr
    by_cases hlt : j < es.length
    · have hjq2 : j < q := by rcases HEND.out with h | h <;> omega
      have hjl : (j : Int) < (q : Int) := by omega
      have HDJ := hid (HD.out j hlt)
      rw [← HZ.out j] at HDJ
      obtain ⟨x, hx⟩ : ∃ x, x = es[j] := ⟨_, rfl⟩
      rw [← hx] at HDJ
      have HX := hid hx
      have HTK : Hid (es.take (j + 1) = es.take j ++ [x]) := hid (by rw [hx, List.take_succ_eq_append_getElem hlt])
      have hsl : ∀ w, (Instr.slice 9 (.string (Z j)) (some (.int .i64 ((encE x).length : Nat))) none none).run Try.prog w = .ok (.string (Z (j + 1))) w := fun w => by
        rw [HZ.out j, HZ.out (j + 1), List.drop_eq_getElem_cons hlt, encs_cons, List.append_assoc, ← hx]
        exact st_slice _ _ w
      clear hx
      obtain ⟨len, hlen⟩ : ∃ n : Nat, n = (encE x).length := ⟨_, rfl⟩
      rw [← hlen] at HDJ hsl
      clear hlen
      obtain ⟨zj, hzj⟩ : ∃ z, z = Z j := ⟨_, rfl⟩
      obtain ⟨zk, hzk⟩ : ∃ z, z = Z (j + 1) := ⟨_, rfl⟩
      rw [← hzj] at HDJ hsl ⊢
      rw [← hzk] at hsl
      have HZK := hid hzk
      clear hzj hzk
      have HDO := HDJ
      clear HDJ
      unfold DecO at HDO
      have hjn : (es.take j).length ≤ 1000000 := by rw [List.length_take]; omega
      obtain ⟨V1, C1, R1, K1, A1, N1, p1, t1, d1⟩ := x
      simp only [Ent.v] at HDO
      go_upto_region 12 with (first | (go_at_call 48; refine (HDO.out _).mono ?_; rintro e w7 ⟨rfl, b7⟩; have hb7 := hid b7; clear b7) | (go_at_call 32; refine (NO.out _ _).mono ?_; rintro e w2 ⟨rfl, rfl⟩))
      have HL8 := hid ((HL.out.below hb7.out).below (below_alloc w7 (.cells #[.int .i64 V1, .int .i64 C1, .int .i64 R1, .int .i64 K1, .int .i64 A1, .int .i64 N1, .string p1, .string t1, .string d1] 54)))
      have bx : Box w7.heap.size (w7.alloc (.cells #[.int .i64 V1, .int .i64 C1, .int .i64 R1, .int .i64 K1, .int .i64 A1, .int .i64 N1, .string p1, .string t1, .string d1] 54)) ⟨V1, C1, R1, K1, A1, N1, p1, t1, d1⟩ := box_at _ _
      obtain ⟨E, hE⟩ : ∃ E, E = w7.heap.size := ⟨_, rfl⟩
      rw [← hE] at bx ⊢
      obtain ⟨w8, hw8⟩ : ∃ W, W = w7.alloc (.cells #[.int .i64 V1, .int .i64 C1, .int .i64 R1, .int .i64 K1, .int .i64 A1, .int .i64 N1, .string p1, .string t1, .string d1] 54) := ⟨_, rfl⟩
      rw [← hw8] at bx HL8 ⊢
      obtain ⟨Tk, hTk⟩ : ∃ T, T = es.take j := ⟨_, rfl⟩
      rw [← hTk] at HL8 hjn HTK
      clear hw8 hE hb7 HL hTk
      obtain ⟨c0, c1, c2, c3, c4, c5, c6, c7, c8⟩ := bx.cells
      obtain ⟨vv, m1, m2⟩ := HL8.out.msg
      obtain ⟨ar, cr, hrv, hr1, hr2⟩ := m2.len
      subst hrv
      unfold maxLen at hr2
      have e5 := m1.cells.2.2.2.2.2
      have HM1 := hid m1
      have HM2 := hid m2
      have HO1 := hid (one_lie w8 ⟨V1, C1, R1, K1, A1, N1, p1, t1, d1⟩)
      simp only [Ent.cs] at HO1
      have HBS := hid HL8.out.Bs
      have HQB := hid HL8.out.QB
      clear m1 m2 bx
      go_wp2_with (at_builtin; refine appE rfl (.tmp 59) (.tmp 61) rfl B _ _ Tk [⟨V1, C1, R1, K1, A1, N1, p1, t1, d1⟩] rfl rfl (HM2.out.below (below_alloc _ _)) HO1.out (by simp) (by simp; omega) (Nat.le_trans HBS.out (below_alloc _ _).size) ?_; intro v3 w3 hr3 hb3 _ _; have hbb := ((below_alloc w8 _).mono HBS.out).trans hb3; have mq := (hbb.block Q HQB.out).trans HM1.out; obtain ⟨ar3, cr3, e3, _, _⟩ := hr3.len; subst e3; have d5 := cell_at (i := 5) mq; have z5 := free_at mq 5; simp at d5; have HR3 := hid hr3; have HBB := hid hbb; clear hr3 hb3 hbb mq)
      go_roundw
      case rel => exact ⟨j + 1, by go_num, by omega, by omega, by rw [HZK.out], hid (HL8.out.push HM1.out (by have h := HR3.out; rw [HTK.out]; rw [List.length_append, List.length_singleton] at h; exact h) HBB.out)⟩
      case measure => simp [intOf]; omega
    · have hje : j = es.length := by omega
      have HTK : Hid (es.take j = es) := hid (by rw [hje, List.take_length])
      have HZT : Hid (Z j = st tail) := hid (by rw [HZ.out j, hje, List.drop_length]; simp [encs])
      rw [HTK.out] at HL
      rw [HZT.out]
      rcases HEND.out with hq | ⟨hq, x, m, er, hdx, her⟩
      · have HQ2 := hid hq
        have hjl : ¬ (j : Int) < (q : Int) := by omega
        clear hje hq
        obtain ⟨vv, m1, m2⟩ := HL.out.msg
        have HRW := hid m2
        obtain ⟨ar, cr, hrv, hr1, hr2⟩ := m2.len
        subst hrv
        have HRM := hid (fun w' (h : Below wr.heap.size wr w') => isRightM_any ⟨k, v, n, a, c, .slice ar es.length cr, es⟩ (m2.lie.below h))
        simp only [Mg.v] at HRM
        obtain ⟨c0, c1, c2, c3, c4, c5⟩ := m1.cells
        have HM1 := hid m1
        clear m1 m2
        obtain ⟨zt, hzt⟩ : ∃ z, z = st tail := ⟨_, rfl⟩
        rw [← hzt]
        have HZ2 := hid hzt
        clear hzt
        by_cases ht : tail = []
        · have hz : zt = ⟨#[]⟩ := by rw [HZ2.out, ht]; rfl
          subst hz
          have HTL := hid ht
          clear ht
          cases hR : (hdB k v n a c && !fallsB es) with
          | true =>
            rw [hR] at HRM
            have HR := hid hR
            clear hR
            go_wp2_with (first | (go_at_call 33; refine (HRM.out _ (Below.refl _ _)).mono ?_; rintro e w7 ⟨rfl, b7⟩; obtain ⟨f0, f1, f2, f3, f4, f5⟩ := MBox.cells ((b7.block Q (lt_of_block HM1.out)).trans HM1.out); have hres := hid ((b7.block w.heap.size (lt_of_block HL.out.res)).trans HL.out.res); have hb7 := hid b7; clear b7) | (go_at_call 32; refine (NO.out _ _).mono ?_; rintro e w2 ⟨rfl, rfl⟩) | (refine at_store24 w.heap.size _ _ _ _ _ _ rfl rfl hres.out rfl ?_; intro w9 m9 k9; have HM9 := hid m9; have HK9 := hid k9; clear m9 k9))
            have bel7 : Below w.heap.size w w2 := HL.out.bel.trans (hb7.out.mono HL.out.bel.size)
            have bel9 : Below w.heap.size w w9 := bel7.trans (HK9.out.below bel7.size (Nat.le_refl _))
            have row7 := HRW.out.below hb7.out
            have row9 : ERow B w9 (.slice ar es.length cr) es := row7.frame fun b hb => HK9.out.block b (row7.own b hb).2 (by have := (row7.own b hb).1; have := HL.out.RB; omega)
            exact ret24 HM9.out rfl rfl ⟨fun h => absurd ⟨HQ2.out, HTL.out, HR.out⟩ h, fun _ => ⟨_, rfl, row9.lie⟩, bel9⟩
          | false =>
            rw [hR] at HRM
            have HR := hid hR
            clear hR
            go_wp2_with (first | (go_at_call 33; refine (HRM.out _ (Below.refl _ _)).mono ?_; rintro e w7 ⟨rfl, b7⟩; have hb7 := hid b7; clear b7) | (go_at_call 32; refine (NN.out _ _).mono ?_; rintro e w2 ⟨rfl, rfl⟩))
            exact ⟨rfl, fun _ => rfl, fun h => absurd h.2.2 (by rw [HR.out]; simp), HL.out.bel.trans (hb7.out.mono HL.out.bel.size)⟩
        · have hzn : zt ≠ ⟨#[]⟩ := by
            rw [HZ2.out]
            intro e
            apply ht
            have := congrArg (fun b : ByteArray => b.data.toList) e
            simpa [st] using this
          have hzn2 := str_ne hzn
          have hzn3 : zt.toList.isEmpty = false := by
            cases h : zt.toList.isEmpty with
            | false => rfl
            | true =>
              rw [List.isEmpty_iff.1 h] at hzn2
              simp at hzn2
          have hzn4 : (zt.toList == ([] : List UInt8)) = false := by
            cases h : zt.toList with
            | nil => rw [h] at hzn3; cases hzn3
            | cons b t => rfl
          clear hzn
          have HTL := hid ht
          clear ht
          go_wp2_with (first | (go_at_call 32; refine (NN.out _ _).mono ?_; rintro e w2 ⟨rfl, rfl⟩))
          exact ⟨rfl, fun _ => rfl, fun h => absurd h.2.1 HTL.out, HL.out.bel⟩
      · have HDO := hid hdx
        unfold DecO at HDO
        have hjl : (j : Int) < (q : Int) := by omega
        have hnq : ¬ es.length = q := by omega
        have HNQ := hid hnq
        have hf3 : (er == 0) = false := by simp [her]
        clear hdx her hnq hq hje
        obtain ⟨V1, C1, R1, K1, A1, N1, p1, t1, d1⟩ := x
        simp only [Ent.v] at HDO
        go_wp2_with (first | (go_at_call 48; refine (HDO.out _).mono ?_; rintro e w7 ⟨rfl, b7⟩; have hb7 := hid b7; clear b7) | (go_at_call 32; refine (NN.out _ _).mono ?_; rintro e w2 ⟨rfl, rfl⟩))
        refine ⟨rfl, fun _ => rfl, fun h => absurd h.1 HNQ.out, ?_⟩
        exact (HL.out.bel.trans (hb7.out.mono HL.out.bel.size)).trans ((below_alloc _ _).mono (Nat.le_trans HL.out.bel.size hb7.out.size))
end Go.Proofs.Ytjphfpfagnhelaa
