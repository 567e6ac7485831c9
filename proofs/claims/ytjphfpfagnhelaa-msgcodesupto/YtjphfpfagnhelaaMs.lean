import Derived.Test.YtjphfpfagnhelaaMr
namespace Go.Proofs.Ytjphfpfagnhelaa
open Go.RowKit Go.Maps Go.Shelf

theorem drew_bel (w : World) : Below w.heap.size w w.drew := ⟨rfl, rfl, rfl, Nat.le_refl _, fun _ _ => rfl⟩
set_option maxRecDepth 100000 in
theorem renc_bad {w : World} (K V N A C : Int) (sl : Value) (es : List Ent) (h : ELie w sl es) (hb : rrB K V N A C es = false) : Calls Try.prog 8 #[.agg #[.int .i64 K, .int .i64 V, .int .i64 N, .int .i64 A, .int .i64 C, sl]] w fun e w' => e = .returned (.tuple #[.string ⟨#[]⟩, .int .i64 4]) ∧ Below w.heap.size w w' := by
  have hnot : ∀ (x : Bool) (w : World), (Op.unary .not (.bool x)).run Try.prog w = .ok (.bool (!x)) w := fun _ _ => rfl
  have HR : Hid (∀ o, Calls Try.prog 19 #[.agg #[.int .i64 K, .int .i64 V, .int .i64 N, .int .i64 A, .int .i64 C, sl]] (w.alloc o) fun e w' => e = .returned (.bool false) ∧ Below (w.alloc o).heap.size (w.alloc o) w') := hid (fun o => by have := rright_any K V N A C sl es (h.below (below_alloc w o)); rw [hb] at this; exact this)
  obtain ⟨sa, sn, sc, hsl⟩ : ∃ a n c, sl = .slice a n c := by obtain ⟨a, c, e, _⟩ := h; exact ⟨a, _, c, e⟩
  subst hsl
  clear h hb
  go_enter Try.func8, Try.ntmps8
  go_wp2_with (first | (go_at_call 19; refine (HR.out _).mono ?_; rintro e w1 ⟨rfl, b1⟩))
  go_ret2
  exact ⟨rfl, (below_alloc _ _).next b1⟩
set_option maxRecDepth 100000 in
set_option maxHeartbeats 4000000 in
theorem renc_go {w : World} (k v n a c q : Nat) (sl : Value) (es : List Ent) (h : ELie w sl es) (hok : ∀ y ∈ es, y.Ok) (hn : es.length ≤ 2000000) (hq : q = es.length) (hk : k < 1000000000000000) (hv : v < 1000000000000000) (hnn : n < 1000000000000000) (ha : a < 1000000000000000) (hc : c < 1000000000000000) (hall : es.all rgt = true)
    (hb : rrB k v n a c es = true) : Calls Try.prog 8 #[.agg #[.int .i64 k, .int .i64 v, .int .i64 n, .int .i64 a, .int .i64 c, sl]] w fun e w' =>
      (60000 < (numL [k, v, n, a, c, q]).length + (encs es).length + 4 → e = .returned (.tuple #[.string ⟨#[]⟩, .int .i64 2])) ∧
      ((numL [k, v, n, a, c, q]).length + (encs es).length + 4 ≤ 60000 → e = .returned (.tuple #[.string (st (Cd.sealL (numL [k, v, n, a, c, q] ++ encs es))), .int .i64 0])) ∧ Below w.heap.size w w' := by
  have hnot : ∀ (x : Bool) (w : World), (Op.unary .not (.bool x)).run Try.prog w = .ok (.bool (!x)) w := fun _ _ => rfl
  have HR : Hid (∀ o, Calls Try.prog 19 #[.agg #[.int .i64 k, .int .i64 v, .int .i64 n, .int .i64 a, .int .i64 c, sl]] (w.alloc o) fun e w' => e = .returned (.bool true) ∧ Below (w.alloc o).heap.size (w.alloc o) w') := hid (fun o => by have := rright_any k v n a c sl es (h.below (below_alloc w o)); rw [hb] at this; exact this)
  have HS := hid h
  have HOK := hid hok
  have HQ := hid hq
  have hqb : q ≤ 2000000 := by omega
  obtain ⟨sa, sc, hsl⟩ : ∃ a c, sl = .slice a q c := by obtain ⟨a, c, e, _⟩ := h; exact ⟨a, c, by rw [hq]; exact e⟩
  subst hsl
  have HU := hid refUint
  have HALL := hid hall
  have HFEW := hid hn
  have Bk := hid (show k ≤ 9223372036854775807 from by omega)
  obtain ⟨u0, hu0⟩ : ∃ u, u = st (uEnc k) := ⟨_, rfl⟩
  have z0 : u0.size ≤ 10 := by rw [hu0, st_size]; exact (uEnc_len64 k (by omega)).2
  have Bv := hid (show v ≤ 9223372036854775807 from by omega)
  obtain ⟨u1, hu1⟩ : ∃ u, u = st (uEnc v) := ⟨_, rfl⟩
  have z1 : u1.size ≤ 10 := by rw [hu1, st_size]; exact (uEnc_len64 v (by omega)).2
  have Bn := hid (show n ≤ 9223372036854775807 from by omega)
  obtain ⟨u2, hu2⟩ : ∃ u, u = st (uEnc n) := ⟨_, rfl⟩
  have z2 : u2.size ≤ 10 := by rw [hu2, st_size]; exact (uEnc_len64 n (by omega)).2
  have Ba := hid (show a ≤ 9223372036854775807 from by omega)
  obtain ⟨u3, hu3⟩ : ∃ u, u = st (uEnc a) := ⟨_, rfl⟩
  have z3 : u3.size ≤ 10 := by rw [hu3, st_size]; exact (uEnc_len64 a (by omega)).2
  have Bc := hid (show c ≤ 9223372036854775807 from by omega)
  obtain ⟨u4, hu4⟩ : ∃ u, u = st (uEnc c) := ⟨_, rfl⟩
  have z4 : u4.size ≤ 10 := by rw [hu4, st_size]; exact (uEnc_len64 c (by omega)).2
  have Bq := hid (show q ≤ 9223372036854775807 from by omega)
  obtain ⟨u5, hu5⟩ : ∃ u, u = st (uEnc q) := ⟨_, rfl⟩
  have z5 : u5.size ≤ 10 := by rw [hu5, st_size]; exact (uEnc_len64 q (by omega)).2
  have ad1 := fun wx => Go.run_string_add_sum (P := Try.prog) (w := wx) (u0) u1 (by first | omega | (simp only [ByteArray.size_append]; omega))
  have ad2 := fun wx => Go.run_string_add_sum (P := Try.prog) (w := wx) (u0 ++ u1) u2 (by first | omega | (simp only [ByteArray.size_append]; omega))
  have ad3 := fun wx => Go.run_string_add_sum (P := Try.prog) (w := wx) (u0 ++ u1 ++ u2) u3 (by first | omega | (simp only [ByteArray.size_append]; omega))
  have ad4 := fun wx => Go.run_string_add_sum (P := Try.prog) (w := wx) (u0 ++ u1 ++ u2 ++ u3) u4 (by first | omega | (simp only [ByteArray.size_append]; omega))
  have ad5 := fun wx => Go.run_string_add_sum (P := Try.prog) (w := wx) (u0 ++ u1 ++ u2 ++ u3 ++ u4) u5 (by first | omega | (simp only [ByteArray.size_append]; omega))
  obtain ⟨L, hL⟩ : ∃ L, L = numL [k, v, n, a, c, q] := ⟨_, rfl⟩
  have HSUM : Hid (u0 ++ u1 ++ u2 ++ u3 ++ u4 ++ u5 = st L) := hid (by
    rw [hL, hu0, hu1, hu2, hu3, hu4, hu5]
    simp only [st_append, numL, List.flatMap_cons, List.flatMap_nil, List.append_nil, List.append_assoc])
  have HLL : Hid (L.length ≤ 60) := hid (by
    have e1 : (st L).size = (u0 ++ u1 ++ u2 ++ u3 ++ u4 ++ u5).size := by rw [HSUM.out]
    rw [st_size] at e1
    simp only [ByteArray.size_append] at e1
    omega)
  rw [← hL]
  have HUS : Hid (∀ (x : Nat), x ≤ 9223372036854775807 → ∀ w, Calls Try.prog 20 #[.int .i64 x] w fun e w' => e = .returned (.string (st (uEnc x))) ∧ Below w.heap.size w w') := HU
  have U0 := hid (fun w => HUS.out k Bk.out w)
  rw [← hu0] at U0
  have U1 := hid (fun w => HUS.out v Bv.out w)
  rw [← hu1] at U1
  have U2 := hid (fun w => HUS.out n Bn.out w)
  rw [← hu2] at U2
  have U3 := hid (fun w => HUS.out a Ba.out w)
  rw [← hu3] at U3
  have U4 := hid (fun w => HUS.out c Bc.out w)
  rw [← hu4] at U4
  have U5 := hid (fun w => HUS.out q Bq.out w)
  rw [← hu5] at U5
  clear h hb hok hq hL hall HU HUS hu0 hu1 hu2 hu3 hu4 hu5 z0 z1 z2 z3 z4 z5 Bk Bv Bn Ba Bc Bq hn hk hv hnn ha hc
  go_enter Try.func8, Try.ntmps8
  go_upto_region 3 with (first | (go_at_call 19; refine (HR.out _).mono ?_; rintro e w1 ⟨rfl, b1⟩; have B1 := hid b1; clear b1))
  have mb : NBox w.heap.size w1 k v n a c (.slice sa q sc) := (B1.out.block _ (by rw [alloc_size]; omega)).trans (box_at _ _)
  have BW : Hid (Below w.heap.size w w1) := hid ((below_alloc w _).next B1.out)
  have HKP : Hid (∀ w', Below w1.heap.size w1 w' → (fun w' => w'.cell? ⟨w.heap.size, 0, none⟩ = some (.int .i64 k) ∧ w'.cell? ⟨w.heap.size, 1, none⟩ = some (.int .i64 v) ∧ w'.cell? ⟨w.heap.size, 2, none⟩ = some (.int .i64 n) ∧ w'.cell? ⟨w.heap.size, 3, none⟩ = some (.int .i64 a) ∧ w'.cell? ⟨w.heap.size, 4, none⟩ = some (.int .i64 c) ∧ w'.cell? ⟨w.heap.size, 5, none⟩ = some (.slice sa q sc)) w') := hid (fun w' hb => by
    obtain ⟨a0, a1, a2, a3, a4, a5⟩ := NBox.cells ((hb.block _ (lt_of_block mb)).trans mb)
    exact ⟨a0, a1, a2, a3, a4, a5⟩)
  have MB := hid mb
  have k0 := HKP.out _ (drew_bel w1)
  have bb := hid (drew_bel w1)
  clear B1 HR mb
  go_region_held3 (fun w' => w'.cell? ⟨w.heap.size, 0, none⟩ = some (.int .i64 k) ∧ w'.cell? ⟨w.heap.size, 1, none⟩ = some (.int .i64 v) ∧ w'.cell? ⟨w.heap.size, 2, none⟩ = some (.int .i64 n) ∧ w'.cell? ⟨w.heap.size, 3, none⟩ = some (.int .i64 a) ∧ w'.cell? ⟨w.heap.size, 4, none⟩ = some (.int .i64 c) ∧ w'.cell? ⟨w.heap.size, 5, none⟩ = some (.slice sa q sc)) (first | exact k0 | exact HKP.out _ bb.out | go_keep) (first | (go_at_call 20; first | (refine (U0.out _).mono ?_; rintro e ax ⟨rfl, hb⟩; have bn := hid (bb.out.next hb); clear bb hb; have bb := bn; clear bn; clear U0) | (refine (U1.out _).mono ?_; rintro e ax ⟨rfl, hb⟩; have bn := hid (bb.out.next hb); clear bb hb; have bb := bn; clear bn; clear U1) | (refine (U2.out _).mono ?_; rintro e ax ⟨rfl, hb⟩; have bn := hid (bb.out.next hb); clear bb hb; have bb := bn; clear bn; clear U2) | (refine (U3.out _).mono ?_; rintro e ax ⟨rfl, hb⟩; have bn := hid (bb.out.next hb); clear bb hb; have bb := bn; clear bn; clear U3) | (refine (U4.out _).mono ?_; rintro e ax ⟨rfl, hb⟩; have bn := hid (bb.out.next hb); clear bb hb; have bb := bn; clear bn; clear U4) | (refine (U5.out _).mono ?_; rintro e ax ⟨rfl, hb⟩; have bn := hid (bb.out.next hb); clear bb hb; have bb := bn; clear bn; clear U5)))
  all_goals (
    simp only [HSUM.out]
    have HBA : Hid (Below w.heap.size w ax) := hid (BW.out.next bb.out)
    obtain ⟨c0, c1, c2, c3, c4, c5⟩ := NBox.cells ((bb.out.block _ (lt_of_block MB.out)).trans MB.out)
    have HMA : Hid (NBox w.heap.size ax k v n a c (.slice sa q sc)) := hid ((bb.out.block _ (lt_of_block MB.out)).trans MB.out)
    have hsz := rsize_any (HS.out.below HBA.out) HOK.out HFEW.out
    have hE : szE es = 0 := by unfold szE; rw [HALL.out]; rfl
    have hN : szN es = ((encs es).length : Nat) := by unfold szN; rw [HALL.out]; rfl
    rw [hE, hN] at hsz
    have HSZ := hid hsz
    obtain ⟨nn, hnn⟩ : ∃ x : Nat, x = (encs es).length := ⟨_, rfl⟩
    rw [← hnn] at HSZ
    have HNN := hid hnn
    have HNB : Hid (nn ≤ 12378 * 2000000) := hid (by have := encs_len es HALL.out HOK.out; have := HFEW.out; omega)
    obtain ⟨z, hz⟩ : ∃ z, z = st L := ⟨_, rfl⟩
    have HZS : Hid (z.size = L.length) := hid (by rw [hz, st_size])
    simp only [← hz]
    have HZ := hid hz
    clear hz hnn hsz hE hN HKP k0 bb BW MB HSUM ad1 ad2 ad3 ad4 ad5
    have hw1 : IntKind.i64.wrap ((z.size : Int) + (nn : Int)) = (z.size : Int) + (nn : Int) := by have := HZS.out; have := HLL.out; have := HNB.out; rw [IntKind.wrap_i64]; omega
    obtain ⟨TT, hTT⟩ : ∃ T : Int, T = (z.size : Int) + (nn : Int) + 4 := ⟨_, rfl⟩
    have HTT := hid hTT
    have hw2 : IntKind.i64.wrap ((z.size : Int) + (nn : Int) + 4) = TT := by rw [hTT]; have := HZS.out; have := HLL.out; have := HNB.out; rw [IntKind.wrap_i64]; omega
    clear hTT
    by_cases hfit : (60000 : Int) < TT
    · have HFIT := hid hfit
      go_wp2_with (first | (go_at_call 13; refine HSZ.out.mono ?_; rintro e w5 ⟨rfl, b5⟩))
      go_ret2
      refine ⟨fun _ => rfl, fun h => ?_, HBA.out.next b5⟩
      have := HFIT.out
      have := HTT.out
      have := HZS.out
      have := HNN.out
      omega
    · have HFIT := hid hfit
      go_upto_region 7 with (first | (go_at_call 13; refine HSZ.out.mono ?_; rintro e w5 ⟨rfl, b5⟩; have HB5 := hid (HBA.out.next b5); obtain ⟨g0, g1, g2, g3, g4, g5⟩ := NBox.cells (show NBox w.heap.size w5 k v n a c (.slice sa q sc) from (b5.block _ (lt_of_block HMA.out)).trans HMA.out); clear b5))
      clear hw1 hw2 hfit c0 c1 c2 c3 c4 c5
      have hes := HS.out.below HB5.out
      obtain ⟨ao', cap', e9, hlc, hcm, hcell⟩ := hes
      have HC := hid hcell
      have hao : sa = ao' := by cases e9; rfl
      subst hao
      clear e9 hcell hlc hcm
      obtain ⟨Z, hZ⟩ : ∃ Z : Nat → ByteArray, Z = fun j => st (L ++ encs (es.take j)) := ⟨_, rfl⟩
      have HZZ : Hid (∀ j, Z j = st (L ++ encs (es.take j))) := hid (fun j => by rw [hZ])
      have hz0 : z = Z 0 := by rw [HZ.out, hZ]; simp [encs]
      rw [hz0]
      clear hZ hz0
      go_wp2
      go_loopw [4, 53] (fun s i wr => ∃ j : Nat, i = .int .i64 j ∧ j ≤ q ∧ s = .string (Z j) ∧ Hid (Below w5.heap.size w5 wr)) (fun _ i _ => q - (intOf i).toNat)
      case atStart => exact ⟨0, rfl, Nat.zero_le _, rfl, hid (Below.refl _ _)⟩
      case round =>
        obtain ⟨j, rfl, hj, rfl, HB⟩ := hrel
        rename World => wr
        by_cases hlt : j < q
        · have hjl : j < es.length := by rw [← HQ.out]; exact hlt
          obtain ⟨gb, off, ea, hgb, hat⟩ := HC.out j hjl
          subst ea
          have hat' := hat.same (HB.out.block gb hgb)
          obtain ⟨x, hx⟩ : ∃ x, x = es[j] := ⟨_, rfl⟩
          have hxo : x.Ok := by rw [hx]; exact HOK.out _ (List.getElem_mem hjl)
          have hr : rgt x = true := by rw [hx]; exact List.all_eq_true.1 HALL.out _ (List.getElem_mem hjl)
          rw [← hx] at hat'
          obtain ⟨d0, d1, d2, d3, d4, d5, d6, d7, d8⟩ := hat'
          have HE := hid (rencode_ok x hr hxo)
          have hadd : ∀ wx, (Op.stringOp .add (Z j) (st (encE x))).run Try.prog wx = .ok (.string (Z (j + 1))) wx := fun wx => by
            have e2 : encs es = encs (es.take (j + 1)) ++ encs (es.drop (j + 1)) := by rw [← encs_append, List.take_append_drop]
            have e3 := congrArg List.length e2
            rw [List.length_append] at e3
            have e4 : encs (es.take (j + 1)) = encs (es.take j) ++ encE x := by rw [encs_take hjl, ← hx]
            have e5 := congrArg List.length e4
            rw [List.length_append] at e5
            have := HLL.out
            have := HNB.out
            have := HNN.out
            rw [Go.run_string_add_sum (P := Try.prog) (w := wx) (Z j) (st (encE x)) (by rw [HZZ.out j, st_size, st_size, List.length_append]; omega), HZZ.out j, HZZ.out (j + 1), st_append, e4, List.append_assoc]
          obtain ⟨en, hen⟩ : ∃ en, en = st (encE x) := ⟨_, rfl⟩
          rw [← hen] at HE hadd
          obtain ⟨zj, hzj⟩ : ∃ z, z = Z j := ⟨_, rfl⟩
          obtain ⟨zk, hzk⟩ : ∃ z, z = Z (j + 1) := ⟨_, rfl⟩
          rw [← hzj] at hadd ⊢
          rw [← hzk] at hadd
          have HZK := hid hzk
          clear hen hr hxo hx hat hzj hzk
          obtain ⟨V', C', R', K', A', N', p, t, d⟩ := x
          simp only [Ent.v] at HE d0 d1 d2 d3 d4 d5 d6 d7 d8
          go_wp2_with (first | (go_at_call 21; refine (HE.out _).mono ?_; rintro e w7 ⟨rfl, b7⟩; have B7 := hid b7; clear b7))
          go_roundw
          case rel => exact ⟨j + 1, by go_num, by omega, by rw [HZK.out], hid (HB.out.trans (((below_alloc wr _).next B7.out).mono HB.out.size))⟩
          case measure => simp [intOf]; omega
        · have hjn : j = q := by omega
          have HZE : Hid ((Z j).data.toList = L ++ encs es) := hid (by rw [HZZ.out j, st_list, hjn, HQ.out, List.take_length])
          have HZ2 : Hid ((Z j).size ≤ 60000) := hid (by
            have e1 := congrArg List.length HZE.out
            rw [bytes_len, List.length_append] at e1
            have := HFIT.out
            have := HTT.out
            have := HZS.out
            have := HNN.out
            omega)
          obtain ⟨zq, hzq⟩ : ∃ z, z = Z j := ⟨_, rfl⟩
          rw [← hzq] at HZE HZ2 ⊢
          clear hzq hjn
          have HSL := hid (Cd.refSeal zq (by have := HZ2.out; omega))
          go_wp2_with (first | (go_at_call 22; refine (HSL.out _).mono ?_; rintro e w8 ⟨rfl, b8⟩))
          go_ret2
          rw [HZE.out]
          refine ⟨fun h => ?_, fun _ => rfl, (HB5.out.trans (HB.out.mono HB5.out.size)).next b8⟩
          have := HFIT.out
          have := HTT.out
          have := HZS.out
          have := HNN.out
          omega)
end Go.Proofs.Ytjphfpfagnhelaa
