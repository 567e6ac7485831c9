import Derived.Test.YtonejnbflkkapabBk
import Derived.Test.YtonejnbflkkapabRl
namespace Go.Proofs.Ytonejnbflkkapab
open Go.RowKit

theorem writes_its (base g : Nat) (bs : List UInt8) (x : Item) (hN : -9223372036854775808 ≤ x.N ∧ x.N ≤ 9223372036854775807) (hlen : bs.length ≤ 10000000000) (w : World) (hw : WIs base g w bs) (hbase : base ≤ w.heap.size) :
    Calls Try.prog 11 #[.pointer (some ⟨g, 0, none⟩), .agg #[.int .i64 x.K, .int .i64 x.N, .int .i64 x.Z, .string x.s]] w fun e w' => e = .returned (.int .i64 x.e) ∧ WIs base g w' (bs ++ x.b) ∧ Kept base g w w' ∧ Stays w w' := writes_ws base g bs x.K x.N x.Z x.s hN hlen w hw hbase
theorem box_cells {w : World} {b : Nat} {x : Item} (h : w.heap[b]? = some (.cells #[.int .i64 x.K, .int .i64 x.N, .int .i64 x.Z, .string x.s] 26 (0, 0))) :
    w.cell? ⟨b, 0, none⟩ = some (.int .i64 x.K) ∧ w.cell? ⟨b, 1, none⟩ = some (.int .i64 x.N) ∧ w.cell? ⟨b, 2, none⟩ = some (.int .i64 x.Z) ∧ w.cell? ⟨b, 3, none⟩ = some (.string x.s) := by
  simp [World.cell?, h]
theorem bytesL_drop (l : List Item) (j : Nat) (h : j < l.length) : bytesL (l.drop j) = l[j].b ++ bytesL (l.drop (j + 1)) := by
  rw [List.drop_eq_getElem_cons h]; unfold bytesL; rw [List.flatMap_cons]
theorem bytesL_le (l : List Item) (j : Nat) : (bytesL (l.drop j)).length ≤ (bytesL l).length := by
  have e : bytesL l = bytesL (l.take j) ++ bytesL (l.drop j) := by
    unfold bytesL; rw [← List.flatMap_append, List.take_append_drop]
  rw [e, List.length_append]; omega

set_option maxRecDepth 100000 in
set_option maxHeartbeats 8000000 in
theorem back_walk (ao : Option Addr) (len cap : Nat) (it : Nat → Item) (hlc : len ≤ 1048576) (hN : ∀ i, i < len → -9223372036854775808 ≤ (it i).N ∧ (it i).N ≤ 9223372036854775807) (hout : ∀ j, j ≤ len → (outs it j).length ≤ 100000000) (w : World) (hl : Lie w ao len it) :
    Calls Try.prog 5 #[.slice ao len cap] w fun e w' => e = .returned (.bool true) ∧ Below w.heap.size w w' := by
  go_enter Try.func5, Try.ntmps5
  go_wp2_with (first | (go_at_call 9; refine (new_any _).mono ?_; rintro e w1 ⟨rfl, hw1⟩; have b1 := hw1 ▸ below_alloc w _; have i1 := hw1 ▸ WIs.new w w.heap.size; clear hw1))
  go_loopw [4, 18] (fun v i wr => ∃ (j : Nat), i = .int .i64 j ∧ j ≤ len ∧ WIs w.heap.size w.heap.size wr (outs it j) ∧ wr.ownsRow w.heap.size 26 4 v (keptL it j).length (ic (keptL it j)) ∧ Below w.heap.size w wr) (fun _ i _ => len - (intOf i).toNat)
  case atStart => exact ⟨0, rfl, Nat.zero_le _, i1, World.ownsRow_nil _ _ _ _, b1⟩
  case round =>
    obtain ⟨j, rfl, hj, hwi, hown, hbl⟩ := hrel
    have hz := hbl.size
    by_cases hlt : j < len
    · rcases hl with hl | ⟨b, off, rfl, hb, hcs⟩
      · omega
      obtain ⟨c0, c1, c2, c3⟩ := hcs j hlt
      have d0 : wr.cell? ⟨b, off + j * 4, none⟩ = some (.int .i64 (it j).K) := (hbl.cell (p := ⟨b, off + j * 4, none⟩) hb).trans c0
      have d1 : wr.cell? ⟨b, off + j * 4 + 1, none⟩ = some (.int .i64 (it j).N) := (hbl.cell (p := ⟨b, off + j * 4 + 1, none⟩) hb).trans c1
      have d2 : wr.cell? ⟨b, off + j * 4 + 2, none⟩ = some (.int .i64 (it j).Z) := (hbl.cell (p := ⟨b, off + j * 4 + 2, none⟩) hb).trans c2
      have d3 : wr.cell? ⟨b, off + j * 4 + 3, none⟩ = some (.string (it j).s) := (hbl.cell (p := ⟨b, off + j * 4 + 3, none⟩) hb).trans c3
      have hNj := hN j hlt
      have HO : Hid ((outs it j).length ≤ 10000000000) := by show _ ≤ _; have := hout j hj; omega
      have HL : Hid ((keptL it j).length ≤ 2000000) := by show _ ≤ _; have := kept_len it j; omega
      have HW : Hid (∀ o, WIs w.heap.size w.heap.size (wr.alloc o) (outs it j)) := fun o => hwi.below (below_alloc wr o)
      have HZ : Hid (∀ o, w.heap.size ≤ (wr.alloc o).heap.size) := fun o => Nat.le_trans hz (below_alloc wr o).size
      have HS : Hid (outs it (j + 1) = outs it j ++ (it j).b) := rfl
      clear hcs c0 c1 c2 c3 hout hN
      by_cases hE : (it j).e = 0
      · have HK : Hid (keptL it (j + 1) = keptL it j ++ [it j]) := by show _ = _; rw [keptL, if_pos hE]
        go_wp2_with (first | (go_at_call 11; refine (writes_its w.heap.size w.heap.size (outs it j) (it j) hNj HO.out _ (HW.out _) (HZ.out _)).mono ?_; rintro e w3 ⟨rfl, i3, k3, s3⟩; rw [hE]; have hbx := s3 wr.heap.size #[.int .i64 (it j).K, .int .i64 (it j).N, .int .i64 (it j).Z, .string (it j).s] (by show (wr.heap.push _)[wr.heap.size]? = _; simp); obtain ⟨x0, x1, x2, x3⟩ := box_cells hbx; have z3 := k3.size; have ho3 := ownsRow_stays (hown.alloc _) s3) | (at_builtin; refine push_item rfl (.tmp 26) (.tmp 28) rfl w.heap.size _ (keptL it j) (it j) rfl rfl ho3 HL.out (Nat.le_trans (HZ.out _) z3) ?_; intro r cap w5 ho5 b5 same5; have i5 := i3.pushed ho3 same5))
        have hb5 : Below w.heap.size w w5 := ((hbl.trans ((below_alloc wr _).mono hz)).trans (k3.below (Nat.le_refl _) (Nat.le_refl _))).trans b5
        go_roundw
        case rel => exact ⟨j + 1, by go_num, by omega, by rw [HS.out]; exact i5, by rw [HK.out, List.length_append]; exact ho5, hb5⟩
        case measure => simp [intOf]; omega
      · have HK : Hid (keptL it (j + 1) = keptL it j) := by show _ = _; rw [keptL, if_neg hE]
        have hE' : ((it j).e == 0) = false := by simp [hE]
        clear hE
        go_wp2_with (first | (go_at_call 11; refine (writes_its w.heap.size w.heap.size (outs it j) (it j) hNj HO.out _ (HW.out _) (HZ.out _)).mono ?_; rintro e w3 ⟨rfl, i3, k3, s3⟩; have ho3 := ownsRow_stays (hown.alloc _) s3))
        have hb5 : Below w.heap.size w w3 := (hbl.trans ((below_alloc wr _).mono hz)).trans (k3.below (Nat.le_refl _) (Nat.le_refl _))
        go_roundw
        case rel => exact ⟨j + 1, by go_num, by omega, by rw [HS.out]; exact i3, by rw [HK.out]; exact ho3, hb5⟩
        case measure => simp [intOf]; omega
    · have hjl : j = len := by omega
      subst hjl
      rename World => wa
      have hb0 := hout j (Nat.le_refl _)
      have hall := kept_all it (fun x => -9223372036854775808 ≤ x.N ∧ x.N ≤ 9223372036854775807) j hN j (Nat.le_refl _)
      have hkl := kept_len it j
      rw [outs_kept] at hb0 hwi
      obtain ⟨ks, hks⟩ : ∃ ks, ks = keptL it j := ⟨_, rfl⟩
      rw [← hks] at hb0 hwi hall hkl hown
      clear hks hout hN hl
      obtain ⟨ao2, cap2, hv, hlie⟩ : ∃ ao2 cap2, u4 = .slice ao2 ks.length cap2 ∧ (ks.length = 0 ∨ ∃ r, ao2 = some ⟨r, 0, none⟩ ∧ r < wa.heap.size ∧ ∀ i, (h : i < ks.length) → wa.cell? ⟨r, i * 4, none⟩ = some (.int .i64 ks[i].K) ∧ wa.cell? ⟨r, i * 4 + 1, none⟩ = some (.int .i64 ks[i].N) ∧ wa.cell? ⟨r, i * 4 + 2, none⟩ = some (.int .i64 ks[i].Z) ∧ wa.cell? ⟨r, i * 4 + 3, none⟩ = some (.string ks[i].s)) := by
        have hh := hown
        obtain ⟨_, ⟨e1, e2⟩ | ⟨r, cap2, cur, e1, _⟩⟩ := hown
        · exact ⟨none, 0, by rw [e1, e2], .inl e2⟩
        · subst e1
          refine ⟨_, cap2, rfl, .inr ⟨r, rfl, (hh.lt r rfl).2, fun i hi => ?_⟩⟩
          obtain ⟨g0, g1, g2, g3⟩ := ic_get ks i hi
          exact ⟨(hh.cellAt _ (by omega)).trans g0, (hh.cellAt _ (by omega)).trans g1, (hh.cellAt _ (by omega)).trans g2, (hh.cellAt _ (by omega)).trans g3⟩
      subst hv
      clear hown
      have hkl2 : ks.length ≤ 2000000 := by omega
      go_wp2_with (first | (go_at_call 12; refine (out_w _ _ _ _ hwi).mono ?_; rintro e wq ⟨rfl, hwq⟩; have hwq := hwq.symm; subst hwq) | (go_at_call 14; refine (of_any _ _).mono ?_; rintro e w4 ⟨rfl, hw4⟩; have b4 := hw4 ▸ below_alloc wa _; have r4 := hw4 ▸ RIs.new (st (bytesL ks)) wa; clear hw4))
      go_loopw [38] (fun i wr => ∃ (j : Nat), i = .int .i64 j ∧ j ≤ ks.length ∧ RIs wa.heap.size wr (st (bytesL (ks.drop j))) 0 ∧ Below wa.heap.size wa wr) (fun i _ => ks.length - (intOf i).toNat)
      case atStart => exact ⟨0, rfl, Nat.zero_le _, by simpa using r4, b4⟩
      case round =>
        clear r4 b4
        obtain ⟨j, rfl, hj2, hr, hbl2⟩ := hrel
        have hz2 := hr.lt
        by_cases hlt2 : j < ks.length
        · rcases hlie with hlie | ⟨r, rfl, hb, hcs⟩
          · omega
          obtain ⟨c0, c1, c2, c3⟩ := hcs j hlt2
          have d0 : wr.cell? ⟨r, j * 4, none⟩ = some (.int .i64 ks[j].K) := (hbl2.cell (p := ⟨r, j * 4, none⟩) hb).trans c0
          have d1 : wr.cell? ⟨r, j * 4 + 1, none⟩ = some (.int .i64 ks[j].N) := (hbl2.cell (p := ⟨r, j * 4 + 1, none⟩) hb).trans c1
          have d2 : wr.cell? ⟨r, j * 4 + 2, none⟩ = some (.int .i64 ks[j].Z) := (hbl2.cell (p := ⟨r, j * 4 + 2, none⟩) hb).trans c2
          have d3 : wr.cell? ⟨r, j * 4 + 3, none⟩ = some (.string ks[j].s) := (hbl2.cell (p := ⟨r, j * 4 + 3, none⟩) hb).trans c3
          have hx := hall ks[j] (List.getElem_mem hlt2)
          have hbd := bytesL_drop ks j hlt2
          have hbl3 := bytesL_le ks j
          obtain ⟨rest, hrest⟩ : ∃ rest, rest = bytesL (ks.drop (j + 1)) := ⟨_, rfl⟩
          obtain ⟨x, hxx⟩ : ∃ x, x = ks[j] := ⟨_, rfl⟩
          rw [← hxx] at d0 d1 d2 d3 hx hbd
          obtain ⟨K, N, Z, xs⟩ := x
          simp only at d0 d1 d2 d3 hx
          have hne : ¬ wr.heap.size = wa.heap.size := by omega
          have hmx : (st (bytesL (ks.drop j))).size ≤ maxLen := by rw [st_size]; unfold maxLen; omega
          have HR : Hid (∀ o, RIs wa.heap.size (wr.alloc o) (st (bytesL (ks.drop j))) 0) := fun o => hr.below (below_alloc wr o)
          clear hcs c0 c1 c2 c3 hxx
          obtain ⟨he0, hn0⟩ := hx
          unfold Item.e at he0
          unfold Item.b at hbd
          simp only at he0 hbd
          rw [← hrest] at hbd
          have HR2 : Hid (∀ o, RIs wa.heap.size (wr.alloc o) (st (itB K N Z xs ++ rest)) 0) := by rw [← hbd]; exact HR.out
          have HM : Hid ((st (itB K N Z xs ++ rest)).size ≤ maxLen) := by rw [← hbd]; exact hmx
          clear hbd HR hmx hr hbl3 hall hwi
          rcases it_kind K with rfl | rfl | rfl | ⟨k0, k1, k2, n0, n1, n2⟩
          · have hN0 : ¬ N < 0 := fun h => by simp [itE, h] at he0
            obtain ⟨m, rfl⟩ := Int.eq_ofNat_of_zero_le (show 0 ≤ N by omega)
            have e1 : itB 0 m Z xs = uEnc m := by unfold itB; rw [if_pos rfl, if_neg (by omega), Int.toNat_natCast]
            rw [e1] at HR2 HM
            clear he0 e1
            go_wp2_with (go_at_call 15; refine (rd_uint m (by omega) rest HM.out _ _ (HR2.out _)).mono ?_; rintro e w3 ⟨rfl, r3, k3⟩; obtain ⟨cc3, cf3⟩ := kcell k3; have z3 := k3.size)
            have hb3 : Below wa.heap.size wa w3 := (hbl2.trans ((below_alloc wr _).mono hbl2.size)).trans (k3.below (by simp; omega) (Nat.le_refl _))
            rw [hrest] at r3
            go_roundw
            case rel => exact ⟨j + 1, by go_num, by omega, r3, hb3⟩
            case measure => simp [intOf]; omega
          · have e1 : itB 1 N Z xs = uEnc (zig N) := by simp [itB]
            rw [e1] at HR2 HM
            clear he0 e1
            go_wp2_with (go_at_call 17; refine (rd_int N hn0 rest HM.out _ _ (HR2.out _)).mono ?_; rintro e w3 ⟨rfl, r3, k3⟩; obtain ⟨cc3, cf3⟩ := kcell k3; have z3 := k3.size)
            have hb3 : Below wa.heap.size wa w3 := (hbl2.trans ((below_alloc wr _).mono hbl2.size)).trans (k3.below (by simp; omega) (Nat.le_refl _))
            rw [hrest] at r3
            go_roundw
            case rel => exact ⟨j + 1, by go_num, by omega, r3, hb3⟩
            case measure => simp [intOf]; omega
          · have hf : fitsB N Z = true := by
              cases h : fitsB N Z with
              | true => rfl
              | false => simp [itE, h] at he0
            have ⟨f0, f1, f2⟩ := fits_of hf
            obtain ⟨m, rfl⟩ := Int.eq_ofNat_of_zero_le f0
            obtain ⟨z, rfl⟩ := Int.eq_ofNat_of_zero_le (show 0 ≤ Z by omega)
            have e1 : itB 2 m z xs = fEnc m z := by simp [itB, hf]
            rw [e1] at HR2 HM
            clear he0 e1 f1 f2
            go_wp2_with (go_at_call 19; refine (rd_fixed m z (by omega) hf rest HM.out _ _ (HR2.out _)).mono ?_; rintro e w3 ⟨rfl, r3, k3⟩; obtain ⟨cc3, cf3⟩ := kcell k3; have z3 := k3.size)
            have hb3 : Below wa.heap.size wa w3 := (hbl2.trans ((below_alloc wr _).mono hbl2.size)).trans (k3.below (by simp; omega) (Nat.le_refl _))
            rw [hrest] at r3
            go_roundw
            case rel => exact ⟨j + 1, by go_num, by omega, r3, hb3⟩
            case measure => simp [intOf]; omega
          · have hsz : xs.size ≤ 65535 := by
              by_cases h : 65535 < xs.size
              · simp [itE, n0, n1, n2, h] at he0
              · omega
            have e1 : itB K N Z xs = uEnc xs.size ++ xs.data.toList := by simp only [itB, n0, n1, n2, show ¬ 65535 < xs.size by omega, if_false]
            rw [e1, List.append_assoc] at HR2 HM
            clear he0 e1 n0 n1 n2
            go_wp2_with (go_at_call 21; refine (rd_text xs hsz rest HM.out _ _ (HR2.out _)).mono ?_; rintro e w3 ⟨rfl, r3, k3⟩; obtain ⟨cc3, cf3⟩ := kcell k3; have z3 := k3.size)
            have hb3 : Below wa.heap.size wa w3 := (hbl2.trans ((below_alloc wr _).mono hbl2.size)).trans (k3.below (by simp; omega) (Nat.le_refl _))
            rw [hrest] at r3
            go_roundw
            case rel => exact ⟨j + 1, by go_num, by omega, r3, hb3⟩
            case measure => simp [intOf]; omega
        · have hE : endV (st (bytesL (ks.drop j))) 0 = 0 := by
            rw [List.drop_of_length_le (by omega)]; rfl
          go_wp2_with (first | (go_at_call 24; refine (end_r _ _ _ _ hr).mono ?_; rintro e wq ⟨rfl, hwq⟩; have hwq := hwq.symm; subst hwq; rw [hE]) | (go_at_call 13; refine (speaks_any _).mono ?_; rintro e w9 ⟨rfl, b9⟩))
          go_ret
          exact ⟨rfl, (hbl.trans (hbl2.mono hz)).trans (b9.mono (Nat.le_trans hz hbl2.size))⟩
end Go.Proofs.Ytonejnbflkkapab
