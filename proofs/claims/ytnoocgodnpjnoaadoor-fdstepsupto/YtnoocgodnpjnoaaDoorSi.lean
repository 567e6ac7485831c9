import Derived.Test.YtnoocgodnpjnoaaDoorSf
namespace Go.Proofs.YtnoocgodnpjnoaaDoor
open Go.RowKit

theorem cnt_room {D : Nat → Dsc} {k : Nat} (hk : k < 16) (h : (D k).o = false) : cnt D 16 < 16 := by
  have h1 := cnt_open (x := ⟨true, ByteArray.empty, 0⟩) hk h rfl
  have h2 := cnt_le (upd D k ⟨true, ByteArray.empty, 0⟩) 16
  omega
/-- what stands in the new list, when j of the old are read -/
def ins (l : List Fil) (c : Nat) (y : Fil) (j : Nat) : List Fil := if j ≤ c then l.take j else l.take c ++ y :: (l.take j).drop c
theorem ins_low {l : List Fil} {c j : Nat} {y : Fil} (hj : j < l.length) (h : j < c) : ins l c y (j + 1) = ins l c y j ++ [l[j]] := by
  unfold ins
  rw [if_pos (by omega), if_pos (by omega), List.take_succ_eq_append_getElem hj]
theorem ins_at {l : List Fil} {j : Nat} {y : Fil} (hj : j < l.length) : ins l j y (j + 1) = (ins l j y j ++ [y]) ++ [l[j]] := by
  unfold ins
  rw [if_neg (by omega), if_pos (Nat.le_refl _), List.take_succ_eq_append_getElem hj, List.drop_append_of_le_length (by rw [List.length_take]; omega), List.drop_of_length_le (by rw [List.length_take]; omega)]
  simp
theorem ins_high {l : List Fil} {c j : Nat} {y : Fil} (hj : j < l.length) (h : c < j) : ins l c y (j + 1) = ins l c y j ++ [l[j]] := by
  unfold ins
  rw [if_neg (by omega), if_neg (by omega), List.take_succ_eq_append_getElem hj, List.drop_append_of_le_length (by rw [List.length_take]; omega)]
  simp
theorem ins_len {l : List Fil} {c j : Nat} {y : Fil} : (ins l c y j).length ≤ 2 * l.length + 1 := by
  unfold ins
  split
  · rw [List.length_take]; omega
  · simp only [List.length_append, List.length_cons, List.length_drop, List.length_take]; omega
set_option maxRecDepth 100000 in
set_option maxHeartbeats 2000000 in
theorem open_ref {base top r : Nat} {w : World} {D : Nat → Dsc} (s : ByteArray) (h : RT base top r w (fl D 16)) (hbase : base ≤ w.heap.size) (hs : s.size ≤ 1048576) : Calls Tryd.prog 21 #[.pointer (some ⟨r, 0, none⟩), .string s] w fun e w' => e = .returned (.tuple #[.int .i64 (openR D s), .int .i64 (openE D s)]) ∧ RI base r w' (fl (openD D s) 16) ∧ KR base top r w w' := by
  have HS := hid (rsplit_any s w hs)
  have HH := hid h
  clear h hs
  unfold openD openR openE
  by_cases he : splE s.data.toList = 0
  · rw [he] at HS
    simp only [if_pos he]
    clear he
    cases hf : lf D 16 with
    | none =>
      have hcc : cnt D 16 = 16 := cnt_all D 16 (fun j hj => lf_none hf j hj)
      clear hf
      obtain ⟨vr, HV1, HV2, _⟩ := HH.out
      obtain ⟨ao, cap, hv, hlc, hcm, _⟩ := HV2.lie
      rw [fl_len, hcc] at hv hlc
      subst hv
      unfold maxLen at hcm
      replace HV1 := hid HV1
      clear hcc HV2
      go_enter Tryd.func21, Tryd.ntmps21
      go_wp2_with (first | (go_at_call 15; refine (HS.out).mono ?_; rintro e w1 ⟨v1, rfl, _, b1⟩; have HB := hid b1; have c0 : w1.cell? ⟨r, 0, none⟩ = some (.slice ao 16 cap) := by { simp only [World.cell?, b1.block r (lt_of_block HV1.out), HV1.out]; rfl }; clear b1))
      go_ret2
      exact ⟨rfl, (HH.out.below HB.out).ri, KR.of_below HB.out⟩
    | some k =>
      obtain ⟨hk, hko, hlow⟩ := lf_some hf
      have HLOW := hid hlow
      have HKO := hid hko
      have HOP : Hid (fl (upd D k ⟨true, s, 0⟩) 16 = (fl D 16).take (cnt D k) ++ ⟨k, 0, s⟩ :: (fl D 16).drop (cnt D k)) := hid (by rw [fl_open hko rfl 16 hk]; unfold fil; rw [upd_same])
      simp only []
      rw [HOP.out]
      have hroom := cnt_room hk hko
      have hck : cnt D k ≤ (fl D 16).length := by rw [fl_len]; exact cnt_mono D k 16 (by omega)
      have HFL := hid (fun i (e : Fil) => fl_at (D := D) (i := i) (e := e) 16)
      have HFI := hid (fun (j : Nat) w' (b : Below w.heap.size w w') => find_ref (j : Int) (HH.out.below b).ri)
      obtain ⟨vr, HV1, HV2, _⟩ := HH.out
      rw [← fl_len] at hroom
      obtain ⟨l, hl⟩ : ∃ l, l = fl D 16 := ⟨_, rfl⟩
      obtain ⟨ck, hckk⟩ : ∃ c, c = cnt D k := ⟨_, rfl⟩
      have HCK := hid hckk
      rw [← hl, ← hckk]
      rw [← hl, ← hckk] at hck
      rw [← hl] at hroom HV2 HFL
      clear hf hko hlow hl hckk HOP
      obtain ⟨ao, cap, rfl, hlc, hcm, hcell⟩ := HV2.lie
      have HC := hid hcell
      unfold maxLen at hcm
      replace HV1 := hid HV1
      replace HV2 := hid HV2
      clear hcell
      have c0 : w.cell? ⟨r, 0, none⟩ = some (.slice ao l.length cap) := by simp [World.cell?, HV1.out]
      have hrl := lt_of_block HV1.out
      go_enter Tryd.func21, Tryd.ntmps21
      go_wp2_with (first | (go_at_call 15; refine (HS.out).mono ?_; rintro e w1 ⟨v1, rfl, _, b1⟩; have HB := hid b1; have c1 : w1.cell? ⟨r, 0, none⟩ = some (.slice ao l.length cap) := by { simp only [World.cell?, b1.block r (lt_of_block HV1.out), HV1.out]; rfl }; clear b1))
      go_loopw [8] (fun f wr => ∃ j : Nat, f = .int .i64 j ∧ j ≤ k ∧ Hid (Below w.heap.size w wr)) (fun f _ => k - (intOf f).toNat)
      case atStart => exact ⟨0, rfl, Nat.zero_le _, HB⟩
      case round =>
        obtain ⟨j, rfl, hj, HW⟩ := hrel
        rename World => wa
        have HF := hid (HFI.out j wa HW.out)
        unfold idx at HF
        rw [opn_nat (show j < 16 by omega)] at HF
        by_cases hjk : j < k
        · rw [HLOW.out j hjk, if_pos rfl, Int.toNat_natCast] at HF
          obtain ⟨cj, hcj⟩ : ∃ c, c = cnt D j := ⟨_, rfl⟩
          rw [← hcj] at HF
          clear hcj
          go_wp2_with (first | (go_at_call 10; refine (HF.out).mono ?_; rintro e w2 ⟨rfl, b2⟩; have HW2 := hid (HW.out.next b2); clear b2))
          go_roundw
          case rel => exact ⟨j + 1, by go_num, by omega, HW2⟩
          case measure => simp [intOf]; omega
        · have hjk2 : j = k := by omega
          subst hjk2
          rw [HKO.out] at HF
          simp only [Bool.false_eq_true, if_false] at HF
          go_wp2_with (first | (go_at_call 10; refine (HF.out).mono ?_; rintro e w2 ⟨rfl, b2⟩; have HW2 := hid (HW.out.next b2); have c2 : w2.cell? ⟨r, 0, none⟩ = some (.slice ao l.length cap) := by { simp only [World.cell?, HW2.out.block r (lt_of_block HV1.out), HV1.out]; rfl }; clear b2))
          go_loopw [9, 10, 38] (fun o p i wr => ∃ (q : Nat) (b : Bool), i = .int .i64 q ∧ q ≤ l.length ∧ p = .bool b ∧ b = decide (ck < q) ∧ Hid (FRow w2.heap.size wr o (ins l ck ⟨(j : Int), 0, s⟩ q)) ∧ Hid (Below w2.heap.size w2 wr)) (fun _ _ i _ => l.length - (intOf i).toNat)
          case atStart => exact ⟨0, false, rfl, Nat.zero_le _, rfl, by simp, hid (FRow.nil _ _), hid (Below.refl _ _)⟩
          case round =>
            obtain ⟨q, b, rfl, hq, rfl, hb, HI, HX⟩ := hrel
            rename World => wr
            have hil := ins_len (l := l) (c := ck) (j := q) (y := ⟨(j : Int), 0, s⟩)
            by_cases hql : q < l.length
            · obtain ⟨gb, off, ea, hgb, hat⟩ := HC.out q hql
              subst ea
              obtain ⟨m, hm, hmo, hqm, hlq⟩ := HFL.out q _ (List.getElem?_eq_getElem hql)
              have hlow : q < ck → m < j := fun hlt => by
                have h1 : m ≠ j := fun e => by rw [e, HKO.out] at hmo; cases hmo
                by_cases h2 : m < j
                · exact h2
                · have := cnt_mono D j m (by omega)
                  have := HCK.out
                  omega
              have hhigh : ck ≤ q → j < m := fun hle => by
                have h1 : m ≠ j := fun e => by rw [e, HKO.out] at hmo; cases hmo
                by_cases h2 : m < j
                · have := cnt_lt hmo h2
                  have := HCK.out
                  omega
                · omega
              have hbl : gb < w2.heap.size := Nat.lt_of_lt_of_le hgb HW2.out.size
              have hat' := (hat.same (HW2.out.block gb hgb)).same (HX.out.block gb hbl)
              have hgr : gb < wr.heap.size := Nat.lt_of_lt_of_le hbl HX.out.size
              rw [hlq] at hat'
              obtain ⟨d0, d1, d2⟩ := hat'
              unfold fil at d0 d1 d2 hlq
              simp only [] at d0 d1 d2
              obtain ⟨pl, hpl⟩ : ∃ x, x = (D m).n := ⟨_, rfl⟩
              obtain ⟨pa, hpa⟩ : ∃ x, x = (D m).p := ⟨_, rfl⟩
              rw [← hpl] at d1 hlq
              rw [← hpa] at d2 hlq
              clear hpl hpa hat hmo hqm
              go_upto_region 14 with fail
              obtain ⟨wy, hwy⟩ : ∃ wy, wy = wr.alloc (.cells #[.int .i64 m, .int .i64 pl, .string pa] 34) := ⟨_, rfl⟩
              obtain ⟨yb, hyb⟩ : ∃ yb, yb = wr.heap.size := ⟨_, rfl⟩
              have HYB : Hid (wy.heap[yb]? = some (.cells #[.int .i64 m, .int .i64 pl, .string pa] 34 (0, 0))) := hid (by rw [hwy, hyb]; exact box_at _ _)
              have HYN : Hid (∀ x, u9.ownBlock = some x → x ≠ yb) := hid (fun x hx e => by have := (HI.out.own _ hx).2; omega)
              have HI1 : Hid (FRow w2.heap.size wy u9 (ins l ck ⟨(j : Int), 0, s⟩ q)) := hid (by rw [hwy]; exact HI.out.below (below_alloc _ _))
              have HX1 : Hid (Below w2.heap.size w2 wy) := hid (by rw [hwy]; exact HX.out.next (below_alloc _ _))
              have y0 : wy.cell? ⟨yb, 0, none⟩ = some (.int .i64 m) := by simp [World.cell?, HYB.out]
              have y1 : wy.cell? ⟨yb, 1, none⟩ = some (.int .i64 pl) := by simp [World.cell?, HYB.out]
              have y2 : wy.cell? ⟨yb, 2, none⟩ = some (.string pa) := by simp [World.cell?, HYB.out]
              rw [← hwy, ← hyb]
              clear hwy hyb d0 d1 d2
              rcases Nat.lt_trichotomy q ck with hc | hc | hc
              · obtain rfl : b = false := by rw [hb]; simp; omega
                have hmj := hlow hc
                have hgt : decide ((j : Int) < (m : Int)) = false := by simp; omega
                have HST := hid (ins_low (y := ⟨(j : Int), 0, s⟩) hql hc)
                rw [hlq] at HST
                clear hlq hlow hhigh hb
                go_wp2_with (first
                  | (at_builtin; refine appF rfl (.tmp 56) (.tmp 58) rfl w2.heap.size _ _ (ins l ck ⟨(j : Int), 0, s⟩ q) [⟨m, pl, pa⟩] rfl rfl (HI1.out.below (below_alloc _ _)) (flie_new _ _ (by simp) m pl pa) (by simp) (by simp only [List.length_cons, List.length_nil]; omega) (HX1.out.next (below_alloc _ _)).size ?_; intro v3 w3 r3 b3 _ _; have HR3 := hid r3; have HW3 := hid ((HX1.out.next (below_alloc _ _)).trans b3); clear r3 b3))
                go_roundw
                case rel => exact ⟨q + 1, false, by go_num, by omega, rfl, by simp; omega, hid (by rw [HST.out]; exact HR3.out), HW3⟩
                case measure => simp [intOf]; omega
              · subst hc
                obtain rfl : b = false := by rw [hb]; simp
                have hmj := hhigh (Nat.le_refl _)
                have hgt : decide ((j : Int) < (m : Int)) = true := by simp; omega
                have HST := hid (ins_at (y := ⟨(j : Int), 0, s⟩) hql)
                rw [hlq] at HST
                clear hlq hlow hhigh hb
                go_upto_region 16 with (first
                  | (at_builtin; refine appF rfl (.tmp 50) (.tmp 54) rfl w2.heap.size _ _ (ins l q ⟨(j : Int), 0, s⟩ q) [⟨(j : Int), 0, s⟩] rfl rfl (HI1.out.below (below_alloc _ _)) (flie_new _ _ (by simp) j 0 s) (by simp) (by simp only [List.length_cons, List.length_nil]; omega) (HX1.out.next (below_alloc _ _)).size ?_; intro v5 w5 r5 b5 k5 _))
                have HR5 := hid r5
                have HW5 := hid ((HX1.out.next (below_alloc _ _)).trans b5)
                have hylt := lt_of_block HYB.out
                have hbx := ((k5 yb (by simp; omega) (fun e => HYN.out _ e.symm rfl)).trans (Below.heap_alloc wy _ yb hylt)).trans HYB.out
                clear y0 y1 y2
                have y0 : w5.cell? ⟨yb, 0, none⟩ = some (.int .i64 m) := by simp [World.cell?, hbx]
                have y1 : w5.cell? ⟨yb, 1, none⟩ = some (.int .i64 pl) := by simp [World.cell?, hbx]
                have y2 : w5.cell? ⟨yb, 2, none⟩ = some (.string pa) := by simp [World.cell?, hbx]
                clear r5 b5 k5 hbx hylt
                go_wp2_with (first
                  | (at_builtin; refine appF rfl (.tmp 56) (.tmp 58) rfl w2.heap.size _ _ (ins l q ⟨(j : Int), 0, s⟩ q ++ [⟨(j : Int), 0, s⟩]) [⟨m, pl, pa⟩] rfl rfl (HR5.out.below (below_alloc _ _)) (flie_new _ _ (by simp) m pl pa) (by simp) (by simp only [List.length_cons, List.length_nil, List.length_append]; omega) (HW5.out.next (below_alloc _ _)).size ?_; intro v3 w3 r3 b3 _ _; have HR3 := hid r3; have HW3 := hid ((HW5.out.next (below_alloc _ _)).trans b3); clear r3 b3))
                go_roundw
                case rel => exact ⟨q + 1, true, by go_num, by omega, rfl, by simp, hid (by rw [HST.out]; exact HR3.out), HW3⟩
                case measure => simp [intOf]; omega
              · obtain rfl : b = true := by rw [hb]; simp; omega
                have hmj := hhigh (by omega)
                have HST := hid (ins_high (y := ⟨(j : Int), 0, s⟩) hql hc)
                rw [hlq] at HST
                clear hlq hlow hhigh hb
                go_wp2_with (first
                  | (at_builtin; refine appF rfl (.tmp 56) (.tmp 58) rfl w2.heap.size _ _ (ins l ck ⟨(j : Int), 0, s⟩ q) [⟨m, pl, pa⟩] rfl rfl (HI1.out.below (below_alloc _ _)) (flie_new _ _ (by simp) m pl pa) (by simp) (by simp only [List.length_cons, List.length_nil]; omega) (HX1.out.next (below_alloc _ _)).size ?_; intro v3 w3 r3 b3 _ _; have HR3 := hid r3; have HW3 := hid ((HX1.out.next (below_alloc _ _)).trans b3); clear r3 b3))
                go_roundw
                case rel => exact ⟨q + 1, true, by go_num, by omega, rfl, by simp; omega, hid (by rw [HST.out]; exact HR3.out), HW3⟩
                case measure => simp [intOf]; omega
            · have hqe : q = l.length := by omega
              have hw2r : r < w2.heap.size := by have := HW2.out.size; omega
              have c0' : ∃ v, wr.cell? ⟨r, 0, none⟩ = some v := ⟨_, by simp only [World.cell?, HX.out.block r hw2r, HW2.out.block r hrl, HV1.out]; rfl⟩
              obtain ⟨v0, c0'⟩ := c0'
              have f0 : wr.frozen? ⟨r, 0, none⟩ = false := by simp [World.frozen?, HX.out.block r hw2r, HW2.out.block r hrl, HV1.out]
              have HR0 : Hid (wr.heap[r]? = some (.cells #[.slice ao l.length cap] 28 (0, 0))) := hid (by rw [HX.out.block r hw2r, HW2.out.block r hrl, HV1.out])
              have HB2 : Hid (base ≤ w2.heap.size ∧ r < w2.heap.size) := hid ⟨Nat.le_trans hbase HW2.out.size, hw2r⟩
              have hrwr : r < wr.heap.size := lt_of_block HR0.out
              by_cases hcl : ck < l.length
              · obtain rfl : b = true := by rw [hb]; simp; omega
                have HE : Hid (ins l ck ⟨(j : Int), 0, s⟩ q = l.take ck ++ ⟨(j : Int), 0, s⟩ :: l.drop ck) := hid (by rw [hqe]; unfold ins; rw [if_neg (by omega), List.take_length])
                rw [HE.out] at HI
                clear hb hil hqe hq
                obtain ⟨ao6, cap6, hv6, _, _⟩ := HI.out.len
                subst hv6
                obtain ⟨n6, hn6⟩ : ∃ n, n = (l.take ck ++ (⟨(j : Int), 0, s⟩ : Fil) :: l.drop ck).length := ⟨_, rfl⟩
                rw [← hn6] at HI
                rw [← hn6]
                clear hn6
                go_wp2
                go_ret2
                refine ⟨rfl, ⟨_, set_at HR0.out 0 _, ?_⟩, ?_⟩
                · refine (HI.out.mono HB2.out.1).frame fun b hb => Below.heap_setCell _ _ _ _ ?_
                  have := (HI.out.own b hb).1
                  have := HB2.out.2
                  show b ≠ r
                  omega
                · exact ((KR.of_below HW2.out).trans (KR.of_below HX.out)).trans (KR.setr _ _)
              · obtain rfl : b = false := by rw [hb]; simp; omega
                have hce : ck = l.length := by omega
                have HE : Hid (ins l ck ⟨(j : Int), 0, s⟩ q ++ [⟨(j : Int), 0, s⟩] = l.take ck ++ ⟨(j : Int), 0, s⟩ :: l.drop ck) := hid (by rw [hqe]; unfold ins; rw [if_pos (by omega), List.take_of_length_le (by omega), List.take_of_length_le (by omega), List.drop_of_length_le (by omega)])
                clear hb hqe hq hcl hce c0' f0
                go_upto_region 21 with (first
                  | (at_builtin; refine appF rfl (.tmp 63) (.tmp 67) rfl w2.heap.size _ _ (ins l ck ⟨(j : Int), 0, s⟩ q) [⟨(j : Int), 0, s⟩] rfl rfl (HI.out.below (below_alloc _ _)) (flie_new _ _ (by simp) j 0 s) (by simp) (by simp only [List.length_cons, List.length_nil]; omega) (HX.out.next (below_alloc _ _)).size ?_; intro v5 w5 r5 b5 k5 _))
                rw [HE.out] at r5
                have HR5 := hid r5
                have HW5 := hid ((HX.out.next (below_alloc _ _)).trans b5)
                have HR1 := hid ((HW5.out.block r hw2r).trans ((HX.out.block r hw2r).symm.trans HR0.out))
                have c0' : ∃ v, w5.cell? ⟨r, 0, none⟩ = some v := ⟨_, by simp only [World.cell?, HR1.out]; rfl⟩
                obtain ⟨v0, c0'⟩ := c0'
                have f0 : w5.frozen? ⟨r, 0, none⟩ = false := by simp [World.frozen?, HR1.out]
                have hrw5 : r < w5.heap.size := lt_of_block HR1.out
                clear r5 b5 k5 hil
                obtain ⟨ao6, cap6, hv6, _, _⟩ := HR5.out.len
                subst hv6
                obtain ⟨n6, hn6⟩ : ∃ n, n = (l.take ck ++ (⟨(j : Int), 0, s⟩ : Fil) :: l.drop ck).length := ⟨_, rfl⟩
                rw [← hn6] at HR5
                rw [← hn6]
                clear hn6
                go_wp2
                go_ret2
                refine ⟨rfl, ⟨_, set_at HR1.out 0 _, ?_⟩, ?_⟩
                · refine (HR5.out.mono HB2.out.1).frame fun b hb => Below.heap_setCell _ _ _ _ ?_
                  have := (HR5.out.own b hb).1
                  have := HB2.out.2
                  show b ≠ r
                  omega
                · exact ((KR.of_below HW2.out).trans (KR.of_below HW5.out)).trans (KR.setr _ _)
  · have hne : (splE s.data.toList == 0) = false := by rw [beq_eq_false_iff_ne]; exact he
    simp only [if_neg he]
    obtain ⟨x, hx⟩ : ∃ x, x = splE s.data.toList := ⟨_, rfl⟩
    rw [← hx] at HS hne ⊢
    clear hx he
    go_enter Tryd.func21, Tryd.ntmps21
    go_wp2_with (first | (go_at_call 15; refine (HS.out).mono ?_; rintro e w1 ⟨v1, rfl, _, b1⟩; have HB := hid b1; clear b1))
    go_ret2
    exact ⟨rfl, (HH.out.below HB.out).ri, KR.of_below HB.out⟩
end Go.Proofs.YtnoocgodnpjnoaaDoor
