import Derived.Test.YtopebghandojbaaGreatHsf
import Derived.BigRegion
import Derived.Deep.DeepCutAuto
namespace Go.Proofs.YtopebghandojbaaGreat.Sh
open Go.RowKit

set_option maxRecDepth 100000 in
set_option maxHeartbeats 1000000 in
theorem refRead_e (b : ByteArray) (hb : b.size ≤ 150000000000000) (h : (unV b).2 ≠ 0) (w : World) : Calls Tryz.prog 57 #[.string b] w fun e w' => e = .returned (.tuple #[zero3, .int .i64 60]) ∧ Below w.heap.size w w' := by
  have HU := hid (fun w => refUnblock b hb w)
  obtain ⟨t, ht⟩ : ∃ t, t = (unV b).1 := ⟨_, rfl⟩
  obtain ⟨e, he⟩ : ∃ e, e = (unV b).2 := ⟨_, rfl⟩
  rw [← ht, ← he] at HU
  rw [← he] at h
  have he' : (e != 0) = true := by simp [h]
  clear ht he h
  unfold zero3
  go_enter Tryz.func57, Tryz.ntmps57
  go_wp2_with (first
    | (go_at_call 107; refine (HU.out _).mono ?_; rintro e w1 ⟨rfl, hb1⟩; have HV := hid (var_a hb1); have HB := hid ((below_alloc _ _).next hb1); clear hb1; obtain ⟨q0, q1, q2⟩ := three_cells HV.out; have hfr := frees HV.out))
  refine bodyPost_ret (v := .tuple #[.agg #[.int .i64 0, .int .i64 0, .int .i64 0], .int .i64 60]) (by simp [results, Tryz.results57, go_sem, q0, q1, q2]) rfl ⟨rfl, set3 HB.out (Nat.le_refl _) _ _ _⟩
set_option maxRecDepth 100000 in
set_option maxHeartbeats 1000000 in
theorem refRead_len (b t : ByteArray) (hb : b.size ≤ 150000000000000) (h : unV b = (t, 0)) (hn : t.size ≠ 10) (w : World) : Calls Tryz.prog 57 #[.string b] w fun e w' => e = .returned (.tuple #[zero3, .int .i64 60]) ∧ Below w.heap.size w w' := by
  have HU := hid (fun w => refUnblock b hb w)
  rw [h] at HU
  simp only at HU
  have hn' : ((t.size : Int) == 10) = false := by simp; omega
  clear h hn
  unfold zero3
  go_enter Tryz.func57, Tryz.ntmps57
  go_wp2_with (first
    | (go_at_call 107; refine (HU.out _).mono ?_; rintro e w1 ⟨rfl, hb1⟩; have HV := hid (var_a hb1); have HB := hid ((below_alloc _ _).next hb1); clear hb1; obtain ⟨q0, q1, q2⟩ := three_cells HV.out; have hfr := frees HV.out))
  refine bodyPost_ret (v := .tuple #[.agg #[.int .i64 0, .int .i64 0, .int .i64 0], .int .i64 60]) (by simp [results, Tryz.results57, go_sem, q0, q1, q2]) rfl ⟨rfl, set3 HB.out (Nat.le_refl _) _ _ _⟩
open Go.RowKit

theorem ten (t : ByteArray) (h : t.size = 10) : t.data.toList = [t[0], t[1], t[2], t[3], t[4], t[5], t[6], t[7], t[8], t[9]] := by
  apply List.ext_getElem
  · show t.data.toList.length = 10
    rw [len_list, h]
  · intro i h1 h2
    match i, h2 with
    | 0, _ => rfl
    | 1, _ => rfl
    | 2, _ => rfl
    | 3, _ => rfl
    | 4, _ => rfl
    | 5, _ => rfl
    | 6, _ => rfl
    | 7, _ => rfl
    | 8, _ => rfl
    | 9, _ => rfl
    | n + 10, h2 => exact absurd h2 (by simp)
def num2 (a b : UInt8) : Nat := a.toNat + 256 * b.toNat
theorem num2_w (a b : UInt8) : wrap64 (wrap64 (a.toNat : Int) + wrap64 (256 * wrap64 (b.toNat : Int))) = (num2 a b : Int) := by
  unfold num2 wrap64
  have := a.toNat_lt; have := b.toNat_lt
  omega
theorem num2_x (x : Nat) (hx : x < 65536) (a b : UInt8) (h : fEnc x 2 = [a, b]) : num2 a b = x := by
  have k := big_fEnc 2 x (by omega)
  rw [h, ← fval_big] at k
  rw [← k]
  unfold num2 fval fval fval; omega
set_option maxRecDepth 100000 in
set_option maxHeartbeats 4000000 in
theorem refRead_ten (b t again : ByteArray) (f : Int) (x y z : Nat) (hb : b.size ≤ 150000000000000) (h : unV b = (t, 0)) (hn : t.size = 10)
    (hx : x = num2 t[4] t[5]) (hy : y = num2 t[6] t[7]) (hz : z = num2 t[8] t[9]) (hS : ∀ w, Calls Tryz.prog 46 #[.agg #[.int .i64 x, .int .i64 y, .int .i64 z]] w fun e w' => e = .returned (.tuple #[.string again, .int .i64 f]) ∧ Below w.heap.size w w')
    (R : Value) (hR1 : f = 0 → again = b → R = .tuple #[.agg #[.int .i64 x, .int .i64 y, .int .i64 z], .int .i64 0]) (hR2 : ¬ (f = 0 ∧ again = b) → R = .tuple #[.agg #[.int .i64 0, .int .i64 0, .int .i64 0], .int .i64 60]) (w : World) : Calls Tryz.prog 57 #[.string b] w fun e w' => e = .returned R ∧ Below w.heap.size w w' := by
  have HR1 := hid hR1
  have HR2 := hid hR2
  clear hR1 hR2
  have HU := hid (fun w => refUnblock b hb w)
  rw [h] at HU
  simp only at HU
  clear h
  have hn' : ((t.size : Int) == 10) = true := by simp; omega
  have h4 : 4 < t.size := by omega
  have h5 : 5 < t.size := by omega
  have h6 : 6 < t.size := by omega
  have h7 : 7 < t.size := by omega
  have h8 : 8 < t.size := by omega
  have h9 : 9 < t.size := by omega
  have HX := hid (num2_w (t[4]'h4) (t[5]'h5))
  have HY := hid (num2_w (t[6]'h6) (t[7]'h7))
  have HZ := hid (num2_w (t[8]'h8) (t[9]'h9))
  rw [← hx] at HX
  rw [← hy] at HY
  rw [← hz] at HZ
  have hx4 : (4 : Int) < (t.size : Int) := by omega
  have hx5 : (5 : Int) < (t.size : Int) := by omega
  have hx6 : (6 : Int) < (t.size : Int) := by omega
  have hx7 : (7 : Int) < (t.size : Int) := by omega
  have hx8 : (8 : Int) < (t.size : Int) := by omega
  have hx9 : (9 : Int) < (t.size : Int) := by omega
  have HSS := hid hS
  clear hn hx hy hz hS
  go_enter Tryz.func57, Tryz.ntmps57
  go_wp2_with (first
    | (go_at_call 107; refine (HU.out _).mono ?_; rintro e w1 ⟨rfl, hb1⟩; have HV := hid (var_a hb1); have HB := hid ((below_alloc _ _).next hb1); clear hb1))
  clear HU
  have hl1 := lt_of_block HV.out
  go_cut [6] (fun v wx => v = .pointer (some ⟨w1.heap.size, 0, none⟩) ∧ wx = (w1.alloc (.cells #[.int .i64 x, .int .i64 y, .int .i64 z] 23)).drew)
  case first =>
    go_region
    all_goals
      rw [HX.out, HY.out, HZ.out]
      go_wp2
      go_meet
      exact ⟨rfl, rfl⟩
  case rest =>
    obtain ⟨rfl, rfl⟩ := hcut
    clear HX HY HZ hx4 hx5 hx6 hx7 hx8 hx9 h4 h5 h6 h7 h8 h9 hn'
    by_cases hf : f = 0
    · subst hf
      by_cases ha : again = b
      · subst ha
        have HR := hid (HR1.out rfl rfl)
        clear HR1 HR2
        go_wp2_with (first
          | (go_at_call 46; refine (HSS.out _).mono ?_; rintro e w8 ⟨rfl, hb8⟩; have HV8 := hid ((hb8.block _ (by show _ < (w1.heap.push _).size; simp; omega)).trans ((Below.heap_alloc w1 _ _ hl1).trans HV.out)); have HX8 := hid (var_ad hb8); have HB8 := hid (HB.out.next (bel_ad hb8)); obtain ⟨q0, q1, q2⟩ := three_cells HV8.out; have hfr := frees HV8.out; obtain ⟨r0, r1, r2⟩ := three_cells HX8.out; clear hb8))
        refine bodyPost_ret (v := .tuple #[.agg #[.int .i64 x, .int .i64 y, .int .i64 z], .int .i64 0]) (by simp [results, Tryz.results57, go_sem, q0, q1, q2]) rfl ⟨by rw [HR.out], set3 HB8.out (Nat.le_refl _) _ _ _⟩
      · have HR := hid (HR2.out (fun k => ha k.2))
        clear HR1 HR2
        have hne := str_ne ha
        clear ha
        go_wp2_with (first
          | (go_at_call 46; refine (HSS.out _).mono ?_; rintro e w8 ⟨rfl, hb8⟩; have HV8 := hid ((hb8.block _ (by show _ < (w1.heap.push _).size; simp; omega)).trans ((Below.heap_alloc w1 _ _ hl1).trans HV.out)); have HX8 := hid (var_ad hb8); have HB8 := hid (HB.out.next (bel_ad hb8)); obtain ⟨q0, q1, q2⟩ := three_cells HV8.out; have hfr := frees HV8.out; obtain ⟨r0, r1, r2⟩ := three_cells HX8.out; clear hb8))
        refine bodyPost_ret (v := .tuple #[.agg #[.int .i64 0, .int .i64 0, .int .i64 0], .int .i64 60]) (by simp [results, Tryz.results57, go_sem, q0, q1, q2]) rfl ⟨by rw [HR.out], set3 HB8.out (Nat.le_refl _) _ _ _⟩
    · have HR := hid (HR2.out (fun k => hf k.1))
      clear HR1 HR2
      have hf' : (f != 0) = true := by simp [hf]
      clear hf
      go_wp2_with (first
        | (go_at_call 46; refine (HSS.out _).mono ?_; rintro e w8 ⟨rfl, hb8⟩; have HV8 := hid ((hb8.block _ (by show _ < (w1.heap.push _).size; simp; omega)).trans ((Below.heap_alloc w1 _ _ hl1).trans HV.out)); have HX8 := hid (var_ad hb8); have HB8 := hid (HB.out.next (bel_ad hb8)); obtain ⟨q0, q1, q2⟩ := three_cells HV8.out; have hfr := frees HV8.out; obtain ⟨r0, r1, r2⟩ := three_cells HX8.out; clear hb8))
      refine bodyPost_ret (v := .tuple #[.agg #[.int .i64 0, .int .i64 0, .int .i64 0], .int .i64 60]) (by simp [results, Tryz.results57, go_sem, q0, q1, q2]) rfl ⟨by rw [HR.out], set3 HB8.out (Nat.le_refl _) _ _ _⟩
theorem refRead_ok (b : ByteArray) (x y z : Nat) (hb : b.size ≤ 150000000000000) (h : okR b x y z) (w : World) : Calls Tryz.prog 57 #[.string b] w fun e w' => e = .returned (.tuple #[.agg #[.int .i64 x, .int .i64 y, .int .i64 z], .int .i64 0]) ∧ Below w.heap.size w w' := by
  obtain ⟨h1, h2⟩ := h
  have hx : x < 65536 := by have := h2.1.1.2; omega
  have hy : y < 65536 := by have := h2.1.2.1.2; omega
  have hz : z < 65536 := by have := h2.1.2.2.2; omega
  obtain ⟨t, ht⟩ : ∃ t, t = st (superL x y z) := ⟨_, rfl⟩
  have hs : t.size = 10 := by rw [ht, st_size, superL_len]
  have hl : t.data.toList = [99, 97, 114, 116] ++ (fEnc x 2 ++ fEnc y 2 ++ fEnc z 2) := by rw [ht, st_list, superL]
  have hk := un_back b (by rw [h1])
  rw [h1] at hk
  simp only [st_list] at hk
  rw [← ht] at h1
  rw [ten t hs] at hl
  obtain ⟨a1, a2, ha⟩ : ∃ a1 a2, fEnc x 2 = [a1, a2] := ⟨_, _, rfl⟩
  obtain ⟨b1, b2, hbb⟩ : ∃ a1 a2, fEnc y 2 = [a1, a2] := ⟨_, _, rfl⟩
  obtain ⟨c1, c2, hc⟩ : ∃ a1 a2, fEnc z 2 = [a1, a2] := ⟨_, _, rfl⟩
  rw [ha, hbb, hc] at hl
  simp at hl
  obtain ⟨_, _, _, _, e4, e5, e6, e7, e8, e9⟩ := hl
  have k := refRead_ten b t (superS x y z) 0 x y z hb h1 hs (by rw [e4, e5, num2_x x hx _ _ ha]) (by rw [e6, e7, num2_x y hy _ _ hbb]) (by rw [e8, e9, num2_x z hz _ _ hc]) (fun w => refSuper_ok x y z h2 w) _ (fun _ _ => rfl) (fun hh => absurd ⟨rfl, hk.1⟩ hh) w
  exact k
theorem refRead_bad (b : ByteArray) (hb : b.size ≤ 150000000000000) (h : ¬ ∃ x y z, okR b x y z) (w : World) : Calls Tryz.prog 57 #[.string b] w fun e w' => e = .returned (.tuple #[zero3, .int .i64 60]) ∧ Below w.heap.size w w' := by
  by_cases h1 : (unV b).2 ≠ 0
  · exact refRead_e b hb h1 w
  · have h1 : (unV b).2 = 0 := by omega
    obtain ⟨t, ht⟩ : ∃ t, unV b = (t, 0) := ⟨(unV b).1, by rw [← h1]⟩
    by_cases hs : t.size = 10
    · by_cases ho : okS (num2 t[4] t[5]) (num2 t[6] t[7]) (num2 t[8] t[9])
      · refine refRead_ten b t _ 0 _ _ _ hb ht hs rfl rfl rfl (fun w => refSuper_ok _ _ _ ho w) _ (fun _ he => ?_) (fun _ => rfl) w
        refine absurd ⟨_, _, _, ?_, ho⟩ h
        rw [← he, superS, un_block _ (by rw [superL_len]; decide)]
      · exact refRead_ten b t _ 60 _ _ _ hb ht hs rfl rfl rfl (fun w => refSuper_bad _ _ _ ho w) _ (fun e => absurd e (by decide)) (fun _ => rfl) w
    · exact refRead_len b t hb ht hs w
end Go.Proofs.YtopebghandojbaaGreat.Sh
