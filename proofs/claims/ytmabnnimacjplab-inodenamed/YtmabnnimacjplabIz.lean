import Derived.Test.YtmabnnimacjplabIr
namespace Go.Proofs.Ytmabnnimacjplab
open Go.RowKit Go.Maps

theorem ren_size (b : ByteArray) (k t : Nat) (hb : b.size = 128) (hk : k < 64) : (b.extract 0 (2 * k) ++ st (fEnc t 2) ++ b.extract (2 * k + 2) 128).size = 128 := by
  have h1 : (b.extract 0 (2 * k)).size = 2 * k := by simp; omega
  have h2 : (b.extract (2 * k + 2) 128).size = 126 - 2 * k := by simp; omega
  rw [ByteArray.size_append, ByteArray.size_append, h1, h2, st_size, fEnc_len]
  omega
theorem cat_l (a b : ByteArray) : (a ++ b).data.toList = a.data.toList ++ b.data.toList := by simp
theorem ren_list (b : ByteArray) (k t : Nat) (hb : b.size = 128) (_hk : k < 64) : (b.extract 0 (2 * k) ++ st (fEnc t 2) ++ b.extract (2 * k + 2) 128).data.toList = b.data.toList.take (2 * k) ++ (fEnc t 2 ++ b.data.toList.drop (2 * k + 2)) := by
  have hl := len_list b
  rw [cat_l, cat_l, ext_list, ext_list, st_list, List.drop_zero, List.take_of_length_le (l := b.data.toList) (i := 128) (by omega), List.append_assoc]
theorem ren_getD (b : ByteArray) (k t j : Nat) (hb : b.size = 128) (hk : k < 64) (_hj : j < 128) : (b.data.toList.take (2 * k) ++ (fEnc t 2 ++ b.data.toList.drop (2 * k + 2))).getD j 0 = if j < 2 * k then b.data.toList.getD j 0 else if j < 2 * k + 2 then (fEnc t 2).getD (j - 2 * k) 0 else b.data.toList.getD j 0 := by
  have hl := len_list b
  have hA : (b.data.toList.take (2 * k)).length = 2 * k := by rw [List.length_take]; omega
  have hE := fEnc_len 2 t
  simp only [List.getD_eq_getElem?_getD]
  by_cases h1 : j < 2 * k
  · rw [if_pos h1, List.getElem?_append_left (by omega), List.getElem?_take_of_lt h1]
  · rw [if_neg h1, List.getElem?_append_right (by omega), hA]
    by_cases h2 : j < 2 * k + 2
    · rw [if_pos h2, List.getElem?_append_left (by omega)]
    · rw [if_neg h2, List.getElem?_append_right (by omega), hE, List.getElem?_drop, show 2 * k + 2 + (j - 2 * k - 2) = j by omega]
theorem ren_two (b : ByteArray) (k t i : Nat) (hb : b.size = 128) (hk : k < 64) (ht : t < 1024) (hi : i < 64) : twoN (b.data.toList.take (2 * k) ++ (fEnc t 2 ++ b.data.toList.drop (2 * k + 2))) (2 * i) = if i = k then (t : Int) else twoN b.data.toList (2 * i) := by
  unfold twoN
  rw [ren_getD b k t (2 * i) hb hk (by omega), ren_getD b k t (2 * i + 1) hb hk (by omega)]
  by_cases h : i = k
  · subst h
    rw [if_pos rfl, if_neg (by omega), if_pos (by omega), if_neg (by omega), if_pos (by omega), Nat.sub_self, show 2 * i + 1 - 2 * i = 1 by omega]
    simp only [fEnc, List.getD_cons_zero, List.getD_cons_succ, UInt8.toNat_ofNat']
    omega
  · rw [if_neg h]
    by_cases h2 : i < k
    · rw [if_pos (by omega), if_pos (by omega)]
    · rw [if_neg (by omega), if_neg (by omega), if_neg (by omega), if_neg (by omega)]
theorem par64 {b : ByteArray} {i : Nat} (hb : b.size = 128) (hi : i < 64) : parE b i 64 = 0 := by unfold parE; rw [if_pos hb, if_pos (by omega)]
set_option maxRecDepth 100000 in
theorem named_no (b : ByteArray) (k tt : Int) (h : renE b k tt ≠ 0) (w : World) : Calls Try.prog 3 #[.string b, .int .i64 k, .int .i64 tt] w fun e w' => e = .returned (.bool true) ∧ Below w.heap.size w w' := by
  have HR := hid (rename_any b k tt)
  have HS := hid speaks_any
  rw [show renV b k tt = ByteArray.empty by unfold renV; rw [if_neg h]] at HR
  obtain ⟨e, he⟩ : ∃ e, e = renE b k tt := ⟨_, rfl⟩
  rw [← he] at HR h
  clear he
  go_enter Try.func3, Try.ntmps3
  go_wp2_with (first
    | (go_at_call 4; refine (HR.out _).mono ?_; rintro x w1 ⟨rfl, hb1⟩)
    | (go_at_call 5; refine (HS.out _).mono ?_; rintro x w2 ⟨rfl, hb2⟩))
  go_ret
  exact ⟨rfl, hb1.next hb2⟩
set_option maxRecDepth 100000 in
set_option maxHeartbeats 1000000 in
theorem named_go (b c : ByteArray) (k t : Nat) (hk : k < 64) (_ht : t < 1024) (hc : c.size = 128) (g : Nat → Int) (hR : ∀ w, Calls Try.prog 4 #[.string b, .int .i64 k, .int .i64 t] w fun e w' => e = .returned (.tuple #[.string c, .int .i64 0]) ∧ Below w.heap.size w w')
    (hB : ∀ i : Nat, i < 64 → ∀ w, Calls Try.prog 6 #[.string b, .int .i64 i] w fun e w' => e = .returned (.tuple #[.int .i64 (g i), .int .i64 0]) ∧ Below w.heap.size w w')
    (hC : ∀ i : Nat, i < 64 → ∀ w, Calls Try.prog 6 #[.string c, .int .i64 i] w fun e w' => e = .returned (.tuple #[.int .i64 (if i = k then (t : Int) else g i), .int .i64 0]) ∧ Below w.heap.size w w') (w : World) :
    Calls Try.prog 3 #[.string b, .int .i64 k, .int .i64 t] w fun e w' => e = .returned (.bool true) ∧ Below w.heap.size w w' := by
  have HR := hid hR
  have HB := hid hB
  have HC := hid hC
  have HS := hid speaks_any
  clear hR hB hC
  go_enter Try.func3, Try.ntmps3
  go_wp2_with (first | (go_at_call 4; refine (HR.out _).mono ?_; rintro x w1 ⟨rfl, hb1⟩))
  go_loopw [9] (fun i wr => ∃ j : Nat, i = .int .i64 j ∧ j ≤ 64 ∧ Below w.heap.size w wr) (fun i _ => 64 - (intOf i).toNat)
  case atStart => exact ⟨0, rfl, by decide, hb1⟩
  case round =>
    obtain ⟨j, rfl, hj, hbr⟩ := hrel
    have HW := hid hbr
    clear hbr hb1
    by_cases hlt : j < 64
    · have HBj := hid (HB.out j hlt)
      have HCj := hid (HC.out j hlt)
      have tk : Hid True := trivial
      by_cases hjk : j = k
      · rw [if_pos hjk] at HCj
        obtain ⟨x, hx⟩ : ∃ x, x = g j := ⟨_, rfl⟩
        rw [← hx] at HBj
        subst hjk
        clear hx
        go_wp2_with (first
          | (go_at_call 6; clear tk; refine (HBj.out _).mono ?_; rintro x w2 ⟨rfl, hb2⟩; replace HW := hid (HW.out.next hb2); clear hb2)
          | (go_at_call 6; refine (HCj.out _).mono ?_; rintro x w3 ⟨rfl, hb3⟩; replace HW := hid (HW.out.next hb3); clear hb3))
        go_roundw
        case rel => exact ⟨j + 1, by go_num, by omega, HW.out⟩
        case measure => simp [intOf]; omega
      · rw [if_neg hjk] at HCj
        obtain ⟨x, hx⟩ : ∃ x, x = g j := ⟨_, rfl⟩
        rw [← hx] at HBj HCj
        have hne : ((j : Int) == (k : Int)) = false := by simp; omega
        clear hx
        go_wp2_with (first
          | (go_at_call 6; clear tk; refine (HBj.out _).mono ?_; rintro x w2 ⟨rfl, hb2⟩; replace HW := hid (HW.out.next hb2); clear hb2)
          | (go_at_call 6; refine (HCj.out _).mono ?_; rintro x w3 ⟨rfl, hb3⟩; replace HW := hid (HW.out.next hb3); clear hb3))
        go_roundw
        case rel => exact ⟨j + 1, by go_num, by omega, HW.out⟩
        case measure => simp [intOf]; omega
    · go_wp2_with (first | (go_at_call 5; refine (HS.out _).mono ?_; rintro x w4 ⟨rfl, hb4⟩))
      go_ret
      exact ⟨rfl, HW.out.next hb4⟩
theorem named_walk (b : ByteArray) (k tt : Int) (w : World) : Calls Try.prog 3 #[.string b, .int .i64 k, .int .i64 tt] w fun e w' => e = .returned (.bool true) ∧ Below w.heap.size w w' := by
  by_cases h : renE b k tt = 0
  · have hp : parE b k 64 = 0 ∧ okN tt = true := by
      unfold renE at h
      split at h
      · rename_i h1
        split at h
        · rename_i h2; exact ⟨h1, h2⟩
        · cases h
      · rename_i h1; exact absurd h h1
    obtain ⟨hb, i, rfl, hi⟩ := par_ok hp.1
    have h3 := okN_le hp.2
    obtain ⟨t, rfl⟩ : ∃ t : Nat, tt = t := ⟨tt.toNat, by omega⟩
    have HR := rename_any b i t
    have hv : renV b i t = b.extract 0 (2 * i) ++ st (fEnc t 2) ++ b.extract (2 * i + 2) 128 := by
      unfold renV
      rw [if_pos h]
      rfl
    rw [h, hv] at HR
    have hcs := ren_size b i t hb (by omega)
    have hcl := ren_list b i t hb (by omega)
    obtain ⟨c, hc⟩ : ∃ c, c = b.extract 0 (2 * i) ++ st (fEnc t 2) ++ b.extract (2 * i + 2) 128 := ⟨_, rfl⟩
    rw [← hc] at HR hcs hcl
    refine named_go b c i t (by omega) (by omega) hcs (fun j => twoN b.data.toList (2 * j)) HR (fun j hj => ?_) (fun j hj => ?_) w
    · have := name_any b j
      unfold namV at this
      rw [par64 hb hj, if_pos rfl] at this
      exact this
    · have := name_any c j
      unfold namV at this
      rw [par64 hcs hj, if_pos rfl, hcl, show ((j : Int)).toNat = j from rfl, ren_two b i t j hb (by omega) (by omega) hj] at this
      exact this
  · exact named_no b k tt h w
end Go.Proofs.Ytmabnnimacjplab
