import Derived.Test.YtjnhibpebikkmaaGreatIq
namespace Go.Proofs.YtjnhibpebikkmaaGreat
open Go.RowKit Go.Maps

theorem getD_str (s : ByteArray) (i : Nat) (h : i < s.size) : s.data.toList.getD i 0 = s[i] := by
  have h' : i < s.data.toList.length := by rw [len_list]; exact h
  rw [List.getD_eq_getElem?_getD, List.getElem?_eq_getElem h']
  rfl
theorem twoN_le (l : List UInt8) (i : Nat) : 0 ≤ twoN l i ∧ twoN l i < 65536 := by
  unfold twoN
  have h1 := (l.getD i 0).toNat_lt
  have h2 := (l.getD (i + 1) 0).toNat_lt
  omega
def namV (b : ByteArray) (k : Int) : Int := if parE b k 64 = 0 then twoN b.data.toList (2 * k.toNat) else 0
theorem ext_two (b : ByteArray) (k : Nat) (hb : b.size = 128) (hk : k < 64) : (b.extract (2 * k) (2 * k + 2)).size = 2 ∧ ((fval ((b.extract (2 * k) (2 * k + 2)).data.toList.take 2) : Nat) : Int) = twoN b.data.toList (2 * k) := by
  have hs : (b.extract (2 * k) (2 * k + 2)).size = 2 := by simp; omega
  refine ⟨hs, ?_⟩
  have h1 : 2 * k < b.data.toList.length := by rw [len_list]; omega
  have h2 : 2 * k + 1 < b.data.toList.length := by rw [len_list]; omega
  have e : (b.extract (2 * k) (2 * k + 2)).data.toList = [b.data.toList[2 * k], b.data.toList[2 * k + 1]] := by
    rw [ext_list, List.drop_take, show 2 * k + 2 - 2 * k = 2 by omega, List.drop_eq_getElem_cons h1, List.drop_eq_getElem_cons h2]
    rfl
  rw [e]
  unfold twoN
  rw [List.getD_eq_getElem?_getD, List.getD_eq_getElem?_getD, List.getElem?_eq_getElem h1, List.getElem?_eq_getElem h2]
  simp [fval]
theorem par_ok {b : ByteArray} {k m : Int} (h : parE b k m = 0) : b.size = 128 ∧ ∃ n : Nat, k = n ∧ (n : Int) < m := by
  rcases par_cases b k m with ⟨_, e⟩ | ⟨h', ⟨_, e⟩ | ⟨_, _, e⟩ | ⟨n, rfl, h1, _⟩⟩
  · omega
  · omega
  · omega
  · exact ⟨h', n, rfl, h1⟩
set_option maxRecDepth 100000 in
theorem name_any (b : ByteArray) (k : Int) (w : World) : Calls Tryz.prog 84 #[.string b, .int .i64 k] w fun e w' => e = .returned (.tuple #[.int .i64 (namV b k), .int .i64 (parE b k 64)]) ∧ Below w.heap.size w w' := by
  have HC := hid (checkPart_any b k 64)
  by_cases h : parE b k 64 = 0
  · unfold namV
    rw [if_pos h, h]
    rw [h] at HC
    obtain ⟨hb, n, rfl, hn⟩ := par_ok h
    have HP := hid (part2 b n hb (by omega))
    obtain ⟨hs, hv⟩ := ext_two b n hb (by omega)
    rw [show ((n : Int)).toNat = n from rfl, ← hv]
    obtain ⟨u, hu⟩ : ∃ u, u = b.extract (2 * n) (2 * n + 2) := ⟨_, rfl⟩
    rw [← hu] at HP hs ⊢
    have HF := hid (fun g w h => fixedr_ok g u 2 (by decide) (by omega) (by decide) (by unfold maxLen; omega) (by have := fval_lt (u.data.toList.take 2); rw [List.length_take, len_list, hs] at this; exact Nat.lt_trans this (by decide)) w h)
    have HO := hid of_any
    have HRN := hid RIs.new
    clear h hu hv
    obtain ⟨x, hx⟩ : ∃ x, x = fval (u.data.toList.take 2) := ⟨_, rfl⟩
    rw [← hx] at HF ⊢
    clear hx
    go_enter Tryz.func84, Tryz.ntmps84
    go_wp2_with (first
      | (go_at_call 68; refine (HC.out _).mono ?_; rintro e w1 ⟨rfl, rfl⟩)
      | (go_at_call 70; refine (HP.out _).mono ?_; rintro e w2 ⟨rfl, rfl⟩)
      | (go_at_call 91; refine (HO.out _ _).mono ?_; rintro e w3 ⟨rfl, rfl⟩)
      | (go_at_call 92; refine (HF.out _ _ (HRN.out _ _)).mono ?_; rintro e w4 ⟨rfl, _, hk4⟩))
    go_ret2
    exact ⟨rfl, (below_alloc _ _).trans (hk4.below (by simp) (Nat.le_refl _))⟩
  · unfold namV
    rw [if_neg h]
    obtain ⟨e, he⟩ : ∃ e, e = parE b k 64 := ⟨_, rfl⟩
    rw [← he] at HC h ⊢
    clear he
    go_enter Tryz.func84, Tryz.ntmps84
    go_wp2_with (first | (go_at_call 68; refine (HC.out _).mono ?_; rintro e w1 ⟨rfl, rfl⟩))
    go_ret2
    exact ⟨rfl, Below.refl _ _⟩
/-- what Rename answers -/
def renE (b : ByteArray) (k tt : Int) : Int := if parE b k 64 = 0 then (if okN tt then 0 else 1) else parE b k 64
def renV (b : ByteArray) (k tt : Int) : ByteArray := if renE b k tt = 0 then b.extract 0 (2 * k.toNat) ++ st (fEnc tt.toNat 2) ++ b.extract (2 * k.toNat + 2) 128 else ByteArray.empty
set_option maxRecDepth 100000 in
set_option maxHeartbeats 1000000 in
theorem rename_any (b : ByteArray) (k tt : Int) (w : World) : Calls Tryz.prog 112 #[.string b, .int .i64 k, .int .i64 tt] w fun e w' => e = .returned (.tuple #[.string (renV b k tt), .int .i64 (renE b k tt)]) ∧ Below w.heap.size w w' := by
  have HC := hid (checkPart_any b k 64)
  by_cases h : parE b k 64 = 0
  · rw [h] at HC
    have HN := hid (isName_any tt)
    cases h2 : okN tt with
    | false =>
      have e1 : renE b k tt = 1 := by unfold renE; rw [if_pos h, h2]; rfl
      have e2 : renV b k tt = ByteArray.empty := by unfold renV; rw [e1]; rfl
      rw [e1, e2]
      rw [h2] at HN
      clear e1 e2 h h2
      go_enter Tryz.func112, Tryz.ntmps112
      go_wp2_with (first
        | (go_at_call 68; refine (HC.out _).mono ?_; rintro e w1 ⟨rfl, rfl⟩)
        | (go_at_call 85; refine (HN.out _).mono ?_; rintro e w2 ⟨rfl, rfl⟩))
      go_ret2
      exact ⟨rfl, Below.refl _ _⟩
    | true =>
      have e1 : renE b k tt = 0 := by unfold renE; rw [if_pos h, h2]; rfl
      obtain ⟨hb, n, rfl, hn⟩ := par_ok h
      have h3 := okN_le h2
      obtain ⟨t, rfl⟩ : ∃ t : Nat, tt = t := ⟨tt.toNat, by omega⟩
      have e2 : renV b n t = b.extract 0 (n * 2) ++ st ([] ++ fEnc t 2) ++ b.extract ((n + 1) * 2) 128 := by
        unfold renV
        rw [if_pos e1, List.nil_append, show n * 2 = 2 * n by omega, show (n + 1) * 2 = 2 * n + 2 by omega]
        rfl
      rw [e1, e2]
      rw [h2] at HN
      have hsz : (st ([] ++ fEnc t 2)).size = 2 := by rw [st_size, List.nil_append, fEnc_len]
      have HW := hid (with_any b (st ([] ++ fEnc t 2)) n 2 hb hsz (by decide) (by omega))
      have HF := hid (fun base g w hw hbase => fixed_w base g t 2 [] (by omega) (by decide) (fitsN (.inr (.inl rfl)) (by omega)) (by simp) w hw hbase)
      obtain ⟨R, hR⟩ : ∃ R, R = b.extract 0 (n * 2) ++ st ([] ++ fEnc t 2) ++ b.extract ((n + 1) * 2) 128 := ⟨_, rfl⟩
      rw [← hR] at HW ⊢
      obtain ⟨u, hu⟩ : ∃ u, st ([] ++ fEnc t 2) = u := ⟨_, rfl⟩
      rw [hu] at HW
      have HU := hid hu
      have HNW := hid new_any
      clear hR hu e1 e2 h h2 hsz
      go_enter Tryz.func112, Tryz.ntmps112
      go_wp2_with (first
        | (go_at_call 68; refine (HC.out _).mono ?_; rintro e w1 ⟨rfl, rfl⟩)
        | (go_at_call 85; refine (HN.out _).mono ?_; rintro e w ⟨rfl, rfl⟩)
        | (go_at_call 108; refine (HNW.out _).mono ?_; rintro e w3 ⟨rfl, rfl⟩)
        | (go_at_call 109; refine (HF.out w.heap.size w.heap.size _ (WIs.new w _) (by simp)).mono ?_; rintro e w4 ⟨rfl, hw4, hk4⟩; have HW4 := hid hw4; have HK4 := hid hk4; clear hw4 hk4)
        | (go_at_call 110; refine (out_is _ _ _ _ HW4.out u HU.out).mono ?_; rintro e w5 ⟨rfl, hw5⟩; rw [← hw5] at HK4; clear hw5)
        | (go_at_call 80; refine (HW.out _).mono ?_; rintro e w6 ⟨rfl, m, rfl⟩))
      go_ret2
      exact ⟨rfl, ((below_alloc w _).trans (HK4.out.below (Nat.le_refl _) (Nat.le_refl _))).dN _⟩
  · have e1 : renE b k tt = parE b k 64 := by unfold renE; rw [if_neg h]
    have e2 : renV b k tt = ByteArray.empty := by unfold renV; rw [e1, if_neg h]
    rw [e1, e2]
    obtain ⟨e, he⟩ : ∃ e, e = parE b k 64 := ⟨_, rfl⟩
    rw [← he] at HC h ⊢
    clear he e1 e2
    go_enter Tryz.func112, Tryz.ntmps112
    go_wp2_with (first | (go_at_call 68; refine (HC.out _).mono ?_; rintro e w1 ⟨rfl, rfl⟩))
    go_ret2
    exact ⟨rfl, Below.refl _ _⟩
end Go.Proofs.YtjnhibpebikkmaaGreat
