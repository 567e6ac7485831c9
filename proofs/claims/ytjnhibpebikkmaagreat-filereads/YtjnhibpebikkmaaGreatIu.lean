import Derived.Test.YtjnhibpebikkmaaGreatIr
namespace Go.Proofs.YtjnhibpebikkmaaGreat
open Go.RowKit Go.Maps

def getI (b : ByteArray) (k : Int) : Ino := if parE b k 4 = 0 then decI (b.extract (32 * k.toNat) (32 * k.toNat + 32)).data.toList else Ino.zero
def getE (b : ByteArray) (k : Int) : Int := if parE b k 4 = 0 then decE (b.extract (32 * k.toNat) (32 * k.toNat + 32)).data.toList else parE b k 4
theorem ret16 {a : Act} {w : World} {R : Nat} {m : Ino} {e : Int} {post : Ending → World → Prop} (hb : Box R w m) (h2 : a.tmps.getD 4 undef = .pointer (some ⟨R, 0, none⟩)) (h3 : a.tmps.getD 5 undef = .int .i64 e) (hd : a.defers = []) (hp : post (.returned (.tuple #[m.v, .int .i64 e])) w) : bodyPost Tryz.prog Tryz.f43 post .ret a w := by
  refine bodyPost_ret (v := .tuple #[m.v, .int .i64 e]) ?_ hd hp
  rw [results_cell_tmp (p := 4) (u := 5) (ty := 33) rfl, h2, h3]
  simp [asAddr, Result.andThen, load24 hb]
set_option maxRecDepth 100000 in
set_option maxHeartbeats 1000000 in
theorem get_any (b : ByteArray) (k : Int) (w : World) : Calls Tryz.prog 43 #[.string b, .int .i64 k] w fun e w' => e = .returned (.tuple #[(getI b k).v, .int .i64 (getE b k)]) ∧ Below w.heap.size w w' := by
  have HC := hid (checkPart_any b k 4)
  have HB0 : Hid (Box w.heap.size (w.alloc (.cells #[.int .i64 0, .int .i64 0, .int .i64 0, .int .i64 0, .int .i64 0, .int .i64 0, .int .i64 0, .int .i64 0, .int .i64 0, .int .i64 0, .int .i64 0] 33)) Ino.zero) := box_at _ _
  by_cases h : parE b k 4 = 0
  · have e1 : getI b k = decI (b.extract (32 * k.toNat) (32 * k.toNat + 32)).data.toList := by unfold getI; rw [if_pos h]
    have e2 : getE b k = decE (b.extract (32 * k.toNat) (32 * k.toNat + 32)).data.toList := by unfold getE; rw [if_pos h]
    rw [e1, e2]
    rw [h] at HC
    obtain ⟨hb, n, rfl, hn⟩ := par_ok h
    have HP := hid (part32 b n hb (by omega))
    rw [show ((n : Int)).toNat = n from rfl]
    have hs : (b.extract (32 * n) (32 * n + 32)).size = 32 := by simp; omega
    have HD := hid (decode_any (b.extract (32 * n) (32 * n + 32)) (by rw [hs]; decide))
    obtain ⟨u, hu⟩ : ∃ u, u = b.extract (32 * n) (32 * n + 32) := ⟨_, rfl⟩
    rw [← hu] at HP HD ⊢
    obtain ⟨m, hm⟩ : ∃ m, m = decI u.data.toList := ⟨_, rfl⟩
    obtain ⟨x, hx⟩ : ∃ m, m = decE u.data.toList := ⟨_, rfl⟩
    rw [← hm, ← hx] at HD ⊢
    clear hu hm hx hs e1 e2 h
    go_enter Tryz.func43, Tryz.ntmps43
    go_wp2_with (first
      | (go_at_call 68; refine (HC.out _).mono ?_; rintro e w1 ⟨rfl, hw1⟩; rw [← hw1] at HB0; have HW : Hid (Below w.heap.size w w1) := (by rw [hw1]; exact below_alloc w _); clear hw1)
      | (go_at_call 70; refine (HP.out _).mono ?_; rintro e w2 ⟨rfl, hw2⟩; rw [← hw2] at HB0 HW; clear hw2)
      | (go_at_call 69; refine (HD.out _).mono ?_; rintro e w3 ⟨rfl, hb3⟩; replace HB0 := hid (HB0.out.below hb3); replace HW := hid (HW.out.next hb3); clear hb3)
      | ((with_reducible refine at_store24 w.heap.size Ino.zero m ?_ ?_ HB0.out ?_); rfl; rfl; intro w4 hB4 hk4))
    exact ret16 hB4 rfl rfl rfl ⟨rfl, HW.out.trans (hk4.below HW.out.size (Nat.le_refl _))⟩
  · have e1 : getI b k = Ino.zero := by unfold getI; rw [if_neg h]
    have e2 : getE b k = parE b k 4 := by unfold getE; rw [if_neg h]
    rw [e1, e2]
    obtain ⟨e, he⟩ : ∃ e, e = parE b k 4 := ⟨_, rfl⟩
    rw [← he] at HC h ⊢
    clear he e1 e2
    go_enter Tryz.func43, Tryz.ntmps43
    go_wp2_with (first
      | (go_at_call 68; refine (HC.out _).mono ?_; rintro e w1 ⟨rfl, hw1⟩; rw [← hw1] at HB0; have HW : Hid (Below w.heap.size w w1) := (by rw [hw1]; exact below_alloc w _); clear hw1)
      | ((with_reducible refine at_store24 w.heap.size Ino.zero Ino.zero ?_ ?_ HB0.out ?_); rfl; rfl; intro w4 hB4 hk4))
    exact ret16 hB4 rfl rfl rfl ⟨rfl, HW.out.trans (hk4.below HW.out.size (Nat.le_refl _))⟩
/-- what Put answers -/
def putE (b : ByteArray) (k : Int) (n : Ino) : Int := if parE b k 4 = 0 then chkE n else parE b k 4
def putV (b : ByteArray) (k : Int) (n : Ino) : ByteArray := if putE b k n = 0 then b.extract 0 (32 * k.toNat) ++ st (encL n) ++ b.extract (32 * k.toNat + 32) 128 else ByteArray.empty
theorem chk_right {n : Ino} (h : chkE n = 0) : rightI n = true := by
  unfold chkE at h
  split at h
  · assumption
  · cases h
set_option maxRecDepth 100000 in
set_option maxHeartbeats 1000000 in
theorem put_any (b : ByteArray) (k : Int) (n : Ino) (w : World) : Calls Tryz.prog 55 #[.string b, .int .i64 k, n.v] w fun e w' => e = .returned (.tuple #[.string (putV b k n), .int .i64 (putE b k n)]) ∧ Below w.heap.size w w' := by
  have HC := hid (checkPart_any b k 4)
  have HE := hid (encode_any n)
  have HV : Hid (∀ i : Nat, k = i → putE b k n = 0 → putV b k n = b.extract 0 (i * 32) ++ st (encL n) ++ b.extract ((i + 1) * 32) 128) := fun i hi h => by
    subst hi
    unfold putV
    rw [if_pos h, show i * 32 = 32 * i by omega, show (i + 1) * 32 = 32 * i + 32 by omega]
    rfl
  have HV0 : Hid (putE b k n ≠ 0 → putV b k n = ByteArray.empty) := fun h => by unfold putV; rw [if_neg h]
  by_cases h : parE b k 4 = 0
  · rw [h] at HC
    have e1 : putE b k n = chkE n := by unfold putE; rw [if_pos h]
    rw [e1] at HV HV0 ⊢
    by_cases h2 : chkE n = 0
    · have hr := chk_right h2
      obtain ⟨hb, i, rfl, hi⟩ := par_ok h
      rw [HV.out i rfl h2, h2]
      have e3 : encV n = st (encL n) := by unfold encV; rw [if_pos hr]
      rw [e3, h2] at HE
      have HW := hid (with_any b (st (encL n)) i 32 hb (by rw [st_size, encL_len]) (by decide) (by omega))
      obtain ⟨R, hR⟩ : ∃ R, R = b.extract 0 (i * 32) ++ st (encL n) ++ b.extract ((i + 1) * 32) 128 := ⟨_, rfl⟩
      rw [← hR] at HW ⊢
      obtain ⟨u, hu⟩ : ∃ u, u = st (encL n) := ⟨_, rfl⟩
      rw [← hu] at HW HE
      clear hR hu e1 e3 h h2 hr HV HV0
      obtain ⟨k, l, z, a, b1, c, d, e, f, s, t⟩ := n
      simp only [Ino.v] at HE ⊢
      go_enter Tryz.func55, Tryz.ntmps55
      go_wp2_with (first
        | (go_at_call 68; refine (HC.out _).mono ?_; rintro e w1 ⟨rfl, rfl⟩)
        | (go_at_call 79; refine (HE.out _).mono ?_; rintro e w2 ⟨rfl, hb2⟩)
        | (go_at_call 80; refine (HW.out _).mono ?_; rintro e w3 ⟨rfl, m, rfl⟩))
      go_ret2
      exact ⟨rfl, ((below_alloc _ _).next hb2).dN _⟩
    · rw [HV0.out h2]
      obtain ⟨x, hx⟩ : ∃ x, x = chkE n := ⟨_, rfl⟩
      obtain ⟨u, hu⟩ : ∃ x, x = encV n := ⟨_, rfl⟩
      rw [← hx] at HE h2 ⊢
      rw [← hu] at HE
      clear hx hu e1 h HV HV0
      obtain ⟨k, l, z, a, b1, c, d, e, f, s, t⟩ := n
      simp only [Ino.v] at HE ⊢
      go_enter Tryz.func55, Tryz.ntmps55
      go_wp2_with (first
        | (go_at_call 68; refine (HC.out _).mono ?_; rintro e w1 ⟨rfl, rfl⟩)
        | (go_at_call 79; refine (HE.out _).mono ?_; rintro e w2 ⟨rfl, hb2⟩))
      go_ret2
      exact ⟨rfl, (below_alloc _ _).next hb2⟩
  · have e1 : putE b k n = parE b k 4 := by unfold putE; rw [if_neg h]
    rw [e1] at HV0 ⊢
    rw [HV0.out h]
    obtain ⟨e, he⟩ : ∃ e, e = parE b k 4 := ⟨_, rfl⟩
    rw [← he] at HC h ⊢
    clear he e1 HV HV0 HE
    obtain ⟨k, l, z, a, b1, c, d, e, f, s, t⟩ := n
    simp only [Ino.v]
    go_enter Tryz.func55, Tryz.ntmps55
    go_wp2_with (first | (go_at_call 68; refine (HC.out _).mono ?_; rintro e w1 ⟨rfl, rfl⟩))
    go_ret2
    exact ⟨rfl, below_alloc _ _⟩
/-- what was put is got, and no other is changed -/
theorem put_size (b : ByteArray) (k : Nat) (n : Ino) (hb : b.size = 128) (hk : k < 4) : (b.extract 0 (32 * k) ++ st (encL n) ++ b.extract (32 * k + 32) 128).size = 128 := by
  have h1 : (b.extract 0 (32 * k)).size = 32 * k := by simp; omega
  have h2 : (b.extract (32 * k + 32) 128).size = 96 - 32 * k := by simp; omega
  rw [ByteArray.size_append, ByteArray.size_append, h1, h2, st_size, encL_len]
  omega
theorem put_part (b : ByteArray) (k i : Nat) (n : Ino) (hb : b.size = 128) (hk : k < 4) (_hi : i < 4) :
    ((b.extract 0 (32 * k) ++ st (encL n) ++ b.extract (32 * k + 32) 128).extract (32 * i) (32 * i + 32)).data.toList = if i = k then encL n else (b.extract (32 * i) (32 * i + 32)).data.toList := by
  have hl := len_list b
  rw [ext_list, cat_list, cat_list, ext_list, ext_list, ext_list, st_list, List.drop_zero, List.take_of_length_le (l := b.data.toList) (i := 128) (by omega), List.drop_take, List.drop_take]
  have hA : (b.data.toList.take (32 * k)).length = 32 * k := by rw [List.length_take]; omega
  have hE := encL_len n
  rw [show 32 * i + 32 - 32 * i = 32 by omega]
  by_cases h : i = k
  · subst h
    rw [if_pos rfl, List.append_assoc, List.drop_append_of_le_length (by omega), List.drop_of_length_le (by omega), List.nil_append, List.take_append_of_le_length (by omega), List.take_of_length_le (by omega)]
  · rw [if_neg h]
    by_cases h2 : i < k
    · rw [List.append_assoc, List.drop_append_of_le_length (by omega), List.take_append_of_le_length (by rw [List.length_drop]; omega), List.drop_take, List.take_take, Nat.min_eq_left (by omega)]
    · rw [List.drop_append, List.drop_of_length_le (by rw [List.length_append]; omega), List.nil_append, List.length_append, hA, hE, List.drop_drop, show 32 * k + 32 + (32 * i - (32 * k + 32)) = 32 * i by omega]
end Go.Proofs.YtjnhibpebikkmaaGreat
