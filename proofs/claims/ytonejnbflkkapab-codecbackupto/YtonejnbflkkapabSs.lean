import Derived.Test.YtonejnbflkkapabWl
namespace Go.Proofs.Ytonejnbflkkapab
open Go.RowKit

/-- every row of items is as it was -/
def Stays (w w' : World) : Prop := ∀ (k : Nat) (cs : Array Value), w.heap[k]? = some (Obj.cells cs 26 (0, 0)) → w'.heap[k]? = some (Obj.cells cs 26 (0, 0))
theorem Stays.refl (w : World) : Stays w w := fun _ _ h => h
theorem Stays.trans {a b c : World} (h : Stays a b) (k : Stays b c) : Stays a c := fun i cs hi => k i cs (h i cs hi)
theorem Stays.alloc {w w' : World} (h : Stays w w') (o : Obj) : Stays w (w'.alloc o) := fun k cs hk => (Below.heap_alloc _ _ _ (lt_of_block (h k cs hk))).trans (h k cs hk)
theorem Stays.push {w wr w1 : World} {base g : Nat} {v u : Value} {n : Nat} {xs : List Value} (h : Stays w wr) (hown : wr.ownsRow base 5 1 v n xs) (hsame : ∀ k, k < wr.heap.size → v.ownBlock ≠ some k → w1.heap[k]? = wr.heap[k]?)
    (hg : wr.heap[g]? = some (.cells #[u] 59 (0, 0))) (hg1 : w1.heap[g]? = wr.heap[g]?) (x : Value) : Stays w (w1.setCell ⟨g, 0, none⟩ x) := by
  intro k cs hk
  have h1 := h k cs hk
  have hkg : k ≠ g := by
    intro e
    subst e
    rw [hg] at h1
    simp at h1
  have hkv : v.ownBlock ≠ some k := by
    obtain ⟨_, e | ⟨b, cap, cur, rfl, _, hb, _⟩⟩ := hown
    · rw [e.1]; intro h; cases h
    · intro e
      cases e
      rw [h1] at hb
      simp at hb
  exact (Below.heap_setCell _ _ _ _ hkg).trans ((hsame k (lt_of_block h1) hkv).trans h1)

set_option maxHeartbeats 1000000 in
theorem number_ws (base g u : Nat) (bs : List UInt8) (hu : u < 18446744073709551616) (hlen : bs.length ≤ 10000000000) (w : World) (hw : WIs base g w bs) (hbase : base ≤ w.heap.size) :
    Calls Try.prog 42 #[.pointer (some ⟨g, 0, none⟩), .int .u64 u] w fun e w' => e = .returned (.int .i64 0) ∧ WIs base g w' (bs ++ uEnc u) ∧ Kept base g w w' ∧ Stays w w' := by
  have hul := uEnc_len64 u hu
  go_enter Try.func42, Try.ntmps42
  go_wp2
  go_loopw [1] (fun x wr => ∃ (m : Nat) (done : List UInt8), x = .int .u64 m ∧ uEnc u = done ++ uEnc m ∧ m < 18446744073709551616 ∧ WIs base g wr (bs ++ done) ∧ Kept base g w wr ∧ Stays w wr) (fun x _ => (intOf x).toNat)
  case atStart => exact ⟨u, [], rfl, rfl, hu, by simpa using hw, Kept.refl _ _ _, Stays.refl _⟩
  case round =>
    obtain ⟨m, done, rfl, hd, hm, hwi, hk, hss⟩ := hrel
    have hdl : done.length ≤ 10 := by have := congrArg List.length hd; simp at this; omega
    have HD : Hid (uEnc u = done ++ uEnc m) := hd
    clear hd
    obtain ⟨cur, hcur⟩ : ∃ cur, cur = bs ++ done := ⟨_, rfl⟩
    have hcl : cur.length ≤ 100000000000 := by rw [hcur]; simp; omega
    rw [← hcur] at hwi
    have HC : Hid (cur = bs ++ done) := hcur
    clear hcur
    obtain ⟨v, hg, hown⟩ := hwi
    have hcell := cell_of_one hg
    have hsz := hk.size
    have hglt := lt_of_block hg
    have hne := ownBlock_ne hown hg
    by_cases hlt : m < 128
    · obtain ⟨b, hb⟩ : ∃ b, b = UInt8.ofNat m := ⟨_, rfl⟩
      have hbm : (m : Int) = (b.toNat : Int) := by rw [hb]; exact lo_byte m hlt
      have HB : Hid (b = UInt8.ofNat m) := hb
      have HM : Hid ((m : Int) = (b.toNat : Int)) := hbm
      clear hb hbm
      go_wp2_with (at_builtin; refine push_byte rfl _ _ rfl base v cur.length cur _ b HM.out rfl rfl hown hcl (by omega) ?_)
      intro r cap w1 hown' hbel hsame
      have hg1 := hsame g hglt hne
      have hcell1 := cell_of_one (hg1.trans hg)
      have hfree1 := free_of_one (hg1.trans hg)
      have hst := store_writer (bs := cur ++ [b]) hg hg1 (by rw [List.length_append]; exact hown')
      have hs2 := hss.push hown hsame hg hg1 (.slice (some ⟨r, 0, none⟩) (cur.length + 1) cap)
      have hkk := (hk.trans (Kept.of_below hbel)).setCell 0 (.slice (some ⟨r, 0, none⟩) (cur.length + 1) cap)
      clear hown' hbel hsame hown hcell hg hg1 hne hk hss
      go_wp2
      go_ret
      refine ⟨rfl, ?_, hkk, hs2⟩
      have e : bs ++ uEnc u = cur ++ [b] := by rw [HD.out, HC.out, HB.out, uEnc_lo hlt, List.append_assoc]
      rw [e]
      exact hst
    · obtain ⟨b, hb⟩ : ∃ b, b = UInt8.ofNat (m % 128 + 128) := ⟨_, rfl⟩
      have HB : Hid (b = UInt8.ofNat (m % 128 + 128)) := hb
      have HM : Hid (bits .or .u8 ((m : Int) % 256) 128 = (b.toNat : Int)) := by rw [hb]; exact hi_byte m
      have HL : Hid (¬ m < 128) := hlt
      clear hb
      go_wp2_with (at_builtin; refine push_byte rfl _ _ rfl base v cur.length cur _ b HM.out rfl rfl hown hcl (by omega) ?_)
      intro r cap w1 hown' hbel hsame
      have hg1 := hsame g hglt hne
      have hcell1 := cell_of_one (hg1.trans hg)
      have hfree1 := free_of_one (hg1.trans hg)
      have hst := store_writer (bs := cur ++ [b]) hg hg1 (by rw [List.length_append]; exact hown')
      have hs2 := hss.push hown hsame hg hg1 (.slice (some ⟨r, 0, none⟩) (cur.length + 1) cap)
      have hkk := (hk.trans (Kept.of_below hbel)).setCell 0 (.slice (some ⟨r, 0, none⟩) (cur.length + 1) cap)
      clear hown' hbel hsame hown hcell hg hg1 hne hk hss
      go_wp2
      go_roundw
      case rel => exact ⟨m / 128, done ++ [b], by go_num, by rw [HD.out, HB.out, uEnc_hi HL.out]; simp, by omega, by rw [← List.append_assoc, ← HC.out]; exact hst, hkk, hs2⟩
      case measure => simp [intOf]; omega
theorem uint_ws (base g : Nat) (n : Nat) (bs : List UInt8) (hn : n ≤ 9223372036854775807) (hlen : bs.length ≤ 10000000000) (w : World) (hw : WIs base g w bs) (hbase : base ≤ w.heap.size) :
    Calls Try.prog 29 #[.pointer (some ⟨g, 0, none⟩), .int .i64 n] w fun e w' => e = .returned (.int .i64 0) ∧ WIs base g w' (bs ++ uEnc n) ∧ Kept base g w w' ∧ Stays w w' := by
  go_enter Try.func29, Try.ntmps29
  go_wp2_with (go_at_call 42; refine (number_ws base g n bs (by omega) hlen _ hw hbase).mono ?_; rintro e w' ⟨rfl, h1, h2, h3⟩)
  go_ret
  exact ⟨rfl, h1, h2, h3⟩
theorem int_ws (base g : Nat) (n : Int) (bs : List UInt8) (hn : -9223372036854775808 ≤ n ∧ n ≤ 9223372036854775807) (hlen : bs.length ≤ 10000000000) (w : World) (hw : WIs base g w bs) (hbase : base ≤ w.heap.size) :
    Calls Try.prog 33 #[.pointer (some ⟨g, 0, none⟩), .int .i64 n] w fun e w' => e = .returned (.int .i64 0) ∧ WIs base g w' (bs ++ uEnc (zig n)) ∧ Kept base g w w' ∧ Stays w w' := by
  have hz := zig_lt n hn
  go_enter Try.func33, Try.ntmps33
  go_wp2_with (first | (go_at_call 43; refine (fold_any _ hn _).mono ?_; rintro e w' ⟨rfl, rfl⟩) | (go_at_call 42; refine (number_ws base g (zig n) bs hz hlen _ hw hbase).mono ?_; rintro e w' ⟨rfl, h1, h2, h3⟩))
  go_ret
  exact ⟨rfl, h1, h2, h3⟩
set_option maxHeartbeats 1000000 in
theorem text_ws (base g : Nat) (s : ByteArray) (bs : List UInt8) (hs : s.size ≤ 65535) (hlen : bs.length ≤ 10000000000) (w : World) (hw : WIs base g w bs) (hbase : base ≤ w.heap.size) :
    Calls Try.prog 35 #[.pointer (some ⟨g, 0, none⟩), .string s] w fun e w' => e = .returned (.int .i64 0) ∧ WIs base g w' (bs ++ (uEnc s.size ++ s.data.toList)) ∧ Kept base g w w' ∧ Stays w w' := by
  obtain ⟨cur, hcur⟩ : ∃ cur, cur = bs ++ uEnc s.size := ⟨_, rfl⟩
  have hul := uEnc_len64 s.size (by omega)
  have hcl : 1 ≤ cur.length ∧ cur.length ≤ 20000000000 := by rw [hcur]; simp; omega
  have hnum := number_ws base g s.size bs (by omega) hlen w hw hbase
  rw [← hcur] at hnum
  have HC : Hid (cur = bs ++ uEnc s.size) := hcur
  have HN : Hid (Calls Try.prog 42 #[.pointer (some ⟨g, 0, none⟩), .int .u64 s.size] w fun e w' => e = .returned (.int .i64 0) ∧ WIs base g w' cur ∧ Kept base g w w' ∧ Stays w w') := hnum
  clear hcur hnum hul
  go_enter Try.func35, Try.ntmps35
  go_wp2_with (first | (go_at_call 42; refine HN.out.mono ?_; rintro e w1 ⟨rfl, h1, hk1, hss⟩; obtain ⟨v, hg, hown⟩ := h1; have hcell := cell_of_one hg; have hsz := hk1.size; have hglt := lt_of_block hg; have hne := ownBlock_ne hown hg) | (at_builtin; refine push_str rfl (.tmp 21) (.tmp 22) rfl base _ cur.length cur s rfl rfl hown hcl.1 (by omega) (by omega) ?_; intro r cap w2 hown' hbel hsame; have hg1 := hsame g hglt hne; have hcell1 := cell_of_one (hg1.trans hg); have hfree1 := free_of_one (hg1.trans hg)))
  go_ret
  refine ⟨rfl, ?_, (hk1.trans (Kept.of_below hbel)).setCell 0 _, hss.push hown hsame hg hg1 _⟩
  rw [← List.append_assoc, ← HC.out]
  refine store_writer hg hg1 ?_
  rw [List.length_append, Array.length_toList]
  exact hown'
set_option maxRecDepth 100000 in
set_option maxHeartbeats 2000000 in
theorem fixed_ws (base g n size : Nat) (bs : List UInt8) (hn : n ≤ 9223372036854775807) (hsz : size ≤ 8) (hf : fitsB n size = true) (hlen : bs.length ≤ 10000000000) (w : World) (hw : WIs base g w bs) (hbase : base ≤ w.heap.size) :
    Calls Try.prog 34 #[.pointer (some ⟨g, 0, none⟩), .int .i64 n, .int .i64 size] w fun e w' => e = .returned (.int .i64 0) ∧ WIs base g w' (bs ++ fEnc n size) ∧ Kept base g w w' ∧ Stays w w' := by
  go_enter Try.func34, Try.ntmps34
  go_wp2_with (first | (go_at_call 44; refine (isFixed_any _ _ (by omega) _).mono ?_; rintro x wq ⟨rfl, hwq⟩; have hwq := hwq.symm; subst hwq; rw [hf]))
  go_loopw [15] (fun i wr => ∃ (j : Nat), i = .int .i64 j ∧ j ≤ size ∧ WIs base g wr (bs ++ fEnc n j) ∧ Kept base g w wr ∧ Stays w wr) (fun i _ => size - (intOf i).toNat)
  case atStart => exact ⟨0, rfl, Nat.zero_le _, by simpa [fEnc] using hw, Kept.refl _ _ _, Stays.refl _⟩
  case round =>
    obtain ⟨j, rfl, hj, hwi, hk, hss⟩ := hrel
    obtain ⟨cur, hcur⟩ : ∃ cur, cur = bs ++ fEnc n j := ⟨_, rfl⟩
    have hcl : cur.length ≤ 100000000000 := by rw [hcur, List.length_append, fEnc_len]; omega
    rw [← hcur] at hwi
    have HC : Hid (cur = bs ++ fEnc n j) := hcur
    clear hcur
    obtain ⟨v, hg, hown⟩ := hwi
    have hcell := cell_of_one hg
    have hz := hk.size
    have hglt := lt_of_block hg
    have hne := ownBlock_ne hown hg
    by_cases hlt : j < size
    · obtain ⟨b, hb⟩ : ∃ b, b = UInt8.ofNat (n / 256 ^ j % 256) := ⟨_, rfl⟩
      have HE : Hid (bs ++ fEnc n (j + 1) = cur ++ [b]) := by
        show _ = _
        rw [fEnc_at n (j + 1) j (by omega), HC.out, hb, show j + 1 - j = 1 by omega, fEnc, fEnc, List.append_assoc]
      obtain ⟨q, hq⟩ : ∃ q, q = n / 256 ^ j := ⟨_, rfl⟩
      have hsh : ∀ w, (Op.shift BinOp.shr IntKind.i64 (n : Int) IntKind.i64 (IntKind.i64.wrap (8 * (j : Int)))).run Try.prog w = .ok (.int .i64 q) w := fun w => by
        rw [IntKind.wrap_i64, show (8 * (j : Int) + 9223372036854775808) % 18446744073709551616 - 9223372036854775808 = ((8 * j : Nat) : Int) by omega, shift_shr_any _ _ _ _ (by omega), Int.toNat_natCast]
        have hm : min (8 * j) IntKind.i64.bits = 8 * j := by show min (8 * j) 64 = 8 * j; omega
        rw [hm, hq, Int.pow_mul]
        simp
      have HB : Hid (IntKind.u8.wrap (q : Int) = (b.toNat : Int)) := by show _ = _; rw [hb, hq, UInt8.toNat_ofNat', IntKind.wrap_u8]; omega
      have HB1 : Hid (∀ o, base ≤ (wr.alloc o).drew.heap.size) := fun o => by show base ≤ (wr.heap.push o).size; rw [Array.size_push]; omega
      have HG2 : Hid (∀ o, g < (wr.alloc o).drew.heap.size) := fun o => by show g < (wr.heap.push o).size; rw [Array.size_push]; omega
      clear hb hq
      go_wp2
      go_region_law (refine step_push rfl (.tmp 22) (.tmp 28) rfl base v cur.length cur (IntKind.u8.wrap (q : Int)) b HB.out (by simp [Act.eval]) ⟨wr.heap.size, 0, none⟩ (by simp [Act.eval]) (one_alloc _ _ _) rfl (hown.alloc _) hcl (HB1.out _) ?_; intro r cap w1 hown' hbel hsame; have hg1 : w1.heap[g]? = wr.heap[g]? := (hsame g (HG2.out _) hne).trans (Below.heap_alloc _ _ _ hglt); have hcell1 := cell_of_one (hg1.trans hg); have hfree1 := free_of_one (hg1.trans hg))
      all_goals
        have hst := store_writer (bs := cur ++ [b]) hg hg1 (by rw [List.length_append]; exact hown')
        have hs2 := (hss.alloc _).push (hown.alloc _) hsame ((Below.heap_alloc _ _ _ hglt).trans hg) (hg1.trans (Below.heap_alloc _ _ _ hglt).symm) (.slice (some ⟨r, 0, none⟩) (cur.length + 1) cap)
        have hkk := (hk.trans (Kept.of_below (((((Below.refl base wr).alloc (by omega) _).drew).trans hbel)))).setCell 0 (.slice (some ⟨r, 0, none⟩) (cur.length + 1) cap)
        clear hown' hbel hown hcell hg hg1 hne hk hss hsame
        go_wp2
        go_roundw
        case rel => exact ⟨j + 1, by go_num, by omega, by rw [HE.out]; exact hst, hkk, hs2⟩
        case measure => simp [intOf]; omega
    · have HE : Hid (bs ++ fEnc n size = cur) := by show _ = _; rw [HC.out, show j = size by omega]
      go_wp2
      go_ret
      exact ⟨rfl, by rw [HE.out]; exact ⟨v, hg, hown⟩, hk, hss⟩
set_option maxRecDepth 100000 in
set_option maxHeartbeats 2000000 in
theorem writes_ws (base g : Nat) (bs : List UInt8) (K N Z : Int) (s : ByteArray) (hN : -9223372036854775808 ≤ N ∧ N ≤ 9223372036854775807) (hlen : bs.length ≤ 10000000000) (w : World) (hw : WIs base g w bs) (hbase : base ≤ w.heap.size) :
    Calls Try.prog 11 #[.pointer (some ⟨g, 0, none⟩), .agg #[.int .i64 K, .int .i64 N, .int .i64 Z, .string s]] w fun e w' => e = .returned (.int .i64 (itE K N Z s)) ∧ WIs base g w' (bs ++ itB K N Z s) ∧ Kept base g w w' ∧ Stays w w' := by
  have hkb : ∀ o, Kept base g w (w.alloc o) := fun o => Kept.of_below ((Below.refl base w).alloc hbase o)
  have hwb : ∀ o, WIs base g (w.alloc o) bs := fun o => hw.below (below_alloc w o)
  have hbb : ∀ o, base ≤ (w.alloc o).heap.size := fun o => by show base ≤ (w.heap.push o).size; rw [Array.size_push]; omega
  have HK : Hid (∀ o, Kept base g w (w.alloc o)) := hkb
  have HW : Hid (∀ o, WIs base g (w.alloc o) bs) := hwb
  have HB : Hid (∀ o, base ≤ (w.alloc o).heap.size) := hbb
  clear hkb hwb hbb hw
  rcases it_kind K with rfl | rfl | rfl | ⟨k0, k1, k2, n0, n1, n2⟩
  · by_cases hN0 : N < 0
    · skip
      have e1 : itB 0 N Z s = [] := by simp [itB, hN0]
      have e2 : itE 0 N Z s = 1 := by simp [itE, hN0]
      rw [e1, e2]; clear e1 e2
      go_enter Try.func11, Try.ntmps11
      go_wp2_with (first | (go_at_call 29; refine (uint_neg _ _ hN0 _).mono ?_; rintro e wq ⟨rfl, hwq⟩; subst hwq))
      go_ret
      exact ⟨rfl, by rw [List.append_nil]; exact HW.out _, HK.out _, (Stays.refl w).alloc _⟩
    · obtain ⟨m, rfl⟩ := Int.eq_ofNat_of_zero_le (show 0 ≤ N by omega)
      have e1 : itB 0 m Z s = uEnc m := by unfold itB; rw [if_pos rfl, if_neg (by omega), Int.toNat_natCast]
      have e2 : itE 0 m Z s = 0 := by unfold itE; rw [if_pos rfl, if_neg (by omega)]
      rw [e1, e2]; clear e1 e2
      go_enter Try.func11, Try.ntmps11
      go_wp2_with (first | (go_at_call 29; refine (uint_ws base g m bs (by omega) hlen _ (HW.out _) (HB.out _)).mono ?_; rintro e w1 ⟨rfl, i1, k1, s1⟩))
      go_ret
      exact ⟨rfl, i1, (HK.out _).trans k1, ((Stays.refl w).alloc _).trans s1⟩
  · skip
    have e1 : itB 1 N Z s = uEnc (zig N) := by simp [itB]
    have e2 : itE 1 N Z s = 0 := by simp [itE]
    rw [e1, e2]; clear e1 e2
    go_enter Try.func11, Try.ntmps11
    go_wp2_with (first | (go_at_call 33; refine (int_ws base g N bs hN hlen _ (HW.out _) (HB.out _)).mono ?_; rintro e w1 ⟨rfl, i1, k1, s1⟩))
    go_ret
    exact ⟨rfl, i1, (HK.out _).trans k1, ((Stays.refl w).alloc _).trans s1⟩
  · cases hf : fitsB N Z with
    | false =>
      have e1 : itB 2 N Z s = [] := by simp [itB, hf]
      have e2 : itE 2 N Z s = 1 := by simp [itE, hf]
      rw [e1, e2]; clear e1 e2
      go_enter Try.func11, Try.ntmps11
      go_wp2_with (first | (go_at_call 34; refine (fixedw_arg _ _ _ hN hf _).mono ?_; rintro e wq ⟨rfl, hwq⟩; subst hwq))
      go_ret
      exact ⟨rfl, by rw [List.append_nil]; exact HW.out _, HK.out _, (Stays.refl w).alloc _⟩
    | true =>
      have ⟨f0, f1, f2⟩ := fits_of hf
      obtain ⟨m, rfl⟩ := Int.eq_ofNat_of_zero_le f0
      obtain ⟨z, rfl⟩ := Int.eq_ofNat_of_zero_le (show 0 ≤ Z by omega)
      have hz8 : z ≤ 8 := by omega
      clear f1 f2
      have e1 : itB 2 m z s = fEnc m z := by simp [itB, hf]
      have e2 : itE 2 m z s = 0 := by simp [itE, hf]
      rw [e1, e2]; clear e1 e2
      go_enter Try.func11, Try.ntmps11
      go_wp2_with (first | (go_at_call 34; refine (fixed_ws base g m z bs (by omega) hz8 hf hlen _ (HW.out _) (HB.out _)).mono ?_; rintro e w1 ⟨rfl, i1, k1, s1⟩))
      go_ret
      exact ⟨rfl, i1, (HK.out _).trans k1, ((Stays.refl w).alloc _).trans s1⟩
  · by_cases hl : 65535 < s.size
    · skip
      have e1 : itB K N Z s = [] := by simp [itB, n0, n1, n2, hl]
      have e2 : itE K N Z s = 2 := by simp [itE, n0, n1, n2, hl]
      clear n0 n1 n2
      rw [e1, e2]; clear e1 e2
      go_enter Try.func11, Try.ntmps11
      go_wp2_with (first | (go_at_call 35; refine (text_long _ _ hl _).mono ?_; rintro e wq ⟨rfl, hwq⟩; subst hwq))
      go_ret
      exact ⟨rfl, by rw [List.append_nil]; exact HW.out _, HK.out _, (Stays.refl w).alloc _⟩
    · skip
      have e1 : itB K N Z s = uEnc s.size ++ s.data.toList := by simp only [itB, n0, n1, n2, hl, if_false]
      have e2 : itE K N Z s = 0 := by simp only [itE, n0, n1, n2, hl, if_false]
      clear n0 n1 n2
      rw [e1, e2]; clear e1 e2
      go_enter Try.func11, Try.ntmps11
      go_wp2_with (first | (go_at_call 35; refine (text_ws base g s bs (by omega) hlen _ (HW.out _) (HB.out _)).mono ?_; rintro e w1 ⟨rfl, i1, k1, s1⟩))
      go_ret
      exact ⟨rfl, i1, (HK.out _).trans k1, ((Stays.refl w).alloc _).trans s1⟩
end Go.Proofs.Ytonejnbflkkapab
