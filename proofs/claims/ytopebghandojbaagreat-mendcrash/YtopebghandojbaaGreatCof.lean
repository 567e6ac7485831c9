import Derived.Test.YtopebghandojbaaGreatCod
namespace Go.Proofs.YtopebghandojbaaGreat
open Go.RowKit

/-- one byte more at the end of a row of the call's own, as a step of a region that draws its order -/
theorem step_push {ops : Array Oper} {o : Oper} {a : Act} {w : World} {K : Act → World → Prop} {Q : Exit → Act → World → Prop} {E : Prop} (hg : o.guard = none) (s x : Operand)
    (hop : o.op = .call { callee := .builtin .append, args := #[s, x], argTypes := #[164, 164] }) (base : Nat) (v : Value) (n : Nat) (bs : List UInt8) (z : Int) (b : UInt8) (hz : z = b.toNat)
    (hs : a.eval s = v) (ad : Addr) (hx : a.eval x = .slice (some ad) 1 1) (hc : w.cell? ad = some (.int .u8 z)) (hspot : ad.spot = none) (hown : w.ownsRow base 5 1 v n (bc bs)) (hn : n ≤ 100000000000) (hbase : base ≤ w.heap.size)
    (h : ∀ r cap w', w'.ownsRow base 5 1 (.slice (some ⟨r, 0, none⟩) (n + 1) cap) (n + 1) (bc (bs ++ [b])) → Below base w w' → (∀ k, k < w.heap.size → v.ownBlock ≠ some k → w'.heap[k]? = w.heap[k]?) → K (a.put o.dst (.slice (some ⟨r, 0, none⟩) (n + 1) cap)) w') :
    if Region.wanted o (yielded ops a.tmps) = true then Oper.wp Tryz.prog o a w K Q else E := by
  have hw : Region.wanted o (yielded ops a.tmps) = true := by simp [Region.wanted, hg]
  rw [if_pos hw]
  obtain ⟨i0, hi, hz0, hz1, hz2⟩ := info_parts Tryz.info5
  subst hz
  refine wp_append_own w s x 164 hop base 5 i0 (.int .u8 0) 1 1 Tryz.underlying164 hi hz0 hz1 hz2 rfl (by decide) v n (bc bs) hs hown ad 1 1 [.int .u8 b.toNat] hx rfl ?_ ?_ ?_ ?_ hbase ?_
  · intro j u hj
    match j, hj with
    | 0, hj => simp at hj; subst hj; obtain ⟨bb, oo, sp⟩ := ad; simp at hspot; subst hspot; simpa [Addr.add] using hc
  · intro u hu; simp at hu; subst hu; rfl
  · unfold maxLen; omega
  · omega
  · intro v' w' h1 h2 _
    obtain ⟨r, cap, rfl⟩ : ∃ r cap, v' = .slice (some ⟨r, 0, none⟩) (n + 1) cap := by
      obtain ⟨_, e | ⟨g, cap, cur, e, _⟩⟩ := h1
      · exact absurd e.2 (by omega)
      · exact ⟨g, cap, e⟩
    exact h r cap w' (by rw [bc_append]; exact h1) ((Below.refl base w).grown h2 hbase fun k hk => (hown.lt k hk).1) fun k hk hne => h2.block k hk (fun e => hne e.symm)
theorem one_alloc (w : World) (x : Value) (t : TypeId) : (w.alloc (.cells #[x] t)).drew.cell? ⟨w.heap.size, 0, none⟩ = some x := by
  refine cell_of_one (t := t) ?_
  show (w.heap.push _)[w.heap.size]? = _
  simp
theorem fEnc_at (n : Nat) : ∀ (k j : Nat), j ≤ k → fEnc n k = fEnc n j ++ fEnc (n / 256 ^ j) (k - j) := by
  intro k j
  induction j generalizing n k with
  | zero => intro _; simp [fEnc]
  | succ j ih =>
    intro h
    obtain ⟨k, rfl⟩ : ∃ k', k = k' + 1 := ⟨k - 1, by omega⟩
    rw [fEnc, fEnc, List.cons_append, show k + 1 - (j + 1) = k - j by omega, Nat.pow_succ, Nat.mul_comm, ← Nat.div_div_eq_div_mul, ← ih (n / 256) k (by omega)]
set_option maxRecDepth 100000 in
set_option maxHeartbeats 2000000 in
theorem fixed_w (base g n size : Nat) (bs : List UInt8) (hn : n ≤ 9223372036854775807) (hsz : size ≤ 8) (hf : fitsB n size = true) (hlen : bs.length ≤ 10000000000) (w : World) (hw : WIs base g w bs) (hbase : base ≤ w.heap.size) :
    Calls Tryz.prog 87 #[.pointer (some ⟨g, 0, none⟩), .int .i64 n, .int .i64 size] w fun e w' => e = .returned (.int .i64 0) ∧ WIs base g w' (bs ++ fEnc n size) ∧ Kept base g w w' := by
  go_enter Tryz.func87, Tryz.ntmps87
  go_wp2_with (first | (go_at_call 118; refine (isFixed_any _ _ (by omega) _).mono ?_; rintro x wq ⟨rfl, hwq⟩; have hwq := hwq.symm; subst hwq; rw [hf]))
  go_loopw [15] (fun i wr => ∃ (j : Nat), i = .int .i64 j ∧ j ≤ size ∧ WIs base g wr (bs ++ fEnc n j) ∧ Kept base g w wr) (fun i _ => size - (intOf i).toNat)
  case atStart => exact ⟨0, rfl, Nat.zero_le _, by simpa [fEnc] using hw, Kept.refl _ _ _⟩
  case round =>
    obtain ⟨j, rfl, hj, hwi, hk⟩ := hrel
    obtain ⟨cur, hcur⟩ : ∃ cur, cur = bs ++ fEnc n j := ⟨_, rfl⟩
    have hcl : cur.length ≤ 100000000000 := by rw [hcur, List.length_append, fEnc_len]; omega
    rw [← hcur] at hwi
    have HC : Hid (cur = bs ++ fEnc n j) := hcur
    clear hcur
    obtain ⟨v, hg, hown⟩ := hwi
    have hcell := cell_of_one hg
    have hz := hk.size
    have hglt := lt_of_block hg
    have hne := ownBlock_ne hown hg
    by_cases hlt : j < size
    · obtain ⟨b, hb⟩ : ∃ b, b = UInt8.ofNat (n / 256 ^ j % 256) := ⟨_, rfl⟩
      have HE : Hid (bs ++ fEnc n (j + 1) = cur ++ [b]) := by
        show _ = _
        rw [fEnc_at n (j + 1) j (by omega), HC.out, hb, show j + 1 - j = 1 by omega, fEnc, fEnc, List.append_assoc]
      obtain ⟨q, hq⟩ : ∃ q, q = n / 256 ^ j := ⟨_, rfl⟩
      have hsh : ∀ w, (Op.shift BinOp.shr IntKind.i64 (n : Int) IntKind.i64 (IntKind.i64.wrap (8 * (j : Int)))).run Tryz.prog w = .ok (.int .i64 q) w := fun w => by
        rw [IntKind.wrap_i64, show (8 * (j : Int) + 9223372036854775808) % 18446744073709551616 - 9223372036854775808 = ((8 * j : Nat) : Int) by omega, shift_shr_any _ _ _ _ (by omega), Int.toNat_natCast]
        have hm : min (8 * j) IntKind.i64.bits = 8 * j := by show min (8 * j) 64 = 8 * j; omega
        rw [hm, hq, Int.pow_mul]
        simp
      have HB : Hid (IntKind.u8.wrap (q : Int) = (b.toNat : Int)) := by show _ = _; rw [hb, hq, UInt8.toNat_ofNat', IntKind.wrap_u8]; omega
      have HB1 : Hid (∀ o, base ≤ (wr.alloc o).drew.heap.size) := fun o => by show base ≤ (wr.heap.push o).size; rw [Array.size_push]; omega
      have HG2 : Hid (∀ o, g < (wr.alloc o).drew.heap.size) := fun o => by show g < (wr.heap.push o).size; rw [Array.size_push]; omega
      clear hb hq
      go_wp2
      go_region_law (refine step_push rfl (.tmp 22) (.tmp 28) rfl base v cur.length cur (IntKind.u8.wrap (q : Int)) b HB.out (by simp [Act.eval]) ⟨wr.heap.size, 0, none⟩ (by simp [Act.eval]) (one_alloc _ _ _) rfl (hown.alloc _) hcl (HB1.out _) ?_; intro r cap w1 hown' hbel hsame; have hg1 : w1.heap[g]? = wr.heap[g]? := (hsame g (HG2.out _) hne).trans (Below.heap_alloc _ _ _ hglt); have hcell1 := cell_of_one (hg1.trans hg); have hfree1 := free_of_one (hg1.trans hg))
      all_goals
        have hst := store_writer (bs := cur ++ [b]) hg hg1 (by rw [List.length_append]; exact hown')
        have hkk := (hk.trans (Kept.of_below (((((Below.refl base wr).alloc (by omega) _).drew).trans hbel)))).setCell 0 (.slice (some ⟨r, 0, none⟩) (cur.length + 1) cap)
        clear hown' hbel hown hcell hg hg1 hne hk
        go_wp2
        go_roundw
        case rel => exact ⟨j + 1, by go_num, by omega, by rw [HE.out]; exact hst, hkk⟩
        case measure => simp [intOf]; omega
    · have HE : Hid (bs ++ fEnc n size = cur) := by show _ = _; rw [HC.out, show j = size by omega]
      go_wp2
      go_ret
      exact ⟨rfl, by rw [HE.out]; exact ⟨v, hg, hown⟩, hk⟩
/-- the number that bytes are, 8 bits each -/
def fval : List UInt8 → Nat
  | [] => 0
  | c :: t => c.toNat + 256 * fval t
theorem fval_snoc (l : List UInt8) (c : UInt8) : fval (l ++ [c]) = fval l + c.toNat * 256 ^ l.length := by
  induction l with
  | nil => simp [fval]
  | cons a t ih => simp only [List.cons_append, fval, ih, List.length_cons, Nat.pow_succ, Nat.mul_add]; rw [Nat.add_assoc]; congr 2; rw [Nat.mul_left_comm, Nat.mul_comm 256]
theorem fval_lt (l : List UInt8) : fval l < 256 ^ l.length := by
  induction l with
  | nil => simp [fval]
  | cons a t ih =>
    simp only [fval, List.length_cons, Nat.pow_succ]
    have := a.toNat_lt
    omega
theorem toNat_ofInt64 (y : Nat) (z : Int) (hz : z % 18446744073709551616 = (y : Int)) : (BitVec.ofInt 64 z).toNat = y := by
  rw [BitVec.toNat_ofInt]
  have hc : ((2 ^ 64 : Nat) : Int) = 18446744073709551616 := by decide
  rw [hc, hz]; simp
theorem step_fix (x j c : Nat) (hx : x < 256 ^ j) (hj : j ≤ 7) (hc : c < 256) : bits .or .i64 (x : Int) (wrap64 ((c : Int) * 2 ^ (8 * j))) = wrap64 ((x + c * 256 ^ j : Nat) : Int) := by
  have e2 : (2 : Int) ^ (8 * j) = ((256 ^ j : Nat) : Int) := by rw [Int.pow_mul]; simp
  have h1 : 256 ^ j ≤ 256 ^ 7 := Nat.pow_le_pow_right (by decide) hj
  have hy : c * 256 ^ j < 18446744073709551616 := by
    have : c * 256 ^ j ≤ 255 * 256 ^ 7 := Nat.mul_le_mul (by omega) h1
    omega
  rw [e2, ← Int.natCast_mul]
  show IntKind.i64.wrap (((BitVec.ofInt 64 (x : Int) ||| BitVec.ofInt 64 (wrap64 ((c * 256 ^ j : Nat) : Int))).toNat : Nat) : Int) = _
  rw [BitVec.toNat_or, toNat_ofInt64 x _ (by omega), toNat_ofInt64 (c * 256 ^ j) _ (by unfold wrap64; omega), IntKind.wrap_i64]
  have hj2 : x ||| c * 256 ^ j = x + c * 256 ^ j := by
    rw [Nat.or_comm, nat_join (8 * j) _ _ (by rw [Nat.pow_mul]; exact Nat.mul_mod_left _ _) (by rw [Nat.pow_mul]; exact hx), Nat.add_comm]
  rw [hj2]
  unfold wrap64
  omega
theorem start0 (s : ByteArray) : wrap64 ((fval (List.take 0 s.data.toList) : Nat) : Int) = 0 := by show wrap64 0 = 0; unfold wrap64; rfl
theorem ftake (s : ByteArray) (j x : Nat) (h : j < s.size) (hx : x = fval (s.data.toList.take j)) : x < 256 ^ j ∧ fval (s.data.toList.take (j + 1)) = x + s[j].toNat * 256 ^ j := by
  have hl : (s.data.toList.take j).length = j := by rw [List.length_take, Array.length_toList]; exact Nat.min_eq_left (Nat.le_of_lt h)
  refine ⟨by rw [hx]; have := fval_lt (s.data.toList.take j); rwa [hl] at this, ?_⟩
  rw [take_snoc s j h, fval_snoc, hl, ← hx]
theorem fixedr_err (g : Nat) (s : ByteArray) (e z : Int) (hz : sized z = true) (w : World) (h : RIs g w s e) (he : e ≠ 0) : Calls Tryz.prog 97 #[.pointer (some ⟨g, 0, none⟩), .int .i64 z] w fun x w' => x = .returned (.tuple #[.int .i64 0, .int .i64 e]) ∧ w' = w := by
  have he' : (e != 0) = true := by simp [he]
  clear he
  go_enter Tryz.func97, Tryz.ntmps97
  go_wp2_with (first | (go_at_call 127; refine (isSize_is _ _).mono ?_; rintro x w' ⟨rfl, hw⟩; have hw := hw.symm; subst hw; rw [hz]) | (go_at_call 128; refine (fault_r g s e _ h).mono ?_; rintro x w' ⟨rfl, rfl⟩))
  go_ret2
  exact ⟨rfl, rfl⟩
theorem fixedr_cut (g : Nat) (s : ByteArray) (k : Nat) (hz : sized k = true) (hk : s.size < k) (_hk8 : k ≤ 8) (w : World) (h : RIs g w s 0) : Calls Tryz.prog 97 #[.pointer (some ⟨g, 0, none⟩), .int .i64 k] w fun x w' => x = .returned (.tuple #[.int .i64 0, .int .i64 20]) ∧ RIs g w' s 20 ∧ Kept w.heap.size g w w' := by
  have h0 := h.c0
  have HR : Hid (RIs g w s 0) := h
  go_enter Tryz.func97, Tryz.ntmps97
  go_wp2_with (first | (go_at_call 127; refine (isSize_is _ _).mono ?_; rintro x w' ⟨rfl, hw⟩; have hw := hw.symm; subst hw; rw [hz]) | (go_at_call 128; refine (fault_r g s 0 _ h).mono ?_; rintro x w' ⟨rfl, hw⟩; have hw := hw.symm; subst hw) | (go_at_call 129; refine (take_bad g s 0 _ _ _ HR.out (by decide)).mono ?_; rintro x w' ⟨rfl, hr', hk'⟩))
  go_ret2
  exact ⟨rfl, hr', hk'⟩
set_option maxRecDepth 100000 in
set_option maxHeartbeats 2000000 in
theorem fixedr_ok (g : Nat) (s : ByteArray) (k : Nat) (hz : sized k = true) (hks : k ≤ s.size) (hk8 : k ≤ 8) (hs : s.size ≤ maxLen) (hb : fval (s.data.toList.take k) < 9223372036854775808) (w : World) (h : RIs g w s 0) :
    Calls Tryz.prog 97 #[.pointer (some ⟨g, 0, none⟩), .int .i64 k] w fun x w' => x = .returned (.tuple #[.int .i64 (fval (s.data.toList.take k)), .int .i64 0]) ∧ RIs g w' (s.extract k s.size) 0 ∧ Kept w.heap.size g w w' := by
  have h0 := h.c0
  have HR : Hid (RIs g w s 0) := h
  have HM : Hid (s.size ≤ maxLen) := hs
  have HB : Hid (fval (s.data.toList.take k) < 9223372036854775808) := hb
  clear hb
  unfold maxLen at hs
  go_enter Tryz.func97, Tryz.ntmps97
  go_wp2_with (first | (go_at_call 127; refine (isSize_is _ _).mono ?_; rintro x w' ⟨rfl, hw⟩; have hw := hw.symm; subst hw; rw [hz]) | (go_at_call 128; refine (fault_r g s 0 _ h).mono ?_; rintro x w' ⟨rfl, hw⟩; have hw := hw.symm; subst hw))
  go_loop [7, 27] (fun u i => ∃ j : Nat, i = .int .i64 j ∧ j ≤ k ∧ u = .int .i64 (wrap64 (fval (s.data.toList.take j)))) (fun _ i => k - (intOf i).toNat)
  case atStart => exact ⟨0, rfl, Nat.zero_le _, by rw [start0]⟩
  case round =>
    obtain ⟨j, rfl, hj, rfl⟩ := hrel
    by_cases hlt : j < k
    · have hjs : j < s.size := by omega
      have ⟨f1, f2⟩ := ftake s j _ hjs rfl
      have hc := s[j].toNat_lt
      have hsm : 256 ^ j ≤ 256 ^ 7 := Nat.pow_le_pow_right (by decide) (by omega)
      obtain ⟨x, hx⟩ : ∃ x, x = fval (s.data.toList.take j) := ⟨_, rfl⟩
      rw [← hx] at f1 f2 ⊢
      have hw : wrap64 (x : Int) = (x : Int) := by unfold wrap64; omega
      have HS : Hid (bits .or .i64 (x : Int) (wrap64 ((s[j].toNat : Int) * 2 ^ (8 * j))) = wrap64 (fval (s.data.toList.take (j + 1)))) := by
        show _ = _
        rw [step_fix x j _ f1 (by omega) hc, f2]
      rw [hw]
      clear hx f1 f2 hsm hw
      go_wp2
      go_round
      case rel => exact ⟨j + 1, by go_num, by omega, by rw [← HS.out]⟩
      case measure => simp [intOf]; omega
    · have hjk : j = k := by omega
      subst hjk
      have hl : (s.data.toList.take j).length = j := by rw [List.length_take, Array.length_toList]; exact Nat.min_eq_left hks
      have hfl := fval_lt (s.data.toList.take j)
      rw [hl] at hfl
      have hsm : 256 ^ j ≤ 256 ^ 8 := Nat.pow_le_pow_right (by decide) (by omega)
      obtain ⟨x, hx⟩ : ∃ x, x = fval (s.data.toList.take j) := ⟨_, rfl⟩
      rw [← hx] at hfl ⊢
      have hb : x < 9223372036854775808 := by rw [hx]; exact HB.out
      have hw : wrap64 (x : Int) = (x : Int) := by unfold wrap64; omega
      rw [hw]
      have HX : Hid (fval (s.data.toList.take j) = x) := hx.symm
      clear hx hfl hsm hw hl
      go_wp2_with (first | (go_at_call 129; refine (take_ok g s j hks HM.out _ HR.out).mono ?_; rintro x w' ⟨rfl, hr', hk'⟩))
      go_ret2
      exact ⟨by rw [HX.out]; rfl, hr', hk'⟩
set_option maxRecDepth 100000 in
set_option maxHeartbeats 2000000 in
theorem fixedr_form (g : Nat) (s : ByteArray) (k : Nat) (hz : sized k = true) (hks : k ≤ s.size) (hk8 : k ≤ 8) (hs : s.size ≤ maxLen) (hb : ¬ fval (s.data.toList.take k) < 9223372036854775808) (w : World) (h : RIs g w s 0) :
    Calls Tryz.prog 97 #[.pointer (some ⟨g, 0, none⟩), .int .i64 k] w fun x w' => x = .returned (.tuple #[.int .i64 0, .int .i64 4]) ∧ RIs g w' s 4 ∧ Kept w.heap.size g w w' := by
  have h0 := h.c0
  have HR : Hid (RIs g w s 0) := h
  have HB : Hid (¬ fval (s.data.toList.take k) < 9223372036854775808) := hb
  clear hb
  unfold maxLen at hs
  go_enter Tryz.func97, Tryz.ntmps97
  go_wp2_with (first | (go_at_call 127; refine (isSize_is _ _).mono ?_; rintro x w' ⟨rfl, hw⟩; have hw := hw.symm; subst hw; rw [hz]) | (go_at_call 128; refine (fault_r g s 0 _ h).mono ?_; rintro x w' ⟨rfl, hw⟩; have hw := hw.symm; subst hw))
  go_loop [7, 27] (fun u i => ∃ j : Nat, i = .int .i64 j ∧ j ≤ k ∧ u = .int .i64 (wrap64 (fval (s.data.toList.take j)))) (fun _ i => k - (intOf i).toNat)
  case atStart => exact ⟨0, rfl, Nat.zero_le _, by rw [start0]⟩
  case round =>
    obtain ⟨j, rfl, hj, rfl⟩ := hrel
    by_cases hlt : j < k
    · have hjs : j < s.size := by omega
      have ⟨f1, f2⟩ := ftake s j _ hjs rfl
      have hc := s[j].toNat_lt
      have hsm : 256 ^ j ≤ 256 ^ 7 := Nat.pow_le_pow_right (by decide) (by omega)
      obtain ⟨x, hx⟩ : ∃ x, x = fval (s.data.toList.take j) := ⟨_, rfl⟩
      rw [← hx] at f1 f2 ⊢
      have hw : wrap64 (x : Int) = (x : Int) := by unfold wrap64; omega
      have HS : Hid (bits .or .i64 (x : Int) (wrap64 ((s[j].toNat : Int) * 2 ^ (8 * j))) = wrap64 (fval (s.data.toList.take (j + 1)))) := by
        show _ = _
        rw [step_fix x j _ f1 (by omega) hc, f2]
      rw [hw]
      clear hx f1 f2 hsm hw
      go_wp2
      go_round
      case rel => exact ⟨j + 1, by go_num, by omega, by rw [← HS.out]⟩
      case measure => simp [intOf]; omega
    · have hjk : j = k := by omega
      subst hjk
      have hl : (s.data.toList.take j).length = j := by rw [List.length_take, Array.length_toList]; exact Nat.min_eq_left hks
      have hfl := fval_lt (s.data.toList.take j)
      rw [hl] at hfl
      have hsm : 256 ^ j ≤ 256 ^ 8 := Nat.pow_le_pow_right (by decide) (by omega)
      obtain ⟨x, hx⟩ : ∃ x, x = fval (s.data.toList.take j) := ⟨_, rfl⟩
      rw [← hx] at hfl ⊢
      have hb : ¬ x < 9223372036854775808 := by rw [hx]; exact HB.out
      have hw : wrap64 (x : Int) < 0 := by unfold wrap64; omega
      obtain ⟨y, hy⟩ : ∃ y, y = wrap64 (x : Int) := ⟨_, rfl⟩
      rw [← hy] at hw ⊢
      clear hx hfl hsm hl hb hy
      go_wp2_with (first | (go_at_call 129; refine (take_bad g s 0 _ _ _ HR.out (by decide)).mono ?_; rintro x w' ⟨rfl, hr', hk'⟩))
      go_ret2
      exact ⟨rfl, hr', hk'⟩
end Go.Proofs.YtopebghandojbaaGreat
