import Derived.Test.YtjphfpfagnhelaaWr
namespace Go.Proofs.Ytjphfpfagnhelaa
open Go.RowKit

theorem uint_w (base g : Nat) (n : Nat) (bs : List UInt8) (hn : n ≤ 9223372036854775807) (hlen : bs.length ≤ 10000000000) (w : World) (hw : WIs base g w bs) (hbase : base ≤ w.heap.size) :
    Calls Try.prog 35 #[.pointer (some ⟨g, 0, none⟩), .int .i64 n] w fun e w' => e = .returned (.int .i64 0) ∧ WIs base g w' (bs ++ uEnc n) ∧ Kept base g w w' := by
  go_enter Try.func35, Try.ntmps35
  go_wp2_with (go_at_call 57; refine (number_w base g n bs (by omega) hlen _ hw hbase).mono ?_; rintro e w' ⟨rfl, h1, h2⟩)
  go_ret
  exact ⟨rfl, h1, h2⟩
theorem xor_ones (a : Nat) (h : a < 18446744073709551616) : a ^^^ 18446744073709551615 = 18446744073709551615 - a := by
  have e := congrArg BitVec.toNat (BitVec.xor_allOnes (x := BitVec.ofNat 64 a))
  rw [BitVec.toNat_xor, BitVec.toNat_not, BitVec.toNat_ofNat, BitVec.toNat_allOnes] at e
  have h1 : a % 2 ^ 64 = a := Nat.mod_eq_of_lt (by omega)
  rw [h1] at e
  have h2 : (2 : Nat) ^ 64 - 1 = 18446744073709551615 := by decide
  rw [h2] at e
  rw [e]
theorem fold_num (n : Int) (hn : -9223372036854775808 ≤ n ∧ n ≤ 9223372036854775807) : bits .xor .u64 (IntKind.u64.wrap (IntKind.u64.wrap n * 2)) (IntKind.u64.wrap (n / 9223372036854775808)) = (zig n : Int) := by
  rw [IntKind.wrap_u64, IntKind.wrap_u64, IntKind.wrap_u64]
  unfold zig
  by_cases h : 0 ≤ n
  · rw [if_pos h, show n / 9223372036854775808 % 18446744073709551616 = ((0 : Nat) : Int) by omega, show n % 18446744073709551616 * 2 % 18446744073709551616 = (((2 * n).toNat : Nat) : Int) by omega, bits_xor_u64_nat _ _ (by omega) (by omega), Nat.xor_zero]
  · rw [if_neg h, show n / 9223372036854775808 % 18446744073709551616 = ((18446744073709551615 : Nat) : Int) by omega, show n % 18446744073709551616 * 2 % 18446744073709551616 = (((2 * n + 18446744073709551616).toNat : Nat) : Int) by omega, bits_xor_u64_nat _ _ (by omega) (by omega), xor_ones _ (by omega)]
    omega
theorem fold_any (n : Int) (hn : -9223372036854775808 ≤ n ∧ n ≤ 9223372036854775807) (w : World) : Calls Try.prog 76 #[.int .i64 n] w fun e w' => e = .returned (.int .u64 (zig n)) ∧ w' = w := by
  go_enter Try.func76, Try.ntmps76
  go_wp2
  go_ret
  exact ⟨ret_int (fold_num n hn), rfl⟩
theorem strOf_bytes (bs : List UInt8) : strOfNums (bs.map fun b => (b.toNat : Int)) = st bs := by
  unfold strOfNums st; congr 1; simp [Function.comp_def]
theorem conv_own {base : Nat} {v : Value} {bs : List UInt8} {w : World} (h : w.ownsRow base 5 1 v bs.length (bc bs)) : (convert 43 9 v).run Try.prog w = .ok (.string (st bs)) w := by
  have hh := h
  obtain ⟨e1, ⟨rfl, e2⟩ | ⟨b, cap, cur, rfl, e3, e4, e5⟩⟩ := h
  · rw [run_convert_bytes_nil w 43 5 Try.underlying43 Try.underlying5 0 0 9 Try.underlying9]
    have : bs = [] := List.eq_nil_of_length_eq_zero e2
    subst this; rfl
  · rw [← strOf_bytes]
    refine run_convert_bytes_arg w 43 5 Try.underlying43 Try.underlying5 b 0 bs.length cap _ (by simp) (fun i hi => ?_) 9 Try.underlying9
    rw [Nat.zero_add, hh.cellAt i (by omega)]
    simp [bc, hi]
theorem out_w (base g : Nat) (bs : List UInt8) (w : World) (hw : WIs base g w bs) : Calls Try.prog 36 #[.pointer (some ⟨g, 0, none⟩)] w fun e w' => e = .returned (.string (st bs)) ∧ w' = w := by
  obtain ⟨v, hg, hown⟩ := hw
  have hcell := cell_of_one hg
  have hconv := conv_own hown
  clear hown hg
  go_enter Try.func36, Try.ntmps36
  go_wp2
  go_ret
  exact ⟨rfl, rfl⟩

theorem int_w (base g : Nat) (n : Int) (bs : List UInt8) (hn : -9223372036854775808 ≤ n ∧ n ≤ 9223372036854775807) (hlen : bs.length ≤ 10000000000) (w : World) (hw : WIs base g w bs) (hbase : base ≤ w.heap.size) :
    Calls Try.prog 64 #[.pointer (some ⟨g, 0, none⟩), .int .i64 n] w fun e w' => e = .returned (.int .i64 0) ∧ WIs base g w' (bs ++ uEnc (zig n)) ∧ Kept base g w w' := by
  have hz := zig_lt n hn
  go_enter Try.func64, Try.ntmps64
  go_wp2_with (first | (go_at_call 76; refine (fold_any _ hn _).mono ?_; rintro e w' ⟨rfl, rfl⟩) | (go_at_call 57; refine (number_w base g (zig n) bs hz hlen _ hw hbase).mono ?_; rintro e w' ⟨rfl, h1, h2⟩))
  go_ret
  exact ⟨rfl, h1, h2⟩
/-- a string's bytes more at the end of a row of the call's own -/
theorem push_str {ops : Array Oper} {rest : List Oper} {o : Oper} {a : Act} {Q : Exit → Act → World → Prop} {w0 : World} (hgd : o.guard = none) (sl x : Operand)
    (ho : o.op = .call { callee := .builtin .append, args := #[sl, x], argTypes := #[43, 9] }) (base : Nat) (v : Value) (n : Nat) (bs : List UInt8) (s : ByteArray)
    (hs : a.eval sl = v) (hx : a.eval x = .string s) (hown : w0.ownsRow base 5 1 v n (bc bs)) (hn1 : 1 ≤ n) (hn : n + s.size ≤ 100000000000) (hbase : base ≤ w0.heap.size)
    (h : ∀ r cap w', w'.ownsRow base 5 1 (.slice (some ⟨r, 0, none⟩) (n + s.size) cap) (n + s.size) (bc (bs ++ s.data.toList)) → Below base w0 w' → (∀ k, k < w0.heap.size → v.ownBlock ≠ some k → w'.heap[k]? = w0.heap[k]?) → wpList Try.prog ops Q rest (a.put o.dst (.slice (some ⟨r, 0, none⟩) (n + s.size) cap)) w') :
    wpList Try.prog ops Q (o :: rest) a w0 := by
  obtain ⟨i0, hi, hz0, hz1, hz2⟩ := info_parts Try.info5
  refine Lib.wpList_append_own_string _ hgd sl x 43 9 ho base 5 i0 Try.underlying43 Try.underlying9 hi hz0 hz1 hz2 v n (bc bs) hs hown s hx (by unfold maxLen; omega) (by omega) hbase ?_
  intro v' w' h1 h2 _
  obtain ⟨r, cap, rfl⟩ : ∃ r cap, v' = .slice (some ⟨r, 0, none⟩) (n + s.size) cap := by
    obtain ⟨_, e | ⟨g, cap, cur, e, _⟩⟩ := h1
    · exact absurd e.2 (by omega)
    · exact ⟨g, cap, e⟩
  refine h r cap w' (by rw [bc_append]; exact h1) ((Below.refl base w0).grown h2 hbase fun k hk => (hown.lt k hk).1) fun k hk hne => ?_
  exact h2.block k hk (fun e => hne e.symm)

set_option maxHeartbeats 1000000 in
theorem text_w (base g : Nat) (s : ByteArray) (bs : List UInt8) (hs : s.size ≤ 65535) (hlen : bs.length ≤ 10000000000) (w : World) (hw : WIs base g w bs) (hbase : base ≤ w.heap.size) :
    Calls Try.prog 65 #[.pointer (some ⟨g, 0, none⟩), .string s] w fun e w' => e = .returned (.int .i64 0) ∧ WIs base g w' (bs ++ (uEnc s.size ++ s.data.toList)) ∧ Kept base g w w' := by
  obtain ⟨cur, hcur⟩ : ∃ cur, cur = bs ++ uEnc s.size := ⟨_, rfl⟩
  have hul := uEnc_len64 s.size (by omega)
  have hcl : 1 ≤ cur.length ∧ cur.length ≤ 20000000000 := by rw [hcur]; simp; omega
  have hnum := number_w base g s.size bs (by omega) hlen w hw hbase
  rw [← hcur] at hnum
  have HC : Hid (cur = bs ++ uEnc s.size) := hcur
  have HN : Hid (Calls Try.prog 57 #[.pointer (some ⟨g, 0, none⟩), .int .u64 s.size] w fun e w' => e = .returned (.int .i64 0) ∧ WIs base g w' cur ∧ Kept base g w w') := hnum
  clear hcur hnum hul
  go_enter Try.func65, Try.ntmps65
  go_wp2_with (first | (go_at_call 57; refine HN.out.mono ?_; rintro e w1 ⟨rfl, h1, hk1⟩; obtain ⟨v, hg, hown⟩ := h1; have hcell := cell_of_one hg; have hsz := hk1.size; have hglt := lt_of_block hg; have hne := ownBlock_ne hown hg) | (at_builtin; refine push_str rfl (.tmp 21) (.tmp 22) rfl base _ cur.length cur s rfl rfl hown hcl.1 (by omega) (by omega) ?_; intro r cap w2 hown' hbel hsame; have hg1 := hsame g hglt hne; have hcell1 := cell_of_one (hg1.trans hg); have hfree1 := free_of_one (hg1.trans hg)))
  go_ret
  refine ⟨rfl, ?_, (hk1.trans (Kept.of_below hbel)).setCell 0 _⟩
  rw [← List.append_assoc, ← HC.out]
  refine store_writer hg hg1 ?_
  rw [List.length_append, Array.length_toList]
  exact hown'
end Go.Proofs.Ytjphfpfagnhelaa
