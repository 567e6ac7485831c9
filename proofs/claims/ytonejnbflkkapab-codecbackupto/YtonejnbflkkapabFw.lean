import Derived.Test.YtonejnbflkkapabFx
import Derived.Deep.RegionLaw
namespace Go.Proofs.Ytonejnbflkkapab
open Go.RowKit

/-- one byte more at the end of a row of the call's own, as a step of a region that draws its order -/
theorem step_push {ops : Array Oper} {o : Oper} {a : Act} {w : World} {K : Act → World → Prop} {Q : Exit → Act → World → Prop} {E : Prop} (hg : o.guard = none) (s x : Operand)
    (hop : o.op = .call { callee := .builtin .append, args := #[s, x], argTypes := #[57, 57] }) (base : Nat) (v : Value) (n : Nat) (bs : List UInt8) (z : Int) (b : UInt8) (hz : z = b.toNat)
    (hs : a.eval s = v) (ad : Addr) (hx : a.eval x = .slice (some ad) 1 1) (hc : w.cell? ad = some (.int .u8 z)) (hspot : ad.spot = none) (hown : w.ownsRow base 5 1 v n (bc bs)) (hn : n ≤ 100000000000) (hbase : base ≤ w.heap.size)
    (h : ∀ r cap w', w'.ownsRow base 5 1 (.slice (some ⟨r, 0, none⟩) (n + 1) cap) (n + 1) (bc (bs ++ [b])) → Below base w w' → (∀ k, k < w.heap.size → v.ownBlock ≠ some k → w'.heap[k]? = w.heap[k]?) → K (a.put o.dst (.slice (some ⟨r, 0, none⟩) (n + 1) cap)) w') :
    if Region.wanted o (yielded ops a.tmps) = true then Oper.wp Try.prog o a w K Q else E := by
  have hw : Region.wanted o (yielded ops a.tmps) = true := by simp [Region.wanted, hg]
  rw [if_pos hw]
  obtain ⟨i0, hi, hz0, hz1, hz2⟩ := info_parts Try.info5
  subst hz
  refine wp_append_own w s x 57 hop base 5 i0 (.int .u8 0) 1 1 Try.underlying57 hi hz0 hz1 hz2 rfl (by decide) v n (bc bs) hs hown ad 1 1 [.int .u8 b.toNat] hx rfl ?_ ?_ ?_ ?_ hbase ?_
  · intro j u hj
    match j, hj with
    | 0, hj => simp at hj; subst hj; obtain ⟨bb, oo, sp⟩ := ad; simp at hspot; subst hspot; simpa [Addr.add] using hc
  · intro u hu; simp at hu; subst hu; rfl
  · unfold maxLen; omega
  · omega
  · intro v' w' h1 h2 _
    obtain ⟨r, cap, rfl⟩ : ∃ r cap, v' = .slice (some ⟨r, 0, none⟩) (n + 1) cap := by
      obtain ⟨_, e | ⟨g, cap, cur, e, _⟩⟩ := h1
      · exact absurd e.2 (by omega)
      · exact ⟨g, cap, e⟩
    exact h r cap w' (by rw [bc_append]; exact h1) ((Below.refl base w).grown h2 hbase fun k hk => (hown.lt k hk).1) fun k hk hne => h2.block k hk (fun e => hne e.symm)

theorem one_alloc (w : World) (x : Value) (t : TypeId) : (w.alloc (.cells #[x] t)).drew.cell? ⟨w.heap.size, 0, none⟩ = some x := by
  refine cell_of_one (t := t) ?_
  show (w.heap.push _)[w.heap.size]? = _
  simp
theorem fEnc_at (n : Nat) : ∀ (k j : Nat), j ≤ k → fEnc n k = fEnc n j ++ fEnc (n / 256 ^ j) (k - j) := by
  intro k j
  induction j generalizing n k with
  | zero => intro _; simp [fEnc]
  | succ j ih =>
    intro h
    obtain ⟨k, rfl⟩ : ∃ k', k = k' + 1 := ⟨k - 1, by omega⟩
    rw [fEnc, fEnc, List.cons_append, show k + 1 - (j + 1) = k - j by omega, Nat.pow_succ, Nat.mul_comm, ← Nat.div_div_eq_div_mul, ← ih (n / 256) k (by omega)]

set_option maxRecDepth 100000 in
set_option maxHeartbeats 2000000 in
theorem fixed_w (base g n size : Nat) (bs : List UInt8) (hn : n ≤ 9223372036854775807) (hsz : size ≤ 8) (hf : fitsB n size = true) (hlen : bs.length ≤ 10000000000) (w : World) (hw : WIs base g w bs) (hbase : base ≤ w.heap.size) :
    Calls Try.prog 34 #[.pointer (some ⟨g, 0, none⟩), .int .i64 n, .int .i64 size] w fun e w' => e = .returned (.int .i64 0) ∧ WIs base g w' (bs ++ fEnc n size) ∧ Kept base g w w' := by
  go_enter Try.func34, Try.ntmps34
  go_wp2_with (first | (go_at_call 44; refine (isFixed_any _ _ (by omega) _).mono ?_; rintro x wq ⟨rfl, hwq⟩; have hwq := hwq.symm; subst hwq; rw [hf]))
  go_loopw [15] (fun i wr => ∃ (j : Nat), i = .int .i64 j ∧ j ≤ size ∧ WIs base g wr (bs ++ fEnc n j) ∧ Kept base g w wr) (fun i _ => size - (intOf i).toNat)
  case atStart => exact ⟨0, rfl, Nat.zero_le _, by simpa [fEnc] using hw, Kept.refl _ _ _⟩
  case round =>
    obtain ⟨j, rfl, hj, hwi, hk⟩ := hrel
    obtain ⟨cur, hcur⟩ : ∃ cur, cur = bs ++ fEnc n j := ⟨_, rfl⟩
    have hcl : cur.length ≤ 100000000000 := by rw [hcur, List.length_append, fEnc_len]; omega
    rw [← hcur] at hwi
    have HC : Hid (cur = bs ++ fEnc n j) := hcur
    clear hcur
    obtain ⟨v, hg, hown⟩ := hwi
    have hcell := cell_of_one hg
    have hz := hk.size
    have hglt := lt_of_block hg
    have hne := ownBlock_ne hown hg
    by_cases hlt : j < size
    · obtain ⟨b, hb⟩ : ∃ b, b = UInt8.ofNat (n / 256 ^ j % 256) := ⟨_, rfl⟩
      have HE : Hid (bs ++ fEnc n (j + 1) = cur ++ [b]) := by
        show _ = _
        rw [fEnc_at n (j + 1) j (by omega), HC.out, hb, show j + 1 - j = 1 by omega, fEnc, fEnc, List.append_assoc]
      obtain ⟨q, hq⟩ : ∃ q, q = n / 256 ^ j := ⟨_, rfl⟩
      have hsh : ∀ w, (Op.shift BinOp.shr IntKind.i64 (n : Int) IntKind.i64 (IntKind.i64.wrap (8 * (j : Int)))).run Try.prog w = .ok (.int .i64 q) w := fun w => by
        rw [IntKind.wrap_i64, show (8 * (j : Int) + 9223372036854775808) % 18446744073709551616 - 9223372036854775808 = ((8 * j : Nat) : Int) by omega, shift_shr_any _ _ _ _ (by omega), Int.toNat_natCast]
        have hm : min (8 * j) IntKind.i64.bits = 8 * j := by show min (8 * j) 64 = 8 * j; omega
        rw [hm, hq, Int.pow_mul]
        simp
      have HB : Hid (IntKind.u8.wrap (q : Int) = (b.toNat : Int)) := by show _ = _; rw [hb, hq, UInt8.toNat_ofNat', IntKind.wrap_u8]; omega
      have HB1 : Hid (∀ o, base ≤ (wr.alloc o).drew.heap.size) := fun o => by show base ≤ (wr.heap.push o).size; rw [Array.size_push]; omega
      have HG2 : Hid (∀ o, g < (wr.alloc o).drew.heap.size) := fun o => by show g < (wr.heap.push o).size; rw [Array.size_push]; omega
      clear hb hq
      go_wp2
      go_region_law (refine step_push rfl (.tmp 22) (.tmp 28) rfl base v cur.length cur (IntKind.u8.wrap (q : Int)) b HB.out (by simp [Act.eval]) ⟨wr.heap.size, 0, none⟩ (by simp [Act.eval]) (one_alloc _ _ _) rfl (hown.alloc _) hcl (HB1.out _) ?_; intro r cap w1 hown' hbel hsame; have hg1 : w1.heap[g]? = wr.heap[g]? := (hsame g (HG2.out _) hne).trans (Below.heap_alloc _ _ _ hglt); have hcell1 := cell_of_one (hg1.trans hg); have hfree1 := free_of_one (hg1.trans hg))
      all_goals
        have hst := store_writer (bs := cur ++ [b]) hg hg1 (by rw [List.length_append]; exact hown')
        have hkk := (hk.trans (Kept.of_below (((((Below.refl base wr).alloc (by omega) _).drew).trans hbel)))).setCell 0 (.slice (some ⟨r, 0, none⟩) (cur.length + 1) cap)
        clear hown' hbel hown hcell hg hg1 hne hk
        go_wp2
        go_roundw
        case rel => exact ⟨j + 1, by go_num, by omega, by rw [HE.out]; exact hst, hkk⟩
        case measure => simp [intOf]; omega
    · have HE : Hid (bs ++ fEnc n size = cur) := by show _ = _; rw [HC.out, show j = size by omega]
      go_wp2
      go_ret
      exact ⟨rfl, by rw [HE.out]; exact ⟨v, hg, hown⟩, hk⟩
end Go.Proofs.Ytonejnbflkkapab
