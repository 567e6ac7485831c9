import Derived.Test.YtonejnbflkkapaaFac
import Derived.Test.YtonejnbflkkapaaSpk
namespace Go.Proofs.Ytonejnbflkkapaa
open Go.RowKit

theorem Try.info4 : (Try.prog.info? 4).map (fun i => (i.zero, i.size, i.bytes)) = some (some (.bool false), 1, 1) := by kernel_rfl
/-- the first k bits, as cells -/
def cellsB (f : Nat → Bool) (k : Nat) : List Value := (List.range k).map fun j => Value.bool (f j)
theorem cellsB_succ (f : Nat → Bool) (k : Nat) (b : Bool) (h : b = f k) : cellsB f k ++ [.bool b] = cellsB f (k + 1) := by subst h; unfold cellsB; rw [List.range_succ]; simp
theorem cellsB_get (f : Nat → Bool) (n j : Nat) (h : j < n) : (cellsB f n)[j]? = some (.bool (f j)) := by unfold cellsB; simp [h]

/-- one bool more at the end of a row of the call's own -/
theorem push_bool {ops : Array Oper} {rest : List Oper} {o : Oper} {a : Act} {Q : Exit → Act → World → Prop} {w0 : World} (hgd : o.guard = none) (s x : Operand)
    (ho : o.op = .call { callee := .builtin .append, args := #[s, x], argTypes := #[43, 43] }) (base : Nat) (v : Value) (n : Nat) (xs : List Value) (b : Bool)
    (hs : a.eval s = v) (hx : a.eval x = .slice (some ⟨w0.heap.size, 0, none⟩) 1 1) (hown : w0.ownsRow base 4 1 v n xs) (hn : n ≤ 1000000) (hbase : base ≤ w0.heap.size)
    (h : ∀ v' w', w'.ownsRow base 4 1 v' (n + 1) (xs ++ [.bool b]) → Below base w0 w' → wpList Try.prog ops Q rest (a.put o.dst v') w') :
    wpList Try.prog ops Q (o :: rest) a (w0.alloc (.cells #[.bool b] 4)) := by
  obtain ⟨i0, hi, hz0, hz1, hz2⟩ := info_parts Try.info4
  refine wpList_append_own _ hgd s x 43 ho base 4 i0 (.bool false) 1 1 Try.underlying43 hi hz0 hz1 hz2 rfl (by decide) v n xs hs (hown.alloc _) ⟨w0.heap.size, 0, none⟩ 1 1 [.bool b] hx rfl ?_ ?_ ?_ ?_ ?_ ?_
  · intro j u hj
    match j, hj with
    | 0, hj => simp at hj; subst hj; simp [Addr.add]
  · intro u hu; simp at hu; subst hu; rfl
  · unfold maxLen; omega
  · omega
  · simp; omega
  · intro v' w' h1 h2 _
    exact h v' w' h1 (((Below.refl base w0).alloc hbase _).grown h2 (by simp; omega) fun k hk => (hown.lt k hk).1)

theorem and1 (m : Int) : (bits .and .i64 m 1 == 1) = bt m 0 := by
  have e : bits .and .i64 m 1 = m % 2 := by
    show IntKind.i64.wrap (((BitVec.ofInt 64 m &&& BitVec.ofInt 64 1).toNat : Nat) : Int) = _
    have h2 : (BitVec.ofInt 64 1).toNat = 1 := by decide
    rw [BitVec.toNat_and, h2, Nat.and_one_is_mod, BitVec.toNat_ofInt, IntKind.wrap_i64]
    have hc : ((2 ^ 64 : Nat) : Int) = 18446744073709551616 := by decide
    rw [hc]
    omega
  rw [e, bt_div m 0 (by decide)]
  rw [Bool.eq_iff_iff]; simp
theorem bit_at (n m : Int) (k : Nat) (hk : k < 64) (h : m = n / 2 ^ k) : (bits .and .i64 m 1 == 1) = bt n k := by
  rw [and1, h, bt_shr n k 0 (by decide) (by omega)]; rfl
theorem half (n m : Int) (k : Nat) (h : m = n / 2 ^ k) : m / 2 = n / 2 ^ (k + 1) := by
  rw [h, Int.pow_succ, Int.ediv_ediv_of_nonneg (by have := pow_pos' k; omega)]

set_option maxHeartbeats 400000 in
theorem bits_own (n : Int) (w : World) : Calls Try.prog 28 #[.int .i64 n] w fun e w' => ∃ v, e = .returned v ∧ w'.ownsRow w.heap.size 4 1 v 64 (cellsB (bt n) 64) ∧ Below w.heap.size w w' := by
  go_enter Try.func28, Try.ntmps28
  go_wp2
  go_loopw [0, 3, 4] (fun x v i wr => ∃ (k : Nat) (m : Int), k ≤ 64 ∧ i = .int .i64 k ∧ x = .int .i64 m ∧ m = n / 2 ^ k ∧ wr.ownsRow w.heap.size 4 1 v k (cellsB (bt n) k) ∧ Below w.heap.size w wr) (fun _ _ i _ => 64 - (intOf i).toNat)
  case atStart => exact ⟨0, n, Nat.zero_le _, rfl, rfl, by simp, World.ownsRow_nil _ _ _ _, Below.refl _ _⟩
  case round =>
    obtain ⟨k, m, hk, rfl, rfl, hm, hown, hnx⟩ := hrel
    have HM : Hid (m = n / 2 ^ k) := hm
    clear hm
    have hsz := hnx.size
    by_cases hlt : k < 64
    · go_wp2_with (at_builtin; refine push_bool rfl _ _ rfl _ _ _ _ _ rfl rfl hown (by omega) hsz ?_)
      intro v' w1 hown' hbel
      have hown2 := (cellsB_succ (bt n) k _ (bit_at n m k hlt HM.out)) ▸ hown'
      have hnx2 := hnx.trans hbel
      clear hown' hbel hown hnx
      go_wp2
      go_roundw
      case rel => exact ⟨k + 1, m / 2, by omega, by go_num, rfl, half n m k HM.out, hown2, hnx2⟩
      case measure => simp [intOf]; omega
    · have hk64 : k = 64 := by omega
      subst hk64
      go_wp2
      go_ret
      exact ⟨_, rfl, hown, hnx⟩

/-- a slice of 64 bools, in a block of its own -/
def Has (w : World) (v : Value) (f : Nat → Bool) : Prop := ∃ g cap, v = .slice (some ⟨g, 0, none⟩) 64 cap ∧ g < w.heap.size ∧ ∀ i, i < 64 → w.cell? ⟨g, i, none⟩ = some (.bool (f i))
theorem has_of_own {w : World} {base : Nat} {v : Value} {f : Nat → Bool} (h : w.ownsRow base 4 1 v 64 (cellsB f 64)) : Has w v f := by
  have hh := h
  obtain ⟨h1, h2 | ⟨g, cap, cur, hv, h3⟩⟩ := h
  · exact absurd h2.2 (by decide)
  · subst hv
    refine ⟨g, cap, rfl, (hh.lt g rfl).2, fun i hi => ?_⟩
    rw [hh.cellAt i (by omega)]
    exact cellsB_get f 64 i hi
theorem Has.later {w w' : World} {v : Value} {f : Nat → Bool} (h : Has w v f) (hb : Below w.heap.size w w') : Has w' v f := by
  obtain ⟨g, cap, rfl, hg, hc⟩ := h
  exact ⟨g, cap, rfl, Nat.lt_of_lt_of_le hg hb.size, fun i hi => (hb.cell (p := ⟨g, i, none⟩) hg).trans (hc i hi)⟩

theorem dbl_bit (x : Int) (k : Nat) (f : Nat → Bool) (hk : k < 64) (h : ∀ t, t < 64 → bt x t = (decide (t + (k + 1) < 64) && f (t + (k + 1)))) (m : Int) (hm : m = wrap64 (wrap64 (x * 2) + (if f k then 1 else 0))) :
    ∀ t, t < 64 → bt m t = (decide (t + k < 64) && f (t + k)) := by
  intro t ht
  have e : bt m t = bt (x * 2 + (if f k then 1 else 0)) t := by
    rw [hm, bt_wrap64]; refine bt_of_mod ?_ t
    unfold wrap64; omega
  rw [e, bt_dbl x (f k) t ht]
  by_cases h0 : t = 0
  · subst h0; simp; omega
  · rw [if_neg h0, h (t - 1) (by omega), show t - 1 + (k + 1) = t + k by omega]

theorem wrap64_zero (x : Int) : wrap64 x = wrap64 (wrap64 x + (if false = true then 1 else 0)) := by unfold wrap64; simp
set_option maxHeartbeats 400000 in
theorem number_any (v : Value) (f : Nat → Bool) (w : World) (hv : Has w v f) : Calls Try.prog 26 #[v] w fun e w' => ∃ m, e = .returned (.int .i64 m) ∧ (-9223372036854775808 ≤ m ∧ m ≤ 9223372036854775807) ∧ (∀ i, i < 64 → bt m i = f i) ∧ w' = w := by
  obtain ⟨g, cap, rfl, hg, hc⟩ := hv
  go_enter Try.func26, Try.ntmps26
  go_wp2
  go_loop [3, 4] (fun x i => ∃ (k : Nat) (m : Int), k ≤ 64 ∧ i = .int .i64 ((k : Int) - 1) ∧ x = .int .i64 m ∧ (-9223372036854775808 ≤ m ∧ m ≤ 9223372036854775807) ∧ ∀ t, t < 64 → bt m t = (decide (t + k < 64) && f (t + k))) (fun _ i => (intOf i + 1).toNat)
  case atStart => exact ⟨64, 0, Nat.le_refl _, rfl, rfl, by decide, fun t ht => by rw [bt_zero, decide_eq_false (by omega)]; rfl⟩
  case round =>
    obtain ⟨k, m, hk, rfl, rfl, hmr, hbits⟩ := hrel
    have HB : Hid (∀ t, t < 64 → bt m t = (decide (t + k < 64) && f (t + k))) := hbits
    clear hbits
    by_cases h0 : k = 0
    · subst h0
      clear hc
      go_wp2
      go_ret
      exact ⟨m, rfl, hmr, fun i hi => by rw [HB.out i hi]; simp [hi], rfl⟩
    · obtain ⟨j, rfl⟩ : ∃ j, k = j + 1 := ⟨k - 1, by omega⟩
      have hj : j < 64 := by omega
      have hcj : w.cell? ⟨g, j, none⟩ = some (.bool (f j)) := hc j hj
      clear hc h0
      cases hfj : f j with
      | true =>
        rw [hfj] at hcj
        go_wp2
        go_round
        case rel => exact ⟨j, _, by omega, rfl, rfl, wrap64_range _, dbl_bit m j f hj HB.out _ (by rw [hfj]; rfl)⟩
        case measure => simp [intOf]
      | false =>
        rw [hfj] at hcj
        go_wp2
        go_round
        case rel => exact ⟨j, _, by omega, rfl, rfl, wrap64_range _, dbl_bit m j f hj HB.out _ (by rw [hfj]; exact wrap64_zero _)⟩
        case measure => simp [intOf]
end Go.Proofs.Ytonejnbflkkapaa
