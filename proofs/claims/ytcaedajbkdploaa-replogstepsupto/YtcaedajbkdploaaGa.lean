import Derived.Test.YtcaedajbkdploaaFe
namespace Go.Proofs.Ytcaedajbkdploaa
open Go.RowKit Go.Maps

theorem eql_nil41 (w : World) (a : Addr) (n c : Nat) : (binOp .eql 41 (.slice (some a) n c) (.slice none 0 0)).run Try.prog w = .ok (.bool false) w := by
  exact Lib.run_eql_slice_nil (P := Try.prog) w 41 25 (some a) n c 0 0 Try.underlying41
theorem ERow.empty (w : World) : ERow w.heap.size (w.alloc (.cells #[] 25)) (.slice (some ⟨w.heap.size, 0, none⟩) 0 0) [] :=
  ⟨rfl, .inr ⟨w.heap.size, 0, #[], rfl, Nat.le_refl _, box_at _ _, by simp, by decide, by simp, by simp [ecs]⟩⟩
/-- nothing more at the end of a row of the call's own -/
theorem appE0 {ops : Array Oper} {rest : List Oper} {o : Oper} {a : Act} {Q : Exit → Act → World → Prop} {w0 : World} (hgd : o.guard = none) (s x : Operand)
    (ho : o.op = .call { callee := .builtin .append, args := #[s, x], argTypes := #[41, 41] }) (B1 : Nat) (v : Value) (T : List Ent) (ad : Addr) (c : Nat)
    (hs : a.eval s = v) (hx : a.eval x = .slice (some ad) 0 c) (hA : ERow B1 w0 v T) (hn : T.length ≤ 1000000000000) (hbase : B1 ≤ w0.heap.size)
    (h : ∀ v' w', ERow B1 w' v' T → Below B1 w0 w' → (∀ k, k < w0.heap.size → some k ≠ v.ownBlock → w'.heap[k]? = w0.heap[k]?) → (∀ b, v'.ownBlock = some b → v.ownBlock = some b ∨ w0.heap.size ≤ b) → wpList Try.prog ops Q rest (a.put o.dst v') w') :
    wpList Try.prog ops Q (o :: rest) a w0 := by
  obtain ⟨i0, hi, hz0, hz1, hz2⟩ := info_parts Try.info25
  have ho2 := hA.own
  refine wpList_append_own_at _ hgd s x 41 ho B1 25 i0 (.agg #[.int .i64 0, .int .i64 0, .int .i64 0, .int .i64 0, .int .i64 0, .int .i64 0, .string ⟨#[]⟩, .string ⟨#[]⟩, .string ⟨#[]⟩]) 9 96 Try.underlying41 hi hz0 hz1 hz2 rfl (by decide) v T.length (ecs T) hs hA ad 0 c [] hx rfl (by intro j u hj; simp at hj) (by intro u hu; simp at hu) (by unfold maxLen; omega) (by omega) hbase ?_
  intro v' w' hown hg _ hnew
  refine h v' w' ?_ ?_ (fun k hk hne => hg.block k hk hne) ?_
  · unfold ERow
    rw [List.append_nil] at hown
    exact hown
  · refine ⟨hg.os, hg.tape, hg.output, hg.size, fun k hk => hg.block k (by omega) ?_⟩
    intro e
    have := (ho2 k e.symm).1
    omega
  · intro b hb
    rcases hnew with e | e
    · exact .inl (e.symm.trans hb)
    · rw [e] at hb; cases hb; exact .inr (Nat.le_refl _)
set_option maxRecDepth 100000 in
theorem clone_any {w : World} {u : Value} {l : List Ent} (h : ELie w u l) (hz : ∀ c, u = .slice none 0 c → c = 0) (hl : l.length ≤ 1000000000000) : Calls Try.prog 49 #[u] w fun e w' => ∃ v', e = .returned v' ∧ ERow w.heap.size w' v' l ∧ Below w.heap.size w w' := by
  have HU := hid h
  obtain ⟨ao, cap, rfl, hlc, hcm, hcell⟩ := h
  have hq := eql_nil41
  have HR0 := hid (ERow.empty w)
  cases ao with
  | none =>
    have h0 : l = [] := by
      rcases Nat.eq_zero_or_pos l.length with e | e
      · exact List.eq_nil_of_length_eq_zero e
      · obtain ⟨gb, off, e1, _⟩ := hcell 0 e
        cases e1
    subst h0
    clear hcell hq
    obtain rfl : cap = 0 := hz cap rfl
    clear hz
    simp only [List.length_nil]
    have hq0 : ∀ w, (binOp .eql 41 (.slice none 0 0) (.slice none 0 0)).run Try.prog w = .ok (.bool true) w := fun w => Lib.run_eql_slice_nil (P := Try.prog) w 41 25 none 0 0 0 0 Try.underlying41
    go_enter Try.func49, Try.ntmps49
    go_wp2
    go_ret
    exact ⟨_, rfl, ERow.nil _ _, Below.refl _ _⟩
  | some a =>
    clear hcell hz
    by_cases h0 : l = []
    · subst h0
      simp only [List.length_nil] at HU ⊢
      go_enter Try.func49, Try.ntmps49
      go_wp2_with (first
        | (at_builtin; refine appE0 rfl (.tmp 5) (.tmp 6) rfl w.heap.size _ [] a cap rfl rfl HR0.out (by simp) (by simp) ?_; intro v5 w5 hr5 hb5 _ _))
      go_ret
      exact ⟨_, rfl, hr5, ((below_alloc w _).trans hb5)⟩
    · have HU2 := hid (HU.out.below (below_alloc w (.cells #[] 25)))
      have HH := hid h0
      clear h0
      go_enter Try.func49, Try.ntmps49
      go_wp2_with (first
        | (at_builtin; refine appE rfl (.tmp 5) (.tmp 6) rfl w.heap.size _ _ [] l rfl rfl HR0.out HU2.out HH.out (by simpa using hl) (by simp) ?_; intro v5 w5 hr5 hb5 _ _))
      go_ret
      exact ⟨_, rfl, hr5, ((below_alloc w _).trans hb5)⟩
set_option maxRecDepth 100000 in
theorem cut2_any {B g : Nat} {w : World} {v : Value} {l : List Ent} (h : LI 78 B g w v l) (a e : Nat) (ha : a ≤ e) (he : e ≤ l.length) : Calls Try.prog 47 #[.pointer (some ⟨g, 0, none⟩), .int .i64 a, .int .i64 e] w fun x w' => ∃ u, x = .returned u ∧ ELie w u ((l.take e).drop a) ∧ (∀ c, u = .slice none 0 c → c = 0) ∧ w' = w := by
  have c0 := h.c0
  have hl := h.len
  have hlie := hid h.row.lie
  have hrow := h.row
  clear h
  obtain ⟨e1, ⟨rfl, hz⟩ | ⟨x, cap, cur, rfl, e4, e5, r1, r2, r3⟩⟩ := hrow
  · have : l = [] := List.eq_nil_of_length_eq_zero hz
    subst this
    simp only [List.length_nil] at he
    obtain rfl : e = 0 := by omega
    obtain rfl : a = 0 := by omega
    go_enter Try.func47, Try.ntmps47
    go_wp2
    go_ret
    exact ⟨_, rfl, ELie.nil w, fun c e => (by cases e; rfl), rfl⟩
  · have hx := lt_of_block e5
    unfold maxLen at r2
    clear e4 e5 r3 e1
    by_cases hae : e = a
    · subst hae
      have HL : Hid (ELie w (.slice (some ⟨x, 0, none⟩) 0 0) ((l.take e).drop e)) := by
        rw [show (l.take e).drop e = [] from List.drop_of_length_le (by rw [List.length_take]; omega)]
        exact ⟨_, 0, rfl, Nat.le_refl _, by decide, fun i hi => by simp at hi⟩
      obtain ⟨L, hL⟩ : ∃ L, L = (l.take e).drop e := ⟨_, rfl⟩
      rw [← hL] at HL ⊢
      clear hL
      go_enter Try.func47, Try.ntmps47
      go_wp2
      go_ret
      exact ⟨_, rfl, HL.out, fun c e => (by cases e), rfl⟩
    · have HL := hid (hlie.out.cut a e (e - a) ha he (Nat.le_refl _) (by unfold maxLen; omega))
      rw [Nat.zero_add] at HL
      obtain ⟨L, hL⟩ : ∃ L, L = (l.take e).drop a := ⟨_, rfl⟩
      rw [← hL] at HL ⊢
      clear hL
      go_enter Try.func47, Try.ntmps47
      go_wp2
      go_ret
      exact ⟨_, rfl, HL.out, fun c e => (by cases e), rfl⟩
theorem cut2_g {p : Value} {w : World} {l : List Ent} (h : LN p w l) (a e : Nat) (ha : a ≤ e) (he : e ≤ l.length) : Calls Try.prog 47 #[p, .int .i64 a, .int .i64 e] w fun x w' => ∃ u, x = .returned u ∧ ELie w u ((l.take e).drop a) ∧ (∀ c, u = .slice none 0 c → c = 0) ∧ w' = w := by
  rcases h with ⟨rfl, rfl⟩ | ⟨B, g, v, rfl, h⟩
  · refine (cut_nil _ _ w).mono fun x w' ⟨h1, h2⟩ => ⟨_, h1, ?_, fun c e => (by cases e; rfl), h2⟩
    rw [List.take_nil, List.drop_nil]
    exact ELie.nil w
  · exact cut2_any h a e ha he
/-- the entries from one on, at most so many -/
def fromL (l : List Ent) (n most : Int) : List Ent := (l.drop (n - 1).toNat).take most.toNat
theorem from_cut (l : List Ent) (n most : Int) (a c : Nat) (ha : a = min (n - 1).toNat l.length) (hc : c = min most.toNat (l.length - a)) : (l.take (a + c)).drop a = fromL l n most := by
  unfold fromL
  rw [List.drop_take, Nat.add_sub_cancel_left, ha]
  have hd : l.drop (min (n - 1).toNat l.length) = l.drop (n - 1).toNat := by
    rcases Nat.le_total (n - 1).toNat l.length with h | h
    · rw [Nat.min_eq_left h]
    · rw [Nat.min_eq_right h, List.drop_of_length_le (Nat.le_refl _), List.drop_of_length_le h]
  rw [hd]
  have hl : (l.drop (n - 1).toNat).length = l.length - a := by rw [List.length_drop]; omega
  rcases Nat.le_total most.toNat (l.length - a) with h | h
  · rw [show c = most.toNat by omega]
  · rw [show c = l.length - a by omega, List.take_of_length_le (by omega), List.take_of_length_le (by omega)]
set_option maxRecDepth 100000 in
set_option maxHeartbeats 1000000 in
theorem from_any {p : Value} {w : World} {l : List Ent} (n most : Int) (hn : i64B n) (hm : i64B most) (h : LN p w l) : Calls Try.prog 25 #[p, .int .i64 n, .int .i64 most] w fun e w' => ∃ v', e = .returned v' ∧ ERow w.heap.size w' v' (fromL l n most) ∧ Below w.heap.size w w' := by
  have hlen := h.len
  have HL := hid (len_g h)
  obtain ⟨hn1, hn2⟩ := hn
  obtain ⟨hm1, hm2⟩ := hm
  obtain ⟨a, ha⟩ : ∃ a, a = min (n - 1).toNat l.length := ⟨_, rfl⟩
  obtain ⟨c, hc⟩ : ∃ c, c = min most.toNat (l.length - a) := ⟨_, rfl⟩
  have HC := hid (cut2_g h a (a + c) (by omega) (by omega))
  rw [from_cut l n most a c ha hc] at HC
  have HLN : Hid ((fromL l n most).length ≤ 1000000000000) := hid (by unfold fromL; rw [List.length_take, List.length_drop]; omega)
  have HA := hid ha
  have HCC := hid hc
  have hal : a ≤ l.length := by omega
  have hcl : a + c ≤ l.length := by omega
  clear ha hc h
  have HK := hid (fun u (hu : ELie w u (fromL l n most)) hz => clone_any hu hz HLN.out)
  go_enter Try.func25, Try.ntmps25
  go_upto_region 1 with fail
  go_cut [7] (fun x wx => wx = w ∧ x = .int .i64 (a : Int))
  case first =>
    go_wp2_with (first | (go_at_call 21; refine (HL.out).mono ?_; rintro e w1 ⟨rfl, hw⟩; subst hw))
    all_goals
      go_meet
      refine ⟨rfl, ?_⟩
      have := HA.out
      congr 1
      (repeat' split) <;> omega
  case rest =>
    obtain ⟨hw0, rfl⟩ := hcut
    replace hw0 := hw0.symm
    subst hw0
    go_upto_region 2 with fail
    go_cut [8] (fun x wx => wx = w ∧ x = .int .i64 (c : Int))
    case first =>
      go_wp2_with (first | (go_at_call 21; refine (HL.out).mono ?_; rintro e w1 ⟨rfl, hw⟩; subst hw))
      all_goals
        go_meet
        refine ⟨rfl, ?_⟩
        have := HA.out
        have := HCC.out
        congr 1
        (repeat' split) <;> omega
    case rest =>
      obtain ⟨hw0, rfl⟩ := hcut
      replace hw0 := hw0.symm
      subst hw0
      go_wp2_with (first
        | (go_at_call 47; refine (HC.out).mono ?_; rintro e w1 ⟨u, rfl, hu, hz, hw⟩; subst hw)
        | (go_at_call 49; refine (HK.out _ hu hz).mono ?_; rintro e w2 ⟨v2, rfl, hr2, hb2⟩))
      go_ret
      exact ⟨_, rfl, hr2, hb2⟩
end Go.Proofs.Ytcaedajbkdploaa
