import Derived.Test.YtcaedajbkdploaaGb
namespace Go.Proofs.Ytcaedajbkdploaa
open Go.RowKit Go.Maps

theorem run_app_none (w : World) (ty : TypeId) (v : Value) (T : List Ent) (B c : Nat) (h : ERow B w v T) : (Builtin.append_ #[41, 41] ty #[v, .slice none 0 c]).run Try.prog w = .ok v w := by
  obtain ⟨i0, hi, hz0, hz1, hz2⟩ := info_parts Try.info25
  obtain ⟨e1, ⟨rfl, hz⟩ | ⟨x, cap, cur, rfl, e4, e5, r1, r2, r3⟩⟩ := h
  · simp [Builtin.append_, run_underlying Try.underlying41, sizeOf, typeInfo, hi, Builtin.lenOf, Builtin.firstCells]
  · simp [Builtin.append_, run_underlying Try.underlying41, sizeOf, typeInfo, hi, Builtin.lenOf, r1, Builtin.firstCells, storeCells]
/-- entries more at the end of a row of the call's own, none or some -/
theorem appA {ops : Array Oper} {rest : List Oper} {o : Oper} {a : Act} {Q : Exit → Act → World → Prop} {w0 : World} (hgd : o.guard = none) (s x : Operand)
    (ho : o.op = .call { callee := .builtin .append, args := #[s, x], argTypes := #[41, 41] }) (B1 : Nat) (v u : Value) (T U : List Ent)
    (hs : a.eval s = v) (hx : a.eval x = u) (hA : ERow B1 w0 v T) (hu : ELie w0 u U) (hn : T.length + U.length ≤ 1000000000000) (hbase : B1 ≤ w0.heap.size)
    (h : ∀ v' w', ERow B1 w' v' (T ++ U) → Below B1 w0 w' → (∀ k, k < w0.heap.size → some k ≠ v.ownBlock → w'.heap[k]? = w0.heap[k]?) → wpList Try.prog ops Q rest (a.put o.dst v') w') :
    wpList Try.prog ops Q (o :: rest) a w0 := by
  by_cases h0 : U = []
  · subst h0
    obtain ⟨ao, cap, rfl, hlc, hcm, hcell⟩ := hu
    rw [List.append_nil] at h
    cases ao with
    | none => exact Lib.wpList_append_run _ hgd s x 41 41 ho v _ hs hx v w0 (run_app_none w0 _ v T B1 cap hA) (h v w0 hA (Below.refl _ _) fun _ _ _ => rfl)
    | some ad => exact appE0 hgd s x ho B1 v T ad cap hs hx hA (by simpa using hn) hbase fun v' w' h1 h2 h3 _ => h v' w' h1 h2 h3
  · exact appE hgd s x ho B1 v u T U hs hx hA hu h0 hn hbase fun v' w' h1 h2 h3 _ => h v' w' h1 h2 h3
set_option maxRecDepth 100000 in
set_option maxHeartbeats 1000000 in
theorem grow_any (n : Nat) (hn : n ≤ 1000000) (w : World) : Calls Try.prog 63 #[.slice none 0 0, .int .i64 n] w fun e w' => ∃ v', e = .returned v' ∧ ERow w.heap.size w' v' [] ∧ Below w.heap.size w w' := by
  by_cases h0 : n = 0
  · subst h0
    go_enter Try.func63, Try.ntmps63
    go_wp2
    go_ret
    exact ⟨_, rfl, ERow.nil _ _, Below.refl _ _⟩
  · obtain ⟨i0, hi, hz0, hz1, hz2⟩ := info_parts Try.info25
    have HR : Hid (∀ ty, (Builtin.append_ #[41, 3] ty #[.slice none 0 0, .int .i64 n]).run Try.prog w = .ok (.slice (some ⟨w.heap.size, 0, none⟩) n (grownCap w n 0 25)) (w.drew.alloc (.cells (Builtin.zeroCells (Value.cells (.agg #[.int .i64 0, .int .i64 0, .int .i64 0, .int .i64 0, .int .i64 0, .int .i64 0, .string ⟨#[]⟩, .string ⟨#[]⟩, .string ⟨#[]⟩])) n ++ Builtin.zeroCells (Value.cells (.agg #[.int .i64 0, .int .i64 0, .int .i64 0, .int .i64 0, .int .i64 0, .int .i64 0, .string ⟨#[]⟩, .string ⟨#[]⟩, .string ⟨#[]⟩])) (grownCap w n 0 25 - n)) 25))) := hid fun ty => Lib.run_append_nil_zeros w 41 3 ty 25 i0 _ .i64 .i64 Try.underlying41 Try.underlying3 hi hz0 n (by omega) (by omega) (by omega) (by rw [hz2]; omega)
    have hge := grownCap_ge w n 0 25
    have hcm := grownCap_le_maxLen w n 0 25 (by unfold maxLen; omega)
    obtain ⟨cap, hcap⟩ : ∃ cap, cap = grownCap w n 0 25 := ⟨_, rfl⟩
    obtain ⟨zs, hzs⟩ : ∃ zs, zs = Builtin.zeroCells (Value.cells (.agg #[.int .i64 0, .int .i64 0, .int .i64 0, .int .i64 0, .int .i64 0, .int .i64 0, .string ⟨#[]⟩, .string ⟨#[]⟩, .string ⟨#[]⟩])) n ++ Builtin.zeroCells (Value.cells (.agg #[.int .i64 0, .int .i64 0, .int .i64 0, .int .i64 0, .int .i64 0, .int .i64 0, .string ⟨#[]⟩, .string ⟨#[]⟩, .string ⟨#[]⟩])) (grownCap w n 0 25 - n) := ⟨_, rfl⟩
    have hsz : zs.size = cap * 9 := by
      rw [hzs, Array.size_append, size_zeroCells, size_zeroCells, ← hcap]
      simp [Value.cells]
      omega
    rw [← hzs, ← hcap] at HR
    rw [← hcap] at hge hcm
    have HE : Hid (ERow w.heap.size (w.drew.alloc (.cells zs 25)) (.slice (some ⟨w.heap.size, 0, none⟩) 0 cap) []) := hid ⟨rfl, .inr ⟨w.heap.size, cap, zs, rfl, Nat.le_refl _, box_at _ _, Nat.zero_le _, hcm, hsz, by simp [ecs]⟩⟩
    unfold maxLen at hcm
    clear hcap hzs hsz hi hz0 hz1 hz2
    have hpos : (0 : Int) < n := by omega
    go_enter Try.func63, Try.ntmps63
    go_wp2_with (first
      | (at_builtin; refine Lib.wpList_append_run _ rfl (.tmp 20) (.tmp 21) 41 3 rfl _ _ rfl rfl _ _ (HR.out _) ?_))
    go_ret
    exact ⟨_, rfl, HE.out, (below_alloc w _).drew⟩
set_option maxRecDepth 100000 in
set_option maxHeartbeats 1000000 in
theorem concat_any {w : World} {b : Nat} {u v : Value} {l m : List Ent} (hb : w.heap[b]? = some (.cells #[u, v] 41 (0, 0))) (hu : ELie w u l) (hv : ELie w v m) (hl : l.length ≤ 4096) (hm : m.length ≤ 4096) :
    Calls Try.prog 48 #[.slice (some ⟨b, 0, none⟩) 2 2] w fun e w' => ∃ v', e = .returned v' ∧ ERow w.heap.size w' v' (l ++ m) ∧ Below w.heap.size w w' := by
  have HB := hid hb
  have HU := hid hu
  have HV := hid hv
  have b0 : w.cell? ⟨b, 0, none⟩ = some u := by simp [World.cell?, hb]
  have b1 : w.cell? ⟨b, 1, none⟩ = some v := by simp [World.cell?, hb]
  obtain ⟨ao, ca, rfl, hla, hma, hca⟩ := hu
  obtain ⟨bo, cb, rfl, hlb, hmb, hcb⟩ := hv
  unfold maxLen at hma hmb
  have HG := hid (fun w => grow_any (l.length + m.length) (by omega) w)
  clear hca hcb hb
  go_enter Try.func48, Try.ntmps48
  go_wp2
  refine wp_loop_rounds 3 ?_
  rw [rounds_succ]
  go_wp2
  rw [rounds_succ]
  go_wp2
  rw [rounds_succ]
  go_wp2_with (go_at_call 63; fail)
  go_at_call 63
  refine (HG.out _).mono ?_
  rintro e w1 ⟨v1, rfl, hr1, hb1⟩
  have HR1 := hid hr1
  have HB1 := hid hb1
  have c0 := (hb1.cell (p := ⟨b, 0, none⟩) (lt_of_block HB.out)).trans b0
  have c1 := (hb1.cell (p := ⟨b, 1, none⟩) (lt_of_block HB.out)).trans b1
  have HU1 := hid (HU.out.below hb1)
  have B1 := hid b1
  clear hr1 hb1 b0 b1
  go_wp2
  refine wp_loop_rounds 3 ?_
  rw [rounds_succ]
  go_wp2_with (first
    | (at_builtin; refine appA rfl (.tmp 31) (.tmp 32) rfl w.heap.size _ _ [] l rfl rfl HR1.out HU1.out (by simp; omega) HB1.out.size ?_; intro v2 w2 hr2 hb2 hk2))
  have HR2 := hid hr2
  have HB2 := hid (HB1.out.trans hb2)
  have d1 := (HB2.out.cell (p := ⟨b, 1, none⟩) (lt_of_block HB.out)).trans B1.out
  have HV2 := hid (HV.out.below HB2.out)
  clear hr2 hb2 hk2 c0 c1
  rw [rounds_succ]
  go_wp2_with (first
    | (at_builtin; refine appA rfl (.tmp 31) (.tmp 32) rfl w.heap.size _ _ ([] ++ l) m rfl rfl HR2.out HV2.out (by simp; omega) HB2.out.size ?_; intro v3 w3 hr3 hb3 hk3))
  have HR3 := hid hr3
  have HB3 := hid (HB2.out.trans hb3)
  clear hr3 hb3 hk3 d1
  rw [rounds_succ]
  go_wp2
  go_ret
  exact ⟨_, rfl, HR3.out, HB3.out⟩
end Go.Proofs.Ytcaedajbkdploaa
