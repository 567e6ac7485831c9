import Derived.Test.YtcaedajbkdploaaFa
import Derived.Deep.RegionLaw
import Derived.Deep.DeepCutAuto
import Derived.Deep.DeepFit
import Derived.Deep.CutBlock
namespace Go.Proofs.Ytcaedajbkdploaa
open Go.RowKit Go.Maps

/-- a log in memory: its header's block, its slice, its entries -/
structure LI (ty : TypeId) (B g : Nat) (w : World) (v : Value) (l : List Ent) : Prop where
  hd : w.heap[g]? = some (.cells #[v] ty (0, 0))
  row : ERow B w v l
  ne : v.ownBlock ≠ some g
  gB : B ≤ g
  len : l.length ≤ 4096
theorem LI.c0 {ty : TypeId} {B g : Nat} {w : World} {v : Value} {l : List Ent} (h : LI ty B g w v l) : w.cell? ⟨g, 0, none⟩ = some v := cell_of_one h.hd
theorem LI.fr {ty : TypeId} {B g : Nat} {w : World} {v : Value} {l : List Ent} (h : LI ty B g w v l) : w.frozen? ⟨g, 0, none⟩ = false := free_of_one h.hd
theorem LI.lt {ty : TypeId} {B g : Nat} {w : World} {v : Value} {l : List Ent} (h : LI ty B g w v l) : g < w.heap.size := lt_of_block h.hd
theorem LI.frame {ty : TypeId} {B g : Nat} {w w' : World} {v : Value} {l : List Ent} (h : LI ty B g w v l) (k : ∀ b, b = g ∨ v.ownBlock = some b → w'.heap[b]? = w.heap[b]?) : LI ty B g w' v l :=
  ⟨(k g (.inl rfl)).trans h.hd, h.row.frame fun b hb => k b (.inr hb), h.ne, h.gB, h.len⟩
theorem LI.below {ty : TypeId} {B g : Nat} {w w' : World} {v : Value} {l : List Ent} (h : LI ty B g w v l) (k : Below w.heap.size w w') : LI ty B g w' v l :=
  h.frame fun b hb => k.block b (by rcases hb with rfl | hb; exact h.lt; exact (h.row.own b hb).2)
theorem LI.drew {ty : TypeId} {B g : Nat} {w : World} {v : Value} {l : List Ent} (h : LI ty B g w v l) : LI ty B g w.drew v l := ⟨h.hd, h.row, h.ne, h.gB, h.len⟩
/-- what a step on a log may change -/
structure LF (g : Nat) (ob : Option Nat) (w w' : World) : Prop where
  os : w'.os = w.os
  tape : w'.tape = w.tape
  output : w'.output = w.output
  size : w.heap.size ≤ w'.heap.size
  block : ∀ k, k < w.heap.size → k ≠ g → some k ≠ ob → w'.heap[k]? = w.heap[k]?
theorem LF.below {g B : Nat} {ob : Option Nat} {w w' : World} (h : LF g ob w w') (hg : B ≤ g) (ho : ∀ b, ob = some b → B ≤ b) (hB : B ≤ w.heap.size) : Below B w w' :=
  ⟨h.os, h.tape, h.output, h.size, fun k hk => h.block k (by omega) (by omega) (by intro e; have := ho k e.symm; omega)⟩
theorem LF.of_below {g : Nat} {ob : Option Nat} {w w' : World} (h : Below w.heap.size w w') : LF g ob w w' := ⟨h.os, h.tape, h.output, h.size, fun k hk _ _ => h.block k hk⟩
theorem lnew_any (w : World) : Calls Try.prog 14 #[] w fun e w' => e = .returned (.pointer (some ⟨w.heap.size, 0, none⟩)) ∧ w' = w.alloc (.cells #[.slice none 0 0] 78) := by
  go_enter Try.func14, Try.ntmps14
  go_wp2
  go_ret
  exact ⟨rfl, rfl⟩
theorem LI.new (ty : TypeId) (w : World) (B : Nat) (hB : B ≤ w.heap.size) : LI ty B w.heap.size (w.alloc (.cells #[.slice none 0 0] ty)) (.slice none 0 0) [] :=
  ⟨box_at _ _, ERow.nil _ _, (by intro e; cases e), hB, by decide⟩
theorem len_nil (w : World) : Calls Try.prog 21 #[.pointer none] w fun e w' => e = .returned (.int .i64 0) ∧ w' = w := by
  go_enter Try.func21, Try.ntmps21
  go_wp2
  go_ret
  exact ⟨rfl, rfl⟩
theorem len_any {B g : Nat} {w : World} {v : Value} {l : List Ent} (h : LI 78 B g w v l) : Calls Try.prog 21 #[.pointer (some ⟨g, 0, none⟩)] w fun e w' => e = .returned (.int .i64 l.length) ∧ w' = w := by
  have c0 := h.c0
  obtain ⟨ao, cap, rfl, _, _⟩ := h.row.len
  clear h
  go_enter Try.func21, Try.ntmps21
  go_wp2
  go_ret
  exact ⟨rfl, rfl⟩
theorem cut_nil (a e : Int) (w : World) : Calls Try.prog 47 #[.pointer none, .int .i64 a, .int .i64 e] w fun x w' => x = .returned (.slice none 0 0) ∧ w' = w := by
  go_enter Try.func47, Try.ntmps47
  go_wp2
  go_ret
  exact ⟨rfl, rfl⟩
/-- the last one's view -/
def lastV (l : List Ent) : Int := match l.getLast? with | some x => x.V | none => 0
theorem lastView_any {w : World} {v : Value} {l : List Ent} (h : ELie w v l) : Calls Try.prog 46 #[v] w fun e w' => e = .returned (.int .i64 (lastV l)) ∧ w' = w := by
  obtain ⟨ao, cap, rfl, hlc, hcm, hcell⟩ := h
  unfold maxLen at hcm
  by_cases h0 : l.length = 0
  · have : l = [] := List.eq_nil_of_length_eq_zero h0
    subst this
    clear hcell
    simp only [List.length_nil]
    go_enter Try.func46, Try.ntmps46
    go_wp2
    go_ret
    exact ⟨rfl, rfl⟩
  · obtain ⟨gb, off, rfl, hgb, hat⟩ := hcell (l.length - 1) (by omega)
    have c := hat.1
    have hl : lastV l = (l[l.length - 1]'(by omega)).V := by
      unfold lastV
      rw [List.getLast?_eq_getElem?, List.getElem?_eq_getElem (by omega)]
    rw [← hl] at c
    obtain ⟨n, hn⟩ : ∃ n, n = l.length - 1 := ⟨_, rfl⟩
    have hn1 : (l.length : Int) - 1 = (n : Int) := by omega
    have hn2 : n < l.length := by omega
    rw [← hn] at c
    clear hcell hat hl hn
    go_enter Try.func46, Try.ntmps46
    go_wp2
    go_ret
    exact ⟨rfl, rfl⟩
theorem ELie.cut {w : World} {x off cap : Nat} {l : List Ent} (h : ELie w (.slice (some ⟨x, off, none⟩) l.length cap) l) (a e c : Nat) (ha : a ≤ e) (he : e ≤ l.length) (hc : e - a ≤ c) (hcm : c ≤ maxLen) : ELie w (.slice (some ⟨x, off + a * 9, none⟩) (e - a) c) ((l.take e).drop a) := by
  have hlen : ((l.take e).drop a).length = e - a := by rw [List.length_drop, List.length_take]; omega
  obtain ⟨ao, cap', e0, h1, h2, h3⟩ := h
  refine ⟨_, c, by rw [hlen], by omega, hcm, fun i hi => ?_⟩
  rw [hlen] at hi
  obtain ⟨gb, o2, e1, hg, hat⟩ := h3 (a + i) (by omega)
  cases e0
  cases e1
  refine ⟨x, off + a * 9, rfl, hg, ?_⟩
  rw [show off + a * 9 + i * 9 = off + (a + i) * 9 by omega]
  have : ((l.take e).drop a)[i]'(by omega) = l[a + i]'(by omega) := by rw [List.getElem_drop, List.getElem_take]
  rw [this]
  exact hat
set_option maxRecDepth 100000 in
theorem cut_any {B g : Nat} {w : World} {v : Value} {l : List Ent} (h : LI 78 B g w v l) (a e : Nat) (ha : a ≤ e) (he : e ≤ l.length) : Calls Try.prog 47 #[.pointer (some ⟨g, 0, none⟩), .int .i64 a, .int .i64 e] w fun x w' => ∃ u, x = .returned u ∧ ELie w u ((l.take e).drop a) ∧ w' = w := by
  have c0 := h.c0
  have hl := h.len
  have hlie := hid h.row.lie
  have hrow := h.row
  clear h
  obtain ⟨e1, ⟨rfl, hz⟩ | ⟨x, cap, cur, rfl, e4, e5, r1, r2, r3⟩⟩ := hrow
  · have : l = [] := List.eq_nil_of_length_eq_zero hz
    subst this
    simp only [List.length_nil] at he
    obtain rfl : e = 0 := by omega
    obtain rfl : a = 0 := by omega
    go_enter Try.func47, Try.ntmps47
    go_wp2
    go_ret
    exact ⟨_, rfl, ELie.nil w, rfl⟩
  · have hx := lt_of_block e5
    unfold maxLen at r2
    clear e4 e5 r3 e1
    by_cases hae : e = a
    · subst hae
      have HL : Hid (ELie w (.slice (some ⟨x, 0, none⟩) 0 0) ((l.take e).drop e)) := by
        rw [show (l.take e).drop e = [] from List.drop_of_length_le (by rw [List.length_take]; omega)]
        exact ⟨_, 0, rfl, Nat.le_refl _, by decide, fun i hi => by simp at hi⟩
      obtain ⟨L, hL⟩ : ∃ L, L = (l.take e).drop e := ⟨_, rfl⟩
      rw [← hL] at HL ⊢
      clear hL
      go_enter Try.func47, Try.ntmps47
      go_wp2
      go_ret
      exact ⟨_, rfl, HL.out, rfl⟩
    · have HL := hid (hlie.out.cut a e (e - a) ha he (Nat.le_refl _) (by unfold maxLen; omega))
      rw [Nat.zero_add] at HL
      obtain ⟨L, hL⟩ : ∃ L, L = (l.take e).drop a := ⟨_, rfl⟩
      rw [← hL] at HL ⊢
      clear hL
      go_enter Try.func47, Try.ntmps47
      go_wp2
      go_ret
      exact ⟨_, rfl, HL.out, rfl⟩
theorem view_nil (w : World) : Calls Try.prog 22 #[.pointer none] w fun e w' => e = .returned (.int .i64 0) ∧ w' = w := by
  have HC := hid cut_nil
  have HL : Hid (∀ w, Calls Try.prog 46 #[.slice none 0 0] w fun e w' => e = .returned (.int .i64 0) ∧ w' = w) := hid fun w => lastView_any (ELie.nil w)
  go_enter Try.func22, Try.ntmps22
  go_wp2_with (first
    | (go_at_call 21; refine (len_nil _).mono ?_; rintro e w1 ⟨rfl, hw⟩; subst hw)
    | (go_at_call 47; refine (HC.out _ _ _).mono ?_; rintro e w1 ⟨rfl, hw⟩; subst hw)
    | (go_at_call 46; refine (HL.out _).mono ?_; rintro e w1 ⟨rfl, hw⟩; subst hw))
  go_ret
  exact ⟨rfl, rfl⟩
theorem view_any {B g : Nat} {w : World} {v : Value} {l : List Ent} (h : LI 78 B g w v l) : Calls Try.prog 22 #[.pointer (some ⟨g, 0, none⟩)] w fun e w' => e = .returned (.int .i64 (lastV l)) ∧ w' = w := by
  have HN := hid (len_any h)
  have HC := hid (cut_any h 0 l.length (Nat.zero_le _) (Nat.le_refl _))
  rw [List.take_of_length_le (Nat.le_refl _), List.drop_zero] at HC
  have HL := hid (fun u (hu : ELie w u l) => lastView_any hu)
  clear h
  go_enter Try.func22, Try.ntmps22
  go_wp2_with (first
    | (go_at_call 21; refine (HN.out).mono ?_; rintro e w1 ⟨rfl, hw⟩; subst hw)
    | (go_at_call 47; refine (HC.out).mono ?_; rintro e w1 ⟨u, rfl, hu, hw⟩; subst hw)
    | (go_at_call 46; refine (HL.out _ hu).mono ?_; rintro e w1 ⟨rfl, hw⟩; subst hw))
  go_ret
  exact ⟨rfl, rfl⟩
/-- one entry more, in a region that draws -/
theorem stepE {ops : Array Oper} {o : Oper} {a : Act} {w : World} {K : Act → World → Prop} {Q : Exit → Act → World → Prop} {E : Prop} (hg : o.guard = none) (s x : Operand)
    (hop : o.op = .call { callee := .builtin .append, args := #[s, x], argTypes := #[41, 41] }) (base : Nat) (v : Value) (l : List Ent) (y : Ent)
    (hs : a.eval s = v) (g : Nat) (hx : a.eval x = .slice (some ⟨g, 0, none⟩) 1 1) (hc : Box g w y) (hown : ERow base w v l) (hn : l.length ≤ 1000000) (hbase : base ≤ w.heap.size)
    (h : ∀ r cap w', ERow base w' (.slice (some ⟨r, 0, none⟩) (l.length + 1) cap) (l ++ [y]) → w.grownBy w' v.ownBlock → (v.ownBlock = some r ∨ w.heap.size ≤ r) → K (a.put o.dst (.slice (some ⟨r, 0, none⟩) (l.length + 1) cap)) w') :
    if Region.wanted o (yielded ops a.tmps) = true then Oper.wp Try.prog o a w K Q else E := by
  have hw : Region.wanted o (yielded ops a.tmps) = true := by simp [Region.wanted, hg]
  rw [if_pos hw]
  obtain ⟨i0, hi, hz0, hz1, hz2⟩ := info_parts Try.info25
  obtain ⟨V, C, R, K', A, N, p, t, d⟩ := y
  obtain ⟨c0, c1, c2, c3, c4, c5, c6, c7, c8⟩ := hc.cells
  have hat : EAt w g 0 ⟨V, C, R, K', A, N, p, t, d⟩ := ⟨c0, c1, c2, c3, c4, c5, c6, c7, c8⟩
  obtain ⟨v', w', hr, h1, h2, _, h5⟩ := run_append_own_at (P := Try.prog) w base 41 o.type 25 i0 _ 9 96 Try.underlying41 hi hz0 hz1 hz2 rfl (by decide) v l.length (ecs l) hown ⟨g, 0, none⟩ 1 1 (Ent.cs ⟨V, C, R, K', A, N, p, t, d⟩) rfl
    (by
      intro j u hj
      have := hat.get j u hj
      rw [add_at]
      exact this)
    (cs_one _) (by unfold maxLen; omega) (by omega) hbase
  obtain ⟨r, cap, rfl⟩ : ∃ r cap, v' = .slice (some ⟨r, 0, none⟩) (l.length + 1) cap := by
    obtain ⟨_, e | ⟨g', cap, cur, e, _⟩⟩ := h1
    · exact absurd e.2 (by omega)
    · exact ⟨g', cap, e⟩
  unfold Oper.wp execOp
  simp only [hop, resolve, invoke, builtin, Sem.run_bind, Sem.run_pure, Result.andThen_ok, List.map_toArray, List.map_cons, List.map_nil, hs, hx, hr]
  refine h r cap w' (by unfold ERow; rw [ecs_append, ecs_one, List.length_append]; exact h1) h2 ?_
  rcases h5 with h5 | h5
  · exact .inl h5.symm
  · right
    have : r = w.heap.size := Option.some.inj h5
    omega
end Go.Proofs.Ytcaedajbkdploaa
