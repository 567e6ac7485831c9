import Derived.Test.YtopebghandojbaaGreatTf
namespace Go.Proofs.YtopebghandojbaaGreat
open Go.RowKit Go.Maps
/-- changes, each block's once, rising -/
def Rise (l : List Chg) : Prop := l.Pairwise (fun x y => x.b < y.b)
theorem rises_rise : ∀ {last : Int} {l : List Chg}, rises last l = true → Rise l ∧ ∀ x ∈ l, last < x.b ∧ x.b < 1024 ∧ x.d.size = 128
  | _, [], _ => ⟨List.Pairwise.nil, fun x hx => by cases hx⟩
  | last, c :: l, h => by
    unfold rises at h
    simp only [Bool.and_eq_true, decide_eq_true_eq] at h
    obtain ⟨h1, h2, h3, h4⟩ := h
    obtain ⟨k1, k2⟩ := rises_rise h4
    refine ⟨List.pairwise_cons.2 ⟨fun x hx => (k2 x hx).1, k1⟩, fun x hx => ?_⟩
    rcases List.mem_cons.1 hx with rfl | hx
    · exact ⟨h1, h2, h3⟩
    · have := k2 x hx; exact ⟨by omega, this.2⟩
theorem rise_rises : ∀ {last : Int} {l : List Chg}, Rise l → (∀ x ∈ l, last < x.b ∧ x.b < 1024 ∧ x.d.size = 128) → rises last l = true
  | _, [], _, _ => rfl
  | last, c :: l, h, k => by
    unfold Rise at h
    rw [List.pairwise_cons] at h
    have h1 := k c (by simp)
    unfold rises
    rw [rise_rises h.2 (fun x hx => ⟨h.1 x hx, (k x (by simp [hx])).2⟩)]
    simp [h1]
theorem right_iff {l : List Chg} : right l = true ↔ l.length ≤ 48 ∧ Rise l ∧ ∀ x ∈ l, 0 ≤ x.b ∧ x.b < 1024 ∧ x.d.size = 128 := by
  constructor
  · intro h
    obtain ⟨k1, k2⟩ := rises_rise (right_rises h)
    exact ⟨right_len h, k1, fun x hx => by have := k2 x hx; exact ⟨by omega, this.2⟩⟩
  · rintro ⟨h1, h2, h3⟩
    unfold right
    rw [rise_rises h2 (fun x hx => by have := h3 x hx; exact ⟨by omega, this.2⟩)]
    simp [h1]
end Go.Proofs.YtopebghandojbaaGreat
namespace Go.Proofs.YtopebghandojbaaGreat.Um
open Go.RowKit Go.Maps

/-- changes with one more; of its block the new one -/
def withL : List Chg → Chg → List Chg
  | [], c => [c]
  | x :: l, c => if x.b < c.b then x :: withL l c else if x.b = c.b then c :: l else c :: x :: l
theorem withL_mem : ∀ {l : List Chg} (_ : Rise l) (c x : Chg), x ∈ withL l c ↔ x = c ∨ (x ∈ l ∧ x.b ≠ c.b)
  | [], _, c, x => by simp [withL]
  | y :: l, h, c, x => by
    unfold Rise at h
    rw [List.pairwise_cons] at h
    have ih := withL_mem (l := l) h.2 c x
    unfold withL
    by_cases h1 : y.b < c.b
    · rw [if_pos h1, List.mem_cons, ih, List.mem_cons]
      constructor
      · rintro (rfl | rfl | h3)
        · exact .inr ⟨.inl rfl, by omega⟩
        · exact .inl rfl
        · exact .inr ⟨.inr h3.1, h3.2⟩
      · rintro (rfl | ⟨rfl | h3, h4⟩)
        · exact .inr (.inl rfl)
        · exact .inl rfl
        · exact .inr (.inr ⟨h3, h4⟩)
    · rw [if_neg h1]
      by_cases h2 : y.b = c.b
      · rw [if_pos h2, List.mem_cons, List.mem_cons]
        constructor
        · rintro (rfl | h3)
          · exact .inl rfl
          · exact .inr ⟨.inr h3, by have := h.1 x h3; omega⟩
        · rintro (rfl | ⟨rfl | h3, h4⟩)
          · exact .inl rfl
          · exact absurd h2 h4
          · exact .inr h3
      · rw [if_neg h2, List.mem_cons, List.mem_cons]
        constructor
        · rintro (rfl | rfl | h3)
          · exact .inl rfl
          · exact .inr ⟨.inl rfl, h2⟩
          · exact .inr ⟨.inr h3, by have := h.1 x h3; omega⟩
        · rintro (rfl | ⟨rfl | h3, h4⟩)
          · exact .inl rfl
          · exact .inr (.inl rfl)
          · exact .inr (.inr h3)
theorem withL_rise : ∀ {l : List Chg} (_ : Rise l) (c : Chg), Rise (withL l c)
  | [], _, c => by simp [withL, Rise]
  | y :: l, h, c => by
    have h0 := h
    unfold Rise at h
    rw [List.pairwise_cons] at h
    have ih := withL_rise (l := l) h.2 c
    unfold withL
    by_cases h1 : y.b < c.b
    · rw [if_pos h1]
      unfold Rise
      rw [List.pairwise_cons]
      refine ⟨fun x hx => ?_, ih⟩
      rcases (withL_mem h.2 c x).1 hx with rfl | ⟨hx, _⟩
      · exact h1
      · exact h.1 x hx
    · rw [if_neg h1]
      by_cases h2 : y.b = c.b
      · rw [if_pos h2]
        unfold Rise
        rw [List.pairwise_cons]
        exact ⟨fun x hx => by have := h.1 x hx; omega, h.2⟩
      · rw [if_neg h2]
        unfold Rise
        rw [List.pairwise_cons]
        refine ⟨fun x hx => ?_, h0⟩
        rcases List.mem_cons.1 hx with rfl | hx
        · omega
        · have := h.1 x hx; omega
theorem withL_len : ∀ {l : List Chg} (_ : Rise l) (c : Chg), (withL l c).length = if l.any (fun x => x.b == c.b) then l.length else l.length + 1
  | [], _, c => by simp [withL]
  | y :: l, h, c => by
    unfold Rise at h
    rw [List.pairwise_cons] at h
    have ih := withL_len (l := l) h.2 c
    unfold withL
    by_cases h1 : y.b < c.b
    · have e : (y.b == c.b) = false := by simp; omega
      rw [if_pos h1, List.length_cons, ih, List.any_cons, e, Bool.false_or]
      split <;> simp
    · rw [if_neg h1]
      by_cases h2 : y.b = c.b
      · rw [if_pos h2]
        have e : (y.b == c.b) = true := by simp [h2]
        rw [List.any_cons, e]; simp
      · rw [if_neg h2]
        have e : (y.b == c.b) = false := by simp [h2]
        have e2 : l.any (fun x => x.b == c.b) = false := by
          rw [List.any_eq_false]
          intro x hx
          have := h.1 x hx
          simp; omega
        rw [List.any_cons, e, e2]; simp
/-- the changes of both -/
def mergeL (a b : List Chg) : List Chg := b.foldl withL a
theorem mergeL_rise : ∀ {b a : List Chg}, Rise a → Rise (mergeL a b)
  | [], _, h => h
  | c :: b, _, h => mergeL_rise (b := b) (withL_rise h c)
theorem mergeL_snoc (a b : List Chg) (c : Chg) : mergeL a (b ++ [c]) = withL (mergeL a b) c := by simp [mergeL]
theorem mergeL_mem : ∀ {b a : List Chg}, Rise a → Rise b → ∀ x, x ∈ mergeL a b ↔ x ∈ b ∨ (x ∈ a ∧ ∀ y ∈ b, x.b ≠ y.b)
  | [], a, _, _, x => by simp [mergeL]
  | c :: b, a, ha, hb, x => by
    unfold Rise at hb
    rw [List.pairwise_cons] at hb
    have ih := mergeL_mem (b := b) (withL_rise ha c) hb.2 x
    show x ∈ mergeL (withL a c) b ↔ _
    rw [ih, withL_mem ha, List.mem_cons]
    constructor
    · rintro (h | ⟨rfl | ⟨h1, h2⟩, h3⟩)
      · exact .inl (.inr h)
      · exact .inl (.inl rfl)
      · refine .inr ⟨h1, fun y hy => ?_⟩
        rcases List.mem_cons.1 hy with rfl | hy
        · exact h2
        · exact h3 y hy
    · rintro ((rfl | h) | ⟨h1, h2⟩)
      · exact .inr ⟨.inl rfl, fun y hy => by have := hb.1 y hy; omega⟩
      · exact .inl h
      · exact .inr ⟨.inr ⟨h1, h2 c (by simp)⟩, fun y hy => h2 y (by simp [hy])⟩
set_option maxRecDepth 100000 in
theorem law : Keyed Tryz.prog 3 := int_keyed Tryz.underlying3
set_option maxRecDepth 100000 in
theorem wf_i {n : Int} (h : inI n) : (Lit.int .i64 n).wf = true := by
  have e1 : IntKind.i64.min = -9223372036854775808 := by decide
  have e2 : IntKind.i64.max = 9223372036854775807 := by decide
  unfold inI at h
  simp only [Lit.wf, e1, e2, Bool.and_eq_true, decide_eq_true_eq]
  omega
def kl (n : Int) : Lit := .int .i64 n
set_option maxRecDepth 100000 in
theorem hkey (n : Int) (hn : inI n) : keyOf Tryz.prog 3 (.int .i64 n) = some (kl n) := keyOf_int_mk Tryz.underlying3 (wf_i hn)
set_option maxRecDepth 100000 in
theorem kl_inj {a b : Int} (h : kl a = kl b) : a = b := by unfold kl at h; cases h; rfl
/-- how a change in a map reads -/
def RC (v : Value) : Option (DataW Unit × List MemPlace) :=
  match v with
  | .agg a => match a.toList with
    | [.int .i64 b, .string s] => some (.agg [.lit (.int .i64 b), .lit (.string s.data.toList)], [])
    | _ => none
  | _ => none
def datC (c : Chg) : DataW Unit := .agg [.lit (.int .i64 c.b), .lit (.string c.d.data.toList)]
set_option maxRecDepth 100000 in
theorem RC_mk (c : Chg) : RC (valC c) = some (datC c, []) := rfl
set_option maxRecDepth 100000 in
theorem RC_inv {v : Value} {y : DataW Unit × List MemPlace} (h : RC v = some y) : ∃ c, v = valC c ∧ y = (datC c, []) := by
  unfold RC at h
  split at h
  · rename_i a
    split at h
    · rename_i b s hs
      cases h
      refine ⟨⟨b, s⟩, ?_, rfl⟩
      unfold valC
      congr 1
      apply Array.toList_inj.1
      rw [hs]
    · cases h
  · cases h
set_option maxRecDepth 100000 in
theorem data_eq {a b : ByteArray} (h : a.data.toList = b.data.toList) : a = b := by rw [← st_toList a, ← st_toList b, h]
set_option maxRecDepth 100000 in
theorem datC_inj {a b : Chg} (h : datC a = datC b) : a = b := by
  obtain ⟨a1, a2⟩ := a
  obtain ⟨b1, b2⟩ := b
  simp only [datC, DataW.agg.injEq, List.cons.injEq, DataW.lit.injEq, Lit.int.injEq, Lit.string.injEq, and_true, true_and] at h
  obtain ⟨rfl, h2⟩ := h
  rw [data_eq h2]
/-- a map of changes, in block b of the memory: those of M, each at its block -/
def MIs (b : Nat) (w : World) (N : Nat) (M : List Chg) : Prop :=
  ∃ n D, w.ownsMap Tryz.prog 3 RC b n D ∧ n ≤ N ∧ Maps.size D = M.length ∧ (∀ k, Maps.has D (kl k) = M.any (fun x => x.b == k)) ∧ (∀ c ∈ M, inI c.b ∧ ∀ z, D.atKey (kl c.b) z = datC c) ∧ (∀ l, Maps.has D l = true → ∃ k, l = kl k) ∧ Rise M
set_option maxRecDepth 100000 in
theorem MIs.lt {b N : Nat} {w : World} {M : List Chg} (h : MIs b w N M) : b < w.heap.size := by
  obtain ⟨n, D, h1, _⟩ := h
  exact h1.lt
set_option maxRecDepth 100000 in
theorem MIs.same {b N : Nat} {w w' : World} {M : List Chg} (h : MIs b w N M) (hb : w'.heap[b]? = w.heap[b]?) : MIs b w' N M := by
  obtain ⟨n, D, ⟨es, clock, h1, h4⟩, h2⟩ := h
  exact ⟨n, D, ⟨es, clock, hb.trans h1, h4⟩, h2⟩
set_option maxRecDepth 100000 in
theorem MIs.made (w : World) : MIs w.heap.size (w.alloc (.map #[] 0)) 0 [] :=
  ⟨0, _, World.ownsMap_made w _ _ _, Nat.le_refl _, rfl, fun _ => rfl, (fun _ h => by cases h), (fun l h => by cases h), List.Pairwise.nil⟩
set_option maxRecDepth 100000 in
/-- a store -/
theorem MIs.store {b N : Nat} {w : World} {M : List Chg} (h : MIs b w N M) (hN : N < 100000) (c : Chg) (hc : inI c.b) :
    ∃ w', (Instr.mapUpdate 104 (.map (some b)) (.int .i64 c.b) (valC c)).run Tryz.prog w = .ok () w' ∧ MIs b w' (N + 1) (withL M c) ∧ w.grownBy w' (some b) ∧ w'.heap.size = w.heap.size := by
  obtain ⟨n, D, h1, h2, hs, h3, h4, h5, hr⟩ := h
  obtain ⟨w', hrun, k1, k2⟩ := h1.store law Tryz.underlying104 (by unfold maxLen; omega) (hkey c.b hc) (RC_mk c)
  have hkey' := law.key (hkey c.b hc)
  refine ⟨w', hrun, ⟨n + 1, _, k1, by omega, ?_, fun k => ?_, fun x hx => ?_, fun l hl => ?_, withL_rise hr c⟩, k2.grown, ?_⟩
  · rw [Maps.size_put (h1.tidy law), hs, withL_len hr, h3]
  · by_cases e : k = c.b
    · subst e
      rw [Maps.has_put_same h1.isMap hkey']
      symm
      rw [List.any_eq_true]
      exact ⟨c, (withL_mem hr c c).2 (.inl rfl), by simp⟩
    · rw [Maps.has_put_other (fun e' => e (kl_inj e')), h3]
      rw [Bool.eq_iff_iff, List.any_eq_true, List.any_eq_true]
      constructor
      · rintro ⟨x, hx, hk⟩
        refine ⟨x, (withL_mem hr c x).2 (.inr ⟨hx, ?_⟩), hk⟩
        have : x.b = k := by simpa using hk
        omega
      · rintro ⟨x, hx, hk⟩
        have hxk : x.b = k := by simpa using hk
        rcases (withL_mem hr c x).1 hx with rfl | ⟨hx, _⟩
        · exact absurd hxk.symm e
        · exact ⟨x, hx, hk⟩
  · rcases (withL_mem hr c x).1 hx with rfl | ⟨hx, hne⟩
    · exact ⟨hc, fun z => Maps.atKey_put_same h1.isMap hkey' _ _⟩
    · refine ⟨(h4 x hx).1, fun z => ?_⟩
      rw [Maps.atKey_put_other (fun e' => hne (kl_inj e'))]
      exact (h4 x hx).2 z
  · by_cases e : l = kl c.b
    · exact ⟨c.b, e⟩
    · rw [Maps.has_put_other e] at hl
      exact h5 l hl
  · obtain ⟨es, c', es', c'', e1, rfl⟩ := k2
    simp [ChangeMaps.setBlock]
set_option maxRecDepth 100000 in
theorem MIs.len {b N : Nat} {w : World} {M : List Chg} (h : MIs b w N M) (ty : TypeId) : (Builtin.len_ #[104] ty #[.map (some b)]).run Tryz.prog w = .ok (.int .i64 (M.length : Nat)) w := by
  obtain ⟨n, D, h1, h2, hs, _⟩ := h
  rw [h1.len Tryz.underlying104 ty, hs]
/-- what a map of changes has at a block -/
def lookL (M : List Chg) (k : Int) : Option Chg := M.find? fun x => x.b == k
set_option maxRecDepth 100000 in
theorem zero94 (w : World) : (zeroValue 94).run Tryz.prog w = .ok (valC ⟨0, ByteArray.empty⟩) w := by kernel_rfl
set_option maxRecDepth 100000 in
theorem MIs.look {b N : Nat} {w : World} {M : List Chg} (h : MIs b w N M) (k : Int) (hk : inI k) :
    (Instr.lookup 104 (.map (some b)) (.int .i64 k) true).run Tryz.prog w = .ok (.tuple #[valC ((lookL M k).getD ⟨0, ByteArray.empty⟩), .bool (lookL M k).isSome]) w := by
  obtain ⟨n, D, h1, h2, hs, h3, h4, h5, hr⟩ := h
  obtain ⟨v, ps, hrun, hv⟩ := h1.look_ok law Tryz.underlying104 (zero94 w) (RC_mk _) (hkey k hk)
  obtain ⟨c, rfl, e⟩ := RC_inv hv
  rw [hrun, h3 k]
  unfold lookL
  cases hf : M.find? fun x => x.b == k with
  | none =>
    have hn : M.any (fun x => x.b == k) = false := by
      rw [List.any_eq_false]
      intro x hx
      exact List.find?_eq_none.1 hf x hx
    have hn' := h3 k
    rw [hn] at hn' ⊢
    rw [Maps.atKey_of_not_has hn'] at e
    have := datC_inj (Prod.mk.inj e).1
    rw [← this]; rfl
  | some y =>
    have hy := List.mem_of_find?_eq_some hf
    have hb : y.b = k := by have := List.find?_some hf; simpa using this
    have hn : M.any (fun x => x.b == k) = true := by
      rw [List.any_eq_true]
      exact ⟨y, hy, by simp [hb]⟩
    rw [hn]
    have e2 := (h4 y hy).2
    rw [hb] at e2
    rw [e2] at e
    have := datC_inj (Prod.mk.inj e).1
    rw [← this]; rfl
end Go.Proofs.YtopebghandojbaaGreat.Um
