import Derived.Test.YtmabnnimacjplaaIl
namespace Go.Proofs.Ytmabnnimacjplaa
open Go.RowKit Go.Maps

/-- a slice reads as numbers -/
def ILie (w : World) (v : Value) (l : List Int) : Prop :=
  ∃ ao cap, v = .slice ao l.length cap ∧ l.length ≤ cap ∧ cap ≤ maxLen ∧ ∀ i (hi : i < l.length), ∃ gb off, ao = some ⟨gb, off, none⟩ ∧ gb < w.heap.size ∧ w.cell? ⟨gb, off + i, none⟩ = some (.int .i64 l[i])
theorem ILie.below {w w' : World} {v : Value} {l : List Int} (h : ILie w v l) (k : Below w.heap.size w w') : ILie w' v l := by
  obtain ⟨ao, cap, e, h1, h2, h3⟩ := h
  refine ⟨ao, cap, e, h1, h2, fun i hi => ?_⟩
  obtain ⟨gb, off, e1, hg, c0⟩ := h3 i hi
  exact ⟨gb, off, e1, Nat.lt_of_lt_of_le hg k.size, (k.cell (p := ⟨gb, off + i, none⟩) hg).trans c0⟩
/-- is place i of the list right? -/
def okAt (l : List Int) (i : Nat) : Bool := isIx (l.getD i 0) && (decide (i = 0) || decide (l.getD (i - 1) 0 < l.getD i 0))
def goodB (l : List Int) : Bool := (List.range l.length).all (okAt l)
theorem goodB_iff (l : List Int) : goodB l = true ↔ ∀ i, i < l.length → okAt l i = true := by unfold goodB; simp
theorem goodB_no {l : List Int} {i : Nat} (hi : i < l.length) (h : okAt l i = false) : goodB l = false := by
  cases hg : goodB l with
  | false => rfl
  | true => rw [(goodB_iff l).1 hg i hi] at h; cases h
theorem getD_in {l : List Int} {k : Nat} (h : k < l.length) : l.getD k 0 = l[k] := by
  rw [List.getD_eq_getElem?_getD, List.getElem?_eq_getElem h]; rfl
theorem okAt_cases (l : List Int) (i : Nat) : (isIx (l.getD i 0) = false ∧ okAt l i = false) ∨ (isIx (l.getD i 0) = true ∧ ((i = 0 ∧ okAt l i = true) ∨ (0 < i ∧ l.getD i 0 ≤ l.getD (i - 1) 0 ∧ okAt l i = false) ∨ (0 < i ∧ l.getD (i - 1) 0 < l.getD i 0 ∧ okAt l i = true))) := by
  unfold okAt
  generalize l.getD i 0 = x
  generalize l.getD (i - 1) 0 = y
  cases isIx x with
  | false => left; exact ⟨rfl, rfl⟩
  | true =>
    right
    refine ⟨rfl, ?_⟩
    by_cases h : i = 0
    · left; subst h; simp
    · by_cases h2 : y < x
      · right; right; exact ⟨by omega, h2, by simp [h, h2]⟩
      · right; left; exact ⟨by omega, by omega, by simp [h]; omega⟩
set_option maxRecDepth 100000 in
set_option maxHeartbeats 1000000 in
theorem areIx_any (v : Value) (l : List Int) (w : World) (hl : ILie w v l) : Calls Try.prog 50 #[v] w fun e w' => e = .returned (.bool (goodB l)) ∧ w' = w := by
  have HI := hid isIndex_any
  obtain ⟨ao, cap, rfl, h1, h2, h3⟩ := hl
  have hlen : l.length ≤ maxLen := Nat.le_trans h1 h2
  unfold maxLen at hlen
  obtain ⟨g, hg⟩ : ∃ g, g = goodB l := ⟨_, rfl⟩
  have HG := hid hg
  rw [← hg]
  clear hg
  have H3 := hid h3
  clear h1 h2 h3
  go_enter Try.func50, Try.ntmps50
  go_wp2
  go_loop [7] (fun i => ∃ j : Nat, i = .int .i64 j ∧ j ≤ l.length ∧ ∀ k, k < j → okAt l k = true) (fun i => l.length - (intOf i).toNat)
  case atStart => exact ⟨0, rfl, Nat.zero_le _, fun k hk => by omega⟩
  case round =>
    obtain ⟨j, rfl, hj, hok⟩ := hrel
    have HOK := hid hok
    clear hok
    by_cases hlt : j < l.length
    · obtain ⟨gb, off, rfl, hgl, c0⟩ := H3.out j hlt
      have hget := getD_in hlt
      rw [← hget] at c0
      have HC := hid (okAt_cases l j)
      have HX := hid (HI.out (l.getD j 0))
      by_cases hj0 : 0 < j
      · obtain ⟨gb', off', e', hgl', c1⟩ := H3.out (j - 1) (by omega)
        injection e' with e'
        injection e' with e1 e2
        subst e1 e2
        rw [← getD_in (show j - 1 < l.length by omega)] at c1
        have hj1 : ((j : Int) - 1).toNat = j - 1 := by omega
        obtain ⟨x, hx⟩ : ∃ x, x = l.getD j 0 := ⟨_, rfl⟩
        obtain ⟨y, hy⟩ : ∃ x, x = l.getD (j - 1) 0 := ⟨_, rfl⟩
        rw [← hx] at c0 HX
        rw [← hx, ← hy] at HC
        rw [← hy] at c1
        clear hx hy hget
        rcases HC.out with ⟨q, hko⟩ | ⟨q, ⟨h0, hko⟩ | ⟨_, hle, hko⟩ | ⟨_, hle, hko⟩⟩
        · rw [q] at HX
          have HK : Hid (goodB l = false) := goodB_no hlt hko
          clear q hko HC
          go_wp2_with (first | (go_at_call 47; refine (HX.out _).mono ?_; rintro e w1 ⟨rfl, rfl⟩))
          go_ret
          exact ⟨by rw [HG.out, HK.out]; rfl, rfl⟩
        · omega
        · rw [q] at HX
          have HK : Hid (goodB l = false) := goodB_no hlt hko
          clear q hko HC
          go_wp2_with (first | (go_at_call 47; refine (HX.out _).mono ?_; rintro e w1 ⟨rfl, rfl⟩))
          go_ret
          exact ⟨by rw [HG.out, HK.out]; rfl, rfl⟩
        · rw [q] at HX
          have HK := hid hko
          clear q hko HC
          go_wp2_with (first | (go_at_call 47; refine (HX.out _).mono ?_; rintro e w1 ⟨rfl, rfl⟩))
          go_round
          case rel =>
            refine ⟨j + 1, by go_num, by omega, fun k hk => ?_⟩
            by_cases e : k = j
            · rw [e]; exact HK.out
            · exact HOK.out k (by omega)
          case measure => simp [intOf]; omega
      · have hje : j = 0 := by omega
        subst hje
        obtain ⟨x, hx⟩ : ∃ x, x = l.getD 0 0 := ⟨_, rfl⟩
        rw [← hx] at c0 HX HC
        rw [Nat.add_zero] at c0
        clear hx hget
        rcases HC.out with ⟨q, hko⟩ | ⟨q, ⟨h0, hko⟩ | ⟨hh, hle, hko⟩ | ⟨hh, hle, hko⟩⟩
        · rw [q] at HX
          have HK : Hid (goodB l = false) := goodB_no hlt hko
          clear q hko HC
          go_wp2_with (first | (go_at_call 47; refine (HX.out _).mono ?_; rintro e w1 ⟨rfl, rfl⟩))
          go_ret
          exact ⟨by rw [HG.out, HK.out]; rfl, rfl⟩
        · rw [q] at HX
          have HK := hid hko
          clear q hko HC
          go_wp2_with (first | (go_at_call 47; refine (HX.out _).mono ?_; rintro e w1 ⟨rfl, rfl⟩))
          go_round
          case rel =>
            refine ⟨1, by go_num, by omega, fun k hk => ?_⟩
            rw [show k = 0 by omega]; exact HK.out
          case measure => simp [intOf]; omega
        · omega
        · omega
    · have HK : Hid (goodB l = true) := (goodB_iff l).2 fun i hi => HOK.out i (by omega)
      go_wp2
      go_ret
      exact ⟨by rw [HG.out, HK.out]; rfl, rfl⟩
/-- keys of the map: a level, a place -/
def keyV (a b : Int) : Value := .agg #[.int .i64 a, .int .i64 b]
def inI (n : Int) : Prop := -9223372036854775808 ≤ n ∧ n ≤ 9223372036854775807
theorem laidOut : laidOutB Try.prog = true := by kernel_rfl
theorem row88 : (88 : TypeId) < Try.prog.types.size := of_decide_eq_true (by kernel_rfl)
theorem wide88 : (match Try.prog.underlying 88 with | some (.array _ _) | some (.struct _) => true | _ => false) = true := by rw [Try.underlying88]
theorem law : Keyed Try.prog 88 := Keyed.of_law (deep_law_laid laidOut (m := 2) (by omega) row88 (by kernel_rfl) wide88)
theorem key88 : Try.prog.keyType 88 = true := by kernel_rfl
theorem cells88 : Try.prog.cellsOf 88 = 2 := by kernel_rfl
theorem cells3 : Try.prog.cellsOf 3 = 1 := by kernel_rfl
theorem wf_i {n : Int} (h : inI n) : (Lit.int .i64 n).wf = true := by
  have e1 : IntKind.i64.min = -9223372036854775808 := by decide
  have e2 : IntKind.i64.max = 9223372036854775807 := by decide
  unfold inI at h
  simp only [Lit.wf, e1, e2, Bool.and_eq_true, decide_eq_true_eq]
  omega
theorem types_some : ∃ n, Try.prog.types.size = n + 1 := by
  have h : (88 : Nat) < Try.prog.types.size := row88
  exact ⟨Try.prog.types.size - 1, by omega⟩
theorem lits_gen {P : Program} {k : TypeId} {f0 f1 : Field} (hk : P.underlying k = some (.struct #[f0, f1])) (n0 : (f0.name != "_") = true) (n1 : (f1.name != "_") = true) (o0 : f0.offset = 0) (o1 : f1.offset = 1)
    (t0 : P.underlying f0.type = some (.int .i64)) (t1 : P.underlying f1.type = some (.int .i64)) (hc : P.cellsOf k = 2) (c0 : P.cellsOf f0.type = 1) (c1 : P.cellsOf f1.type = 1)
    (a b : Int) (ha : inI a) (hb : inI b) (d : Nat) : P.keyLits (d + 1 + 1) k [.int .i64 a, .int .i64 b] = some [.int .i64 a, .int .i64 b] := by
  have w0 := wf_i ha
  have w1 := wf_i hb
  simp [Program.keyLits, hk, hc, n0, n1, o0, o1, c0, c1, t0, t1, w0, w1]
theorem key_gen {P : Program} {k : TypeId} {f0 f1 : Field} (hk : P.underlying k = some (.struct #[f0, f1])) (n0 : (f0.name != "_") = true) (n1 : (f1.name != "_") = true) (o0 : f0.offset = 0) (o1 : f1.offset = 1)
    (t0 : P.underlying f0.type = some (.int .i64)) (t1 : P.underlying f1.type = some (.int .i64)) (hc : P.cellsOf k = 2) (c0 : P.cellsOf f0.type = 1) (c1 : P.cellsOf f1.type = 1)
    (a b : Int) (ha : inI a) (hb : inI b) (d : Nat) (hd : P.types.size = d + 1) (hkt : P.keyType k = true) : keyOf P k (keyV a b) = some (.string (keyBytes [.int .i64 a, .int .i64 b])) := by
  unfold keyV
  have hf : (Value.agg #[.int .i64 a, .int .i64 b]).formed P k = true := by simp [Value.formed, hk, hc]
  unfold keyOf
  rw [hk, hd]
  simp [hkt, hf, Value.cells, lits_gen hk n0 n1 o0 o1 t0 t1 hc c0 c1 a b ha hb d]
def kl (a b : Int) : Lit := .string (keyBytes [.int .i64 a, .int .i64 b])
theorem hkey (a b : Int) (ha : inI a) (hb : inI b) : keyOf Try.prog 88 (keyV a b) = some (kl a b) := by
  obtain ⟨n, hn⟩ := types_some
  exact key_gen Try.underlying88 (by decide) (by decide) rfl rfl Try.underlying3 Try.underlying3 cells88 cells3 cells3 a b ha hb n hn key88
theorem kl_inj {a b c d : Int} (ha : inI a) (hb : inI b) (hc : inI c) (hd : inI d) (h : kl a b = kl c d) : a = c ∧ b = d := by
  have h1 := hkey a b ha hb
  rw [h] at h1
  have := law.inj h1 (hkey c d hc hd)
  unfold keyV at this
  simpa using this
def RU (v : Value) : Option (DataW Unit × List MemPlace) :=
  match v with
  | .agg _ => some (.lit (.bool true), [])
  | _ => none
/-- a map of keys: how many, and which -/
def KM (b : Nat) (w : World) (N c : Nat) (S : Int → Int → Prop) : Prop :=
  ∃ n D, w.ownsMap Try.prog 88 RU b n D ∧ n ≤ N ∧ Maps.size D = c ∧ ∀ x y, inI x → inI y → (Maps.has D (kl x y) = true ↔ S x y)
theorem KM.made (w : World) : KM w.heap.size (w.alloc (.map #[] 0)) 0 0 fun _ _ => False :=
  ⟨0, _, World.ownsMap_made w _ _ _, Nat.le_refl _, rfl, fun x y _ _ => ⟨fun h => (by cases h), fun h => False.elim h⟩⟩
theorem KM.same {b N c : Nat} {w w' : World} {S : Int → Int → Prop} (h : KM b w N c S) (hb : w'.heap[b]? = w.heap[b]?) : KM b w' N c S := by
  obtain ⟨n, D, ⟨es, clock, h1, h4⟩, h2, h3⟩ := h
  exact ⟨n, D, ⟨es, clock, hb.trans h1, h4⟩, h2, h3⟩
theorem KM.lt {b N c : Nat} {w : World} {S : Int → Int → Prop} (h : KM b w N c S) : b < w.heap.size := by
  obtain ⟨n, D, h1, _⟩ := h
  exact h1.lt
open Classical in
/-- a key more -/
theorem at_put {ops : Array Oper} {rest : List Oper} {o : Oper} {a : Act} {Q : Exit → Act → World → Prop} {w : World} (hg : o.guard = none) (m x v : Operand) (hop : o.op = Op.mapUpdate 85 m x v) (b N c : Nat) (S : Int → Int → Prop) (k1 k2 : Int) (h1 : inI k1) (h2 : inI k2) (hm : a.eval m = .map (some b)) (hx : a.eval x = keyV k1 k2) (hv : a.eval v = .agg #[]) (hK : KM b w N c S) (hN : N < 1000000)
    (h : ∀ w', KM b w' (N + 1) (if S k1 k2 then c else c + 1) (fun x y => S x y ∨ (x = k1 ∧ y = k2)) → w.grownBy w' (some b) → wpList Try.prog ops Q rest (a.put o.dst undef) w') : wpList Try.prog ops Q (o :: rest) a w := by
  obtain ⟨n, D, hown, hn, hs, hh⟩ := hK
  refine wpList_mapUpdate_own _ hg m x v 85 hop 88 86 law Try.underlying85 RU b n D hm hown (by unfold maxLen; omega) _ _ _ hx hv (hkey k1 k2 h1 h2) (.lit (.bool true)) [] rfl ?_
  intro w' hown' hgr
  refine h w' ⟨n + 1, _, hown', by omega, ?_, fun x y hx' hy => ?_⟩ hgr
  · rw [Maps.size_put (hown.tidy law), hs]
    by_cases hS : S k1 k2
    · rw [if_pos hS, if_pos ((hh k1 k2 h1 h2).2 hS)]
    · rw [if_neg hS, if_neg (fun e => hS ((hh k1 k2 h1 h2).1 e))]
  · by_cases e : x = k1 ∧ y = k2
    · obtain ⟨rfl, rfl⟩ := e
      rw [Maps.has_put_same hown.isMap (law.key (hkey x y hx' hy))]
      simp
    · have hne : kl x y ≠ kl k1 k2 := fun k => e (kl_inj hx' hy h1 h2 k)
      rw [Maps.has_put_other hne, hh x y hx' hy]
      simp [e]
theorem at_size {ops : Array Oper} {rest : List Oper} {o : Oper} {a : Act} {Q : Exit → Act → World → Prop} {w : World} (hg : o.guard = none) (m : Operand) (hop : o.op = Op.call { callee := Callee.builtin Builtin.len, args := #[m], argTypes := #[85] }) (b N c : Nat) (S : Int → Int → Prop) (hm : a.eval m = .map (some b)) (hK : KM b w N c S)
    (h : wpList Try.prog ops Q rest (a.put o.dst (.int .i64 c)) w) : wpList Try.prog ops Q (o :: rest) a w := by
  obtain ⟨n, D, hown, hn, hs, hh⟩ := hK
  refine wpList_len_own _ hg m 85 hop 88 86 Try.underlying85 RU b n D hm hown ?_
  rw [hs]
  exact h
/-- how many blocks of names the first so many indices want -/
structure CS where
  s : Bool
  last : Int
  c : Nat
def stp (q : CS) (x : Int) : CS :=
  if lvl x = 1 then ⟨true, q.last, if q.s then q.c else q.c + 1⟩
  else if lvl x = 2 then ⟨q.s, fst x, (if q.last < 0 then q.c + 1 else q.c) + (if fst x = q.last then 0 else 1)⟩
  else q
def stA (l : List Int) : Nat → CS
  | 0 => ⟨false, -1, 0⟩
  | j + 1 => stp (stA l j) (l.getD j 0)
theorem stA_c (l : List Int) : ∀ j, (stA l j).c ≤ 2 * j
  | 0 => Nat.le_refl _
  | j + 1 => by
    have := stA_c l j
    unfold stA stp
    split
    · split <;> simp only <;> omega
    · split
      · simp only; split <;> split <;> omega
      · omega
/-- what Cost answers -/
def cosE (l : List Int) : Int := if goodB l then 0 else 1
def cosV (l : List Int) : Int := if goodB l then (l.length + (stA l l.length).c : Nat) else 0
theorem good_ix {l : List Int} (h : goodB l = true) {j : Nat} (hj : j < l.length) : ∃ n : Nat, l.getD j 0 = n ∧ n < 4166 := by
  have := (goodB_iff l).1 h j hj
  unfold okAt at this
  rw [Bool.and_eq_true] at this
  exact ix_nat this.1
theorem good_lt {l : List Int} (h : goodB l = true) {j : Nat} (hj : j + 1 < l.length) : l.getD j 0 < l.getD (j + 1) 0 := by
  have := (goodB_iff l).1 h (j + 1) hj
  unfold okAt at this
  rw [Bool.and_eq_true, Bool.or_eq_true] at this
  rcases this.2 with h1 | h1
  · have := of_decide_eq_true h1; omega
  · have := of_decide_eq_true h1
    simpa using this
/-- what the map holds of the indices so far -/
structure CI (l : List Int) (j : Nat) (S : Int → Int → Prop) : Prop where
  one : S 1 0 ↔ (stA l j).s = true
  two : S 2 0 ↔ 0 ≤ (stA l j).last
  top : ∀ a, S 3 a → a ≤ (stA l j).last
  has : 0 ≤ (stA l j).last → S 3 (stA l j).last
  lo : -1 ≤ (stA l j).last
  hi : ∀ x : Nat, (∀ i, i < j → l.getD i 0 < x) → lvl x = 2 → (stA l j).last ≤ fst x
theorem CI.zero (l : List Int) : CI l 0 fun _ _ => False := by
  have hl : (stA l 0).last = -1 := rfl
  refine ⟨⟨fun h => h.elim, fun h => by cases h⟩, ⟨fun h => h.elim, fun h => by omega⟩, fun a h => h.elim, fun h => by omega, by omega, fun x _ h => ?_⟩
  rcases lvl_cases x with ⟨_, e, _⟩ | ⟨_, _, e, _⟩ | ⟨h0, _, e, _⟩
  · omega
  · omega
  · show (-1 : Int) ≤ _
    rw [e]; omega
theorem stA_zero {l : List Int} {j : Nat} (h : lvl (l.getD j 0) = 0) : stA l (j + 1) = stA l j := by
  show stp _ _ = _
  unfold stp
  rw [if_neg (by omega), if_neg (by omega)]
theorem stA_one {l : List Int} {j : Nat} (h : lvl (l.getD j 0) = 1) : stA l (j + 1) = ⟨true, (stA l j).last, if (stA l j).s then (stA l j).c else (stA l j).c + 1⟩ := by
  show stp _ _ = _
  unfold stp
  rw [if_pos h]
theorem stA_two {l : List Int} {j : Nat} (h : lvl (l.getD j 0) = 2) : stA l (j + 1) = ⟨(stA l j).s, fst (l.getD j 0), (if (stA l j).last < 0 then (stA l j).c + 1 else (stA l j).c) + (if fst (l.getD j 0) = (stA l j).last then 0 else 1)⟩ := by
  show stp _ _ = _
  unfold stp
  rw [if_neg (by omega), if_pos h]
theorem CI.next0 {l : List Int} {j : Nat} {S : Int → Int → Prop} (h : CI l j S) (h0 : lvl (l.getD j 0) = 0) : CI l (j + 1) S := by
  rw [show CI l (j + 1) S = CI l (j + 1) S from rfl]
  have e := stA_zero h0
  exact ⟨by rw [e]; exact h.one, by rw [e]; exact h.two, by rw [e]; exact h.top, by rw [e]; exact h.has, by rw [e]; exact h.lo, fun x hx hl => by rw [e]; exact h.hi x (fun i hi => hx i (by omega)) hl⟩
theorem CI.next1 {l : List Int} {j : Nat} {S : Int → Int → Prop} (h : CI l j S) (h0 : lvl (l.getD j 0) = 1) : CI l (j + 1) fun x y => S x y ∨ (x = 1 ∧ y = 0) := by
  have e := stA_one h0
  refine ⟨by rw [e]; simp, ?_, ?_, ?_, by rw [e]; exact h.lo, fun x hx hl => by rw [e]; exact h.hi x (fun i hi => hx i (by omega)) hl⟩
  · rw [e]
    simp only [h.two]
    constructor
    · rintro (h1 | ⟨h1, _⟩)
      · exact h1
      · omega
    · exact .inl
  · rw [e]
    rintro a (h1 | ⟨h1, _⟩)
    · exact h.top a h1
    · omega
  · rw [e]
    exact fun h1 => .inl (h.has h1)
theorem fst_mono {x y : Nat} (hx : lvl x = 2) (hxy : (x : Int) < y) : 0 ≤ fst x ∧ fst x ≤ fst y ∧ lvl y = 2 := by
  rcases lvl_cases x with ⟨_, e, _⟩ | ⟨_, _, e, _⟩ | ⟨h0, e0, e1, _⟩
  · omega
  · omega
  · rcases lvl_cases y with ⟨_, e, _⟩ | ⟨_, _, e, _⟩ | ⟨h1, e2, e3, _⟩
    · omega
    · omega
    · rw [e1, e3]
      exact ⟨by omega, by omega, e2⟩
theorem CI.next2 {l : List Int} {j : Nat} {S : Int → Int → Prop} (h : CI l j S) {n : Nat} (hn : l.getD j 0 = n) (hlt : ∀ i, i < j → l.getD i 0 < n) (h0 : lvl n = 2) : CI l (j + 1) fun x y => (S x y ∨ (x = 2 ∧ y = 0)) ∨ (x = 3 ∧ y = fst n) := by
  have e := stA_two (l := l) (j := j) (by rw [hn]; exact h0)
  rw [hn] at e
  have hp : 0 ≤ fst n := by
    rcases lvl_cases n with ⟨_, e, _⟩ | ⟨_, _, e, _⟩ | ⟨h0, e0, e1, _⟩
    · omega
    · omega
    · rw [e1]; omega
  have hle := h.hi n hlt h0
  refine ⟨?_, ?_, ?_, ?_, by rw [e]; simp only; omega, fun x hx hl => ?_⟩
  · rw [e]
    simp only [← h.one]
    constructor
    · rintro ((h1 | ⟨h1, _⟩) | ⟨h1, _⟩)
      · exact h1
      · omega
      · omega
    · exact fun h1 => .inl (.inl h1)
  · rw [e]
    exact ⟨fun _ => hp, fun _ => .inl (.inr ⟨rfl, rfl⟩)⟩
  · rw [e]
    simp only
    rintro a ((h1 | ⟨h1, _⟩) | ⟨_, h1⟩)
    · have := h.top a h1; omega
    · omega
    · omega
  · rw [e]
    exact fun _ => .inr ⟨rfl, rfl⟩
  · rw [e]
    have := hx j (by omega)
    rw [hn] at this
    exact (fst_mono h0 this).2.1
set_option maxRecDepth 100000 in
theorem cost_no (v : Value) (l : List Int) (w : World) (hl : ILie w v l) (h : goodB l = false) : Calls Try.prog 26 #[v] w fun e w' => e = .returned (.tuple #[.int .i64 0, .int .i64 1]) ∧ Below w.heap.size w w' := by
  have HA := hid (areIx_any v l w hl)
  rw [h] at HA
  clear hl h
  go_enter Try.func26, Try.ntmps26
  go_wp2_with (first | (go_at_call 50; refine (HA.out).mono ?_; rintro e w1 ⟨rfl, rfl⟩))
  go_ret2
  exact ⟨rfl, Below.refl _ _⟩
theorem cell_of {w : World} {g : Nat} {cs : Array Value} {t : TypeId} (hh : w.heap[g]? = some (.cells cs t (0, 0))) (i : Nat) : w.cell? ⟨g, i, none⟩ = cs[i]? := by simp [World.cell?, hh]
theorem kmSame {b N c : Nat} {wr w1 : World} {S : Int → Int → Prop} (h : KM b wr N c S) (hb : Below wr.heap.size wr w1) (o : Obj) : KM b (w1.alloc o) N c S :=
  (h.same (hb.block b h.lt)).same (Below.heap_alloc _ _ _ (Nat.lt_of_lt_of_le h.lt hb.size))
theorem ini {n : Int} (h : -1000000 ≤ n ∧ n ≤ 1000000) : inI n := by unfold inI; omega
open Classical in
theorem cnt_one {l : List Int} {j : Nat} {S : Int → Int → Prop} (hC : CI l j S) (h0 : lvl (l.getD j 0) = 1) : (if S 1 0 then (stA l j).c else (stA l j).c + 1) = (stA l (j + 1)).c := by
  rw [stA_one h0]
  by_cases h : S 1 0
  · rw [if_pos h, if_pos (hC.one.1 h)]
  · rw [if_neg h, if_neg (fun e => h (hC.one.2 e))]
open Classical in
theorem cnt_two {l : List Int} {j : Nat} {S : Int → Int → Prop} (hC : CI l j S) {n : Nat} (hn : l.getD j 0 = n) (hlt : ∀ i, i < j → l.getD i 0 < n) (h0 : lvl n = 2) :
    (if (S 3 (fst n) ∨ ((3 : Int) = 2 ∧ fst n = 0)) then (if S 2 0 then (stA l j).c else (stA l j).c + 1) else (if S 2 0 then (stA l j).c else (stA l j).c + 1) + 1) = (stA l (j + 1)).c := by
  have e := stA_two (l := l) (j := j) (by rw [hn]; exact h0)
  rw [hn] at e
  rw [e]
  have hle := hC.hi n hlt h0
  have hp : 0 ≤ fst n := by
    rcases lvl_cases n with ⟨_, e, _⟩ | ⟨_, _, e, _⟩ | ⟨h0, e0, e1, _⟩
    · omega
    · omega
    · rw [e1]; omega
  have h2 : (if S 2 0 then (stA l j).c else (stA l j).c + 1) = (if (stA l j).last < 0 then (stA l j).c + 1 else (stA l j).c) := by
    by_cases h : S 2 0
    · have := hC.two.1 h
      rw [if_pos h, if_neg (by omega)]
    · have : ¬ 0 ≤ (stA l j).last := fun e => h (hC.two.2 e)
      rw [if_neg h, if_pos (by omega)]
  rw [h2]
  by_cases h3 : fst n = (stA l j).last
  · rw [if_pos (.inl (by rw [h3]; exact hC.has (by omega))), if_pos h3]
    rfl
  · rw [if_neg (by
      rintro (h4 | h4)
      · have := hC.top _ h4; omega
      · omega), if_neg h3]
theorem good_below {l : List Int} (h : goodB l = true) : ∀ {j : Nat}, j < l.length → ∀ i, i < j → l.getD i 0 < l.getD j 0
  | 0, _, i, hi => by omega
  | j + 1, hj, i, hi => by
    have h1 := good_lt h hj
    by_cases e : i = j
    · rw [e]; exact h1
    · have := good_below h (j := j) (by omega) i (by omega)
      omega
open Classical in
set_option maxRecDepth 100000 in
set_option maxHeartbeats 2000000 in
theorem cost_ok (v : Value) (l : List Int) (w : World) (hl : ILie w v l) (h : goodB l = true) (hlen : l.length ≤ 4166) : Calls Try.prog 26 #[v] w fun e w' => e = .returned (.tuple #[.int .i64 (l.length + (stA l l.length).c : Nat), .int .i64 0]) ∧ Below w.heap.size w w' := by
  have HA := hid (areIx_any v l w hl)
  rw [h] at HA
  have HG := hid h
  obtain ⟨ao, cap, rfl, h1, h2, h3⟩ := hl
  have H3 := hid h3
  have HP := hid placeOf_any
  have HM := hid (KM.made w)
  have hmm := fun w => run_makeMap (P := Try.prog) 85 w
  have hco := stA_c l l.length
  clear h h1 h2 h3
  go_enter Try.func26, Try.ntmps26
  go_wp2_with (first | (go_at_call 50; refine (HA.out).mono ?_; rintro e w ⟨rfl, rfl⟩))
  go_loopw [14] (fun i wr => ∃ (j : Nat) (S : Int → Int → Prop), i = .int .i64 j ∧ j ≤ l.length ∧ KM w.heap.size wr (2 * j) (stA l j).c S ∧ CI l j S ∧ Below w.heap.size w wr) (fun i _ => l.length - (intOf i).toNat)
  case atStart => exact ⟨0, _, rfl, Nat.zero_le _, HM.out, CI.zero l, below_alloc _ _⟩
  case round =>
    obtain ⟨j, S, rfl, hj, hK, hC, hB⟩ := hrel
    have HK := hid hK
    have HC := hid hC
    have HB := hid hB
    rename World => wr
    clear hK hC hB HM HA hmm
    by_cases hlt : j < l.length
    · obtain ⟨gb, off, rfl, hgl, c0⟩ := H3.out j hlt
      obtain ⟨n, hn, hn2⟩ := good_ix HG.out hlt
      rw [← getD_in hlt, hn] at c0
      replace c0 := (HB.out.cell (p := ⟨gb, off + j, none⟩) hgl).trans c0
      have HN := hid hn
      have HLT : Hid (∀ i, i < j → l.getD i 0 < n) := fun i hi => by have := good_below HG.out hlt i hi; rw [hn] at this; exact this
      replace HP := hid (HP.out n hn2)
      clear hn
      rcases lvl_cases n with ⟨h1, e1, e2, e3⟩ | ⟨h0, h1, e1, e2, e3⟩ | ⟨h1, e1, e2, e3⟩
      · rw [e1, e2, e3] at HP
        have HE := hid e1
        clear e1 e2 e3 hco
        go_wp2_with (first | (go_at_call 48; refine (HP.out _).mono ?_; rintro e w1 ⟨rfl, hb1⟩; have HB1 := hid hb1; clear hb1))
        go_roundw
        case rel =>
          have hz : lvl (l.getD j 0) = 0 := by rw [HN.out]; exact HE.out
          refine ⟨j + 1, S, by go_num, by omega, ?_, HC.out.next0 hz, (HB.out.next HB1.out).next (below_alloc _ _)⟩
          obtain ⟨a1, a2, a3, a4⟩ := kmSame HK.out HB1.out (.cells #[.int .i64 0, .int .i64 (n : Int), .int .i64 0] 83)
          exact ⟨a1, a2, a3, by omega, by rw [stA_zero hz]; exact a4.2⟩
        case measure => simp [intOf]; omega
      · rw [e1, e2, e3] at HP
        have HE := hid e1
        clear e1 e2 e3 hco
        go_wp2_with (first
          | (go_at_call 48; refine (HP.out _).mono ?_; rintro e w1 ⟨rfl, hb1⟩; have HB1 := hid hb1; clear hb1)
          | (at_mapUpdate; refine at_put rfl _ _ _ rfl w.heap.size (2 * j) (stA l j).c S 1 0 (ini (by omega)) (ini (by omega)) rfl rfl rfl (kmSame HK.out HB1.out _) (by omega) ?_; intro w2 hK2 hg2; have HK2 := hid hK2; have HG2 := hid hg2; clear hK2 hg2))
        go_roundw
        case rel =>
          have hz : lvl (l.getD j 0) = 1 := by rw [HN.out]; exact HE.out
          refine ⟨j + 1, _, by go_num, by omega, ?_, HC.out.next1 hz, ((HB.out.next HB1.out).next (below_alloc _ _)).grown HG2.out (by have := HB.out.size; have := HB1.out.size; simp; omega) (fun k hk => by cases hk; exact Nat.le_refl _)⟩
          obtain ⟨a1, a2, a3, a4, a5, a6⟩ := HK2.out
          exact ⟨a1, a2, a3, by omega, by rw [a5]; exact cnt_one HC.out hz, a6⟩
        case measure => simp [intOf]; omega
      · rw [e1] at HP
        have HE := hid e1
        have hf : 0 ≤ fst n ∧ fst n ≤ 1000 := by rw [e2]; omega
        obtain ⟨a, ha⟩ : ∃ a, a = fst n := ⟨_, rfl⟩
        obtain ⟨b, hb⟩ : ∃ b, b = snd n := ⟨_, rfl⟩
        rw [← ha, ← hb] at HP
        rw [← ha] at hf
        have HAA := hid ha
        clear e1 e2 e3 hco ha hb
        go_wp2_with (first
          | (go_at_call 48; refine (HP.out _).mono ?_; rintro e w1 ⟨rfl, hb1⟩; have HB1 := hid hb1; clear hb1; have t1 : Hid True := trivial)
          | (at_mapUpdate; clear t1; refine at_put rfl _ _ _ rfl w.heap.size (2 * j) (stA l j).c S 2 0 (ini (by omega)) (ini (by omega)) rfl rfl rfl (kmSame HK.out HB1.out _) (by omega) ?_; intro w2 hK2 hg2; have HK2 := hid hK2; have HG2 := hid hg2; have hbk : w2.heap[w1.heap.size]? = _ := (hg2.block w1.heap.size (by simp) (fun e => by have e := Option.some.inj e; have := Nat.lt_of_lt_of_le HK.out.lt HB1.out.size; omega)).trans (box_at w1 _); have c1 : w2.cell? ⟨w1.heap.size, 1, none⟩ = some (.int .i64 a) := (cell_of hbk 1).trans rfl; clear hK2 hg2 hbk)
          | (at_mapUpdate; refine at_put rfl _ _ _ rfl w.heap.size (2 * j + 1) _ _ 3 a (ini (by omega)) (ini (by omega)) rfl rfl rfl HK2.out (by omega) ?_; intro w3 hK3 hg3; have HK3 := hid hK3; have HG3 := hid hg3; clear hK3 hg3))
        go_roundw
        case rel =>
          have hz := HAA.out
          subst hz
          have hs1 : w.heap.size ≤ w1.heap.size + 1 := by have := HB.out.size; have := HB1.out.size; omega
          refine ⟨j + 1, _, by go_num, by omega, ?_, HC.out.next2 HN.out HLT.out HE.out, (((HB.out.next HB1.out).next (below_alloc _ _)).grown HG2.out (by simp; omega) (fun k hk => by cases hk; exact Nat.le_refl _)).grown HG3.out (by have := HG2.out.size; simp at this; omega) (fun k hk => by cases hk; exact Nat.le_refl _)⟩
          obtain ⟨a1, a2, a3, a4, a5, a6⟩ := HK3.out
          have hct := cnt_two HC.out HN.out HLT.out HE.out
          refine ⟨a1, a2, a3, by omega, ?_, a6⟩
          rw [a5]
          by_cases hq : S 3 (fst n) ∨ (3 : Int) = 2 ∧ fst n = 0
          · rw [if_pos hq] at hct ⊢
            exact hct
          · rw [if_neg hq] at hct ⊢
            exact hct
        case measure => simp [intOf]; omega
    · have hje : j = l.length := by omega
      subst hje
      obtain ⟨c, hc⟩ : ∃ c, c = (stA l l.length).c := ⟨_, rfl⟩
      rw [← hc] at HK hco
      have HCC := hid hc
      clear hc
      go_wp2_with (first | (at_len; refine at_size rfl _ rfl w.heap.size _ c S rfl HK.out ?_))
      go_ret2
      exact ⟨by rw [← HCC.out]; rfl, HB.out⟩
theorem good_len {l : List Int} (h : goodB l = true) : l.length ≤ 4166 := by
  by_cases h0 : l.length = 0
  · omega
  · have key : ∀ j, j < l.length → (j : Int) ≤ l.getD j 0 := by
      intro j
      induction j with
      | zero =>
        intro hj
        obtain ⟨n, hn, _⟩ := good_ix h hj
        rw [hn]; omega
      | succ j ih =>
        intro hj
        have h1 := ih (by omega)
        have h2 := good_lt h hj
        omega
    have h1 := key (l.length - 1) (by omega)
    obtain ⟨n, hn, hn2⟩ := good_ix h (show l.length - 1 < l.length by omega)
    rw [hn] at h1
    omega
theorem cost_any (v : Value) (l : List Int) (w : World) (hl : ILie w v l) : Calls Try.prog 26 #[v] w fun e w' => e = .returned (.tuple #[.int .i64 (cosV l), .int .i64 (cosE l)]) ∧ Below w.heap.size w w' := by
  unfold cosV cosE
  cases h : goodB l with
  | false => exact cost_no v l w hl h
  | true => exact cost_ok v l w hl h (good_len h)
end Go.Proofs.Ytmabnnimacjplaa
