import Derived.Test.YtokjlgebkihimaaGreatZm
import Derived.Test.YtokjlgebkihimaaGreatHsc
import Derived.Test.YtokjlgebkihimaaGreatBe
namespace Go.Proofs.YtokjlgebkihimaaGreat.Um
open Go.RowKit Go.Maps

set_option maxRecDepth 100000 in
theorem MIs.tight {b N : Nat} {w : World} {M : List Chg} (h : MIs b w N M) : MIs b w M.length M := by
  obtain ⟨n, D, h1, h2, hs, h3⟩ := h
  obtain ⟨es, clock, hb, F, hle, rfl⟩ := h1
  have e1 : es.size = M.length := by rw [← hs]; simp [Maps.size, length_sorted]
  exact ⟨M.length, _, ⟨es, clock, hb, F, by omega, rfl⟩, Nat.le_refl _, hs, h3⟩
set_option maxRecDepth 100000 in
theorem MIs.rise {b N : Nat} {w : World} {M : List Chg} (h : MIs b w N M) : Rise M := by
  obtain ⟨n, D, h1, h2, hs, h3, h4, h5, hr⟩ := h
  exact hr
set_option maxRecDepth 100000 in
theorem MIs.isMap {b N : Nat} {w : World} {M : List Chg} (h : MIs b w N M) : ∃ es c, w.heap[b]? = some (.map es c) := by
  obtain ⟨n, D, ⟨es, clock, hb, _⟩, _⟩ := h
  exact ⟨es, clock, hb⟩
set_option maxRecDepth 100000 in
theorem drop_len : ∀ {M : List Chg} (k : Int), Rise M → (M.filter (fun x => x.b != k)).length + (if M.any (fun x => x.b == k) then 1 else 0) = M.length
  | [], k, _ => by simp
  | y :: M, k, h => by
    unfold Rise at h
    rw [List.pairwise_cons] at h
    have ih := drop_len (M := M) k h.2
    by_cases e : y.b = k
    · have hno : M.any (fun x => x.b == k) = false := by
        rw [List.any_eq_false]
        intro x hx
        have := h.1 x hx
        simp; omega
      rw [hno] at ih
      rw [List.filter_cons_of_neg (by simp [e]), List.any_cons]
      simp [e] at ih ⊢
      omega
    · rw [List.filter_cons_of_pos (by simp [e]), List.any_cons, List.length_cons, List.length_cons]
      have : (y.b == k) = false := by simp [e]
      rw [this, Bool.false_or]
      omega
set_option maxRecDepth 100000 in
theorem MIs.drop {b N : Nat} {w : World} {M : List Chg} (h : MIs b w N M) (k : Int) (hk : inI k) (ty : TypeId) :
    ∃ w', (Builtin.delete_ #[74, 3] ty #[.map (some b), .int .i64 k]).run Tryz.prog w = .ok (.tuple #[]) w' ∧ MIs b w' N (M.filter (fun x => x.b != k)) ∧ w.grownBy w' (some b) ∧ w'.heap.size = w.heap.size := by
  obtain ⟨n, D, h1, h2, hs, h3, h4, h5, hr⟩ := h
  obtain ⟨w', hrun, hown, hturn⟩ := h1.drop law Tryz.underlying74 (hkey k hk) ty
  refine ⟨w', hrun, ⟨n, _, hown, h2, ?_, fun j => ?_, fun x hx => ?_, fun l hl => ?_, ?_⟩, hturn.grown, ?_⟩
  · have hsd := Maps.size_del (k := kl k) (h1.tidy law)
    rw [hs, h3] at hsd
    have := drop_len k hr
    omega
  · by_cases e : j = k
    · subst e
      rw [Maps.has_del_same]
      symm
      rw [List.any_eq_false]
      intro x hx
      simpa using (List.mem_filter.1 hx).2
    · rw [Maps.has_del_other (fun e' => e (kl_inj e')), h3]
      rw [Bool.eq_iff_iff, List.any_eq_true, List.any_eq_true]
      constructor
      · rintro ⟨x, hx, hk'⟩
        have hb : x.b = j := by simpa using hk'
        exact ⟨x, List.mem_filter.2 ⟨hx, by simp [hb, e]⟩, hk'⟩
      · rintro ⟨x, hx, hk'⟩
        exact ⟨x, (List.mem_filter.1 hx).1, hk'⟩
  · obtain ⟨hx, hne⟩ := List.mem_filter.1 hx
    have hne : x.b ≠ k := by simpa using hne
    refine ⟨(h4 x hx).1, fun z => ?_⟩
    rw [Maps.atKey_del_other (fun e' => hne (kl_inj e'))]
    exact (h4 x hx).2 z
  · by_cases e : l = kl k
    · exact ⟨k, e⟩
    · rw [Maps.has_del_other e] at hl
      exact h5 l hl
  · exact List.Pairwise.sublist List.filter_sublist hr
  · obtain ⟨es, c, es', c', e1, rfl⟩ := hturn
    simp [ChangeMaps.setBlock]
end Go.Proofs.YtokjlgebkihimaaGreat.Um
namespace Go.Proofs.YtokjlgebkihimaaGreat
open Go.RowKit Go.Maps

/-- where a view's regions lie: the bitmap, the table, the data blocks and how many they are, how many inodes, how many blocks -/
structure Geo where
  bm : Nat
  t : Nat
  da : Nat
  ct : Nat
  z : Nat
  n : Nat
structure Geo.Ok (G : Geo) : Prop where
  bt : G.bm + 1 = G.t
  b1 : 1 ≤ G.bm
  tz : G.t + (G.z + 3) / 4 = G.da
  z1 : 1 ≤ G.z
  z64 : G.z ≤ 64
  sum : G.da + G.ct = G.n
  c4 : 4 ≤ G.ct
  n1 : G.n ≤ 1024
/-- a view's own block -/
def vwC (G : Geo) (q cap m : Nat) : Array Value := #[.int .i64 1, .int .i64 (G.bm : Int), .int .i64 (G.t : Int), .int .i64 (G.da : Int), .int .i64 (G.ct : Int), .int .i64 (G.z : Int), .slice (some ⟨q, 0, none⟩) G.n cap, .map (some m)]
/-- block b of a list -/
def bk (B : List ByteArray) (b : Nat) : ByteArray := B.getD b ByteArray.empty
set_option maxRecDepth 100000 in
theorem bk_get {B : List ByteArray} {b : Nat} (h : b < B.length) : bk B b = B[b] := by simp [bk, h]
set_option maxRecDepth 100000 in
theorem bk_mem {B : List ByteArray} {b : Nat} (h : b < B.length) : bk B b ∈ B := by rw [bk_get h]; exact List.getElem_mem h
set_option maxRecDepth 100000 in
theorem bk_set {B : List ByteArray} {b k : Nat} (d : ByteArray) (h : b < B.length) : bk (B.set b d) k = if b = k then d else bk B k := by
  unfold bk
  by_cases e : b = k
  · subst e; simp [h]
  · simp [e]
/-- what a view's map holds: the blocks that are not as they were -/
def Diff (F B : List ByteArray) (M : List Chg) : Prop := ∀ c, c ∈ M ↔ ∃ b : Nat, b < B.length ∧ c = ⟨(b : Int), bk B b⟩ ∧ bk F b ≠ bk B b
set_option maxRecDepth 100000 in
theorem Diff.yes {F B : List ByteArray} {M : List Chg} (h : Diff F B M) (b : Nat) (hb : b < B.length) (hn : bk F b ≠ bk B b) : Um.lookL M (b : Int) = some ⟨(b : Int), bk B b⟩ := by
  have hm : (⟨(b : Int), bk B b⟩ : Chg) ∈ M := (h _).2 ⟨b, hb, rfl, hn⟩
  unfold Um.lookL
  cases hf : M.find? fun x => x.b == (b : Int) with
  | none => have := List.find?_eq_none.1 hf _ hm; simp at this
  | some y =>
    have hy := List.mem_of_find?_eq_some hf
    have hyb : y.b = (b : Int) := by have := List.find?_some hf; simpa using this
    obtain ⟨c, _, rfl, _⟩ := (h y).1 hy
    have hcb : (c : Int) = (b : Int) := by simpa using hyb
    have : c = b := by omega
    rw [this]
set_option maxRecDepth 100000 in
theorem Diff.no {F B : List ByteArray} {M : List Chg} (h : Diff F B M) (b : Nat) (hn : bk F b = bk B b) : Um.lookL M (b : Int) = none := by
  unfold Um.lookL
  rw [List.find?_eq_none]
  intro y hy hyb
  obtain ⟨c, _, rfl, hne⟩ := (h y).1 hy
  have hcb : (c : Int) = (b : Int) := by simpa using hyb
  have : c = b := by omega
  subst this
  exact hne hn
set_option maxRecDepth 100000 in
theorem Diff.drop {F B : List ByteArray} {M : List Chg} (h : Diff F B M) (b : Nat) (hb : b < B.length) : Diff F (B.set b (bk F b)) (M.filter (fun x => x.b != (b : Int))) := by
  intro c
  rw [List.mem_filter, h c]
  constructor
  · rintro ⟨⟨k, hk, rfl, hne⟩, hc⟩
    have hkb : ¬ b = k := by intro e; subst e; simp at hc
    refine ⟨k, by simpa using hk, ?_, ?_⟩
    · rw [bk_set _ hb, if_neg hkb]
    · rw [bk_set _ hb, if_neg hkb]; exact hne
  · rintro ⟨k, hk, rfl, hne⟩
    rw [List.length_set] at hk
    by_cases e : b = k
    · subst e
      rw [bk_set _ hb, if_pos rfl] at hne
      exact absurd rfl hne
    · rw [bk_set _ hb, if_neg e] at hne ⊢
      exact ⟨⟨k, hk, rfl, hne⟩, by simp; omega⟩
set_option maxRecDepth 100000 in
theorem Diff.put {F B : List ByteArray} {M : List Chg} (h : Diff F B M) (hr : Rise M) (b : Nat) (hb : b < B.length) (d : ByteArray) (hd : bk F b ≠ d) : Diff F (B.set b d) (Um.withL M ⟨(b : Int), d⟩) := by
  intro c
  rw [Um.withL_mem hr, h c]
  constructor
  · rintro (rfl | ⟨⟨k, hk, rfl, hne⟩, hc⟩)
    · exact ⟨b, by simpa using hb, by rw [bk_set _ hb, if_pos rfl], by rw [bk_set _ hb, if_pos rfl]; exact hd⟩
    · have hkb : ¬ b = k := by intro e; subst e; simp at hc
      refine ⟨k, by simpa using hk, ?_, ?_⟩
      · rw [bk_set _ hb, if_neg hkb]
      · rw [bk_set _ hb, if_neg hkb]; exact hne
  · rintro ⟨k, hk, rfl, hne⟩
    rw [List.length_set] at hk
    by_cases e : b = k
    · subst e
      rw [bk_set _ hb, if_pos rfl]
      exact .inl rfl
    · rw [bk_set _ hb, if_neg e] at hne ⊢
      exact .inr ⟨⟨k, hk, rfl, hne⟩, by simp; omega⟩
set_option maxRecDepth 100000 in
theorem rise_len : ∀ {M : List Chg} {a n : Int}, Rise M → (∀ c ∈ M, a ≤ c.b ∧ c.b < n) → a ≤ n → (M.length : Int) ≤ n - a
  | [], a, n, _, _, h => by simp; omega
  | c :: M, a, n, hr, hm, h => by
    unfold Rise at hr
    rw [List.pairwise_cons] at hr
    have h1 := hm c (by simp)
    have := rise_len (M := M) (a := c.b + 1) (n := n) hr.2 (fun x hx => ⟨by have := hr.1 x hx; omega, (hm x (by simp [hx])).2⟩) (by omega)
    simp; omega
set_option maxRecDepth 100000 in
theorem Diff.len {F B : List ByteArray} {M : List Chg} (h : Diff F B M) (hr : Rise M) : M.length ≤ B.length := by
  have := rise_len (a := 0) (n := (B.length : Int)) hr (fun c hc => by obtain ⟨k, hk, rfl, _⟩ := (h c).1 hc; simp; omega) (by omega)
  omega
/-- a view in memory: the blocks F as they were at first, the blocks B as they are -/
structure VI (G : Geo) (p q cap m : Nat) (w : World) (F B : List ByteArray) : Prop where
  own : w.heap[p]? = some (.cells (vwC G q cap m) 76 (0, 0))
  row : ∀ i (h : i < F.length), w.cell? ⟨q, i, none⟩ = some (.string F[i])
  ne : q ≠ p
  map : ∃ M, Um.MIs m w M.length M ∧ Diff F B M
  ok : G.Ok
  fl : F.length = G.n
  bl : B.length = G.n
  fs : ∀ s ∈ F, s.size = 128
  bs : ∀ s ∈ B, s.size = 128
set_option maxRecDepth 100000 in
theorem cell_same {w w' : World} {q : Nat} (h : w'.heap[q]? = w.heap[q]?) (i : Nat) : w'.cell? ⟨q, i, none⟩ = w.cell? ⟨q, i, none⟩ := by simp [World.cell?, h]
set_option maxRecDepth 100000 in
theorem VI.pl {G : Geo} {p q cap m : Nat} {w : World} {F B : List ByteArray} (h : VI G p q cap m w F B) : p < w.heap.size := lt_of_block h.own
set_option maxRecDepth 100000 in
theorem VI.ql {G : Geo} {p q cap m : Nat} {w : World} {F B : List ByteArray} (h : VI G p q cap m w F B) : q < w.heap.size := by
  have h0 : 0 < F.length := by have := h.fl; have := h.ok.sum; have := h.ok.c4; omega
  have h1 := h.row 0 h0
  by_cases e : q < w.heap.size
  · exact e
  · exfalso
    have hn : w.heap[q]? = none := by simp; omega
    simp [World.cell?, hn] at h1
set_option maxRecDepth 100000 in
theorem VI.ml {G : Geo} {p q cap m : Nat} {w : World} {F B : List ByteArray} (h : VI G p q cap m w F B) : m < w.heap.size := by
  obtain ⟨M, h1, _⟩ := h.map
  exact h1.lt
set_option maxRecDepth 100000 in
theorem VI.pm {G : Geo} {p q cap m : Nat} {w : World} {F B : List ByteArray} (h : VI G p q cap m w F B) : p ≠ m := by
  rintro rfl
  obtain ⟨M, h1, _⟩ := h.map
  obtain ⟨es, c, h2⟩ := h1.isMap
  have := h.own
  rw [h2] at this
  cases this
set_option maxRecDepth 100000 in
theorem VI.qm {G : Geo} {p q cap m : Nat} {w : World} {F B : List ByteArray} (h : VI G p q cap m w F B) : q ≠ m := by
  rintro rfl
  obtain ⟨M, h1, _⟩ := h.map
  obtain ⟨es, c, h2⟩ := h1.isMap
  have h0 : 0 < F.length := by have := h.fl; have := h.ok.sum; have := h.ok.c4; omega
  have := h.row 0 h0
  simp [World.cell?, h2] at this
set_option maxRecDepth 100000 in
theorem VI.same {G : Geo} {p q cap m : Nat} {w w' : World} {F B : List ByteArray} (h : VI G p q cap m w F B) (hp : w'.heap[p]? = w.heap[p]?) (hq : w'.heap[q]? = w.heap[q]?) (hm : w'.heap[m]? = w.heap[m]?) : VI G p q cap m w' F B := by
  obtain ⟨M, h1, h2⟩ := h.map
  exact ⟨hp.trans h.own, fun i hi => (cell_same hq i).trans (h.row i hi), h.ne, ⟨M, h1.same hm, h2⟩, h.ok, h.fl, h.bl, h.fs, h.bs⟩
set_option maxRecDepth 100000 in
theorem VI.below {G : Geo} {p q cap m : Nat} {w w' : World} {F B : List ByteArray} (h : VI G p q cap m w F B) (k : Below w.heap.size w w') : VI G p q cap m w' F B := h.same (k.block p h.pl) (k.block q h.ql) (k.block m h.ml)
set_option maxRecDepth 100000 in
theorem VI.only {G : Geo} {p q cap m : Nat} {w w' : World} {F B : List ByteArray} {fp : List Nat} (h : VI G p q cap m w F B) (k : Only fp w w') (hp : p ∉ fp) (hq : q ∉ fp) (hm : m ∉ fp) : VI G p q cap m w' F B := h.same (k.block p h.pl hp) (k.block q h.ql hq) (k.block m h.ml hm)
set_option maxRecDepth 100000 in
theorem VI.cell {G : Geo} {p q cap m : Nat} {w : World} {F B : List ByteArray} (h : VI G p q cap m w F B) (i : Nat) : w.cell? ⟨p, i, none⟩ = (vwC G q cap m)[i]? := by
  have := h.own
  simp [World.cell?, this]
set_option maxRecDepth 100000 in
theorem VI.rowAt {G : Geo} {p q cap m : Nat} {w : World} {F B : List ByteArray} (h : VI G p q cap m w F B) (b : Nat) (hb : b < G.n) : w.cell? ⟨q, b, none⟩ = some (.string (bk F b)) := by
  have h0 : b < F.length := by have := h.fl; omega
  rw [h.row b h0, bk_get h0]
set_option maxRecDepth 100000 in
theorem VI.size {G : Geo} {p q cap m : Nat} {w : World} {F B : List ByteArray} (h : VI G p q cap m w F B) (b : Nat) (hb : b < G.n) : (bk B b).size = 128 := h.bs _ (bk_mem (by have := h.bl; omega))
set_option maxRecDepth 100000 in
/-- the map's own change of the memory -/
theorem VI.turn {G : Geo} {p q cap m : Nat} {w w' : World} {F B B' : List ByteArray} {M' : List Chg} {N : Nat} (h : VI G p q cap m w F B) (k : w.grownBy w' (some m)) (h1 : Um.MIs m w' N M') (h2 : Diff F B' M') (hl : B'.length = G.n) (hs : ∀ s ∈ B', s.size = 128) : VI G p q cap m w' F B' := by
  refine ⟨(k.block p h.pl ?_).trans h.own, fun i hi => (cell_same (k.block q h.ql ?_) i).trans (h.row i hi), h.ne, ⟨M', h1.tight, h2⟩, h.ok, h.fl, hl, h.fs, hs⟩
  · intro e; exact h.pm (Option.some.inj e)
  · intro e; exact h.qm (Option.some.inj e)
set_option maxRecDepth 100000 in
theorem set_sizes {B : List ByteArray} {b : Nat} {d : ByteArray} (h : ∀ s ∈ B, s.size = 128) (hd : d.size = 128) : ∀ s ∈ B.set b d, s.size = 128 := by
  intro s hs
  rcases List.mem_or_eq_of_mem_set hs with h1 | rfl
  · exact h s h1
  · exact hd
set_option maxRecDepth 100000 in
theorem vnone_nil (w : World) : Calls Tryz.prog 55 #[.pointer none] w fun e w' => e = .returned (.bool true) ∧ w' = w := by
  go_enter Tryz.func55, Tryz.ntmps55
  go_wp2
  go_ret
  exact ⟨rfl, rfl⟩
set_option maxRecDepth 100000 in
theorem vnone_any {G : Geo} {p q cap m : Nat} {w : World} {F B : List ByteArray} (h : VI G p q cap m w F B) : Calls Tryz.prog 55 #[.pointer (some ⟨p, 0, none⟩)] w fun e w' => e = .returned (.bool false) ∧ w' = w := by
  have c7 : w.cell? ⟨p, 7, none⟩ = some (.map (some m)) := (h.cell 7).trans rfl
  have qT : ∀ (w : World) (r : Option Nat), (binOp .eql 74 (.map r) (.map none)).run Tryz.prog w = .ok (.bool r.isNone) w := fun w r => run_eql_map_nil w _ _ _ r Tryz.underlying74
  clear h
  go_enter Tryz.func55, Tryz.ntmps55
  go_wp2
  go_ret
  exact ⟨rfl, rfl⟩
set_option maxRecDepth 100000 in
theorem hasInode_any {G : Geo} {p q cap m : Nat} {w : World} {F B : List ByteArray} (i : Int) (h : VI G p q cap m w F B) : Calls Tryz.prog 60 #[.pointer (some ⟨p, 0, none⟩), .int .i64 i] w fun e w' => e = .returned (.bool (decide (0 ≤ i ∧ i < G.z))) ∧ w' = w := by
  have c5 : w.cell? ⟨p, 5, none⟩ = some (.int .i64 (G.z : Int)) := (h.cell 5).trans rfl
  clear h
  by_cases h0 : 0 ≤ i
  · have e0 : decide (0 ≤ i) = true := by simp [h0]
    have e1 : decide (0 ≤ i ∧ i < G.z) = decide (i < G.z) := by simp [h0]
    rw [e1]
    go_enter Tryz.func60, Tryz.ntmps60
    go_wp2
    go_ret
    exact ⟨rfl, rfl⟩
  · have e0 : decide (0 ≤ i) = false := by simp [h0]
    have e1 : decide (0 ≤ i ∧ i < G.z) = false := by simp [h0]
    rw [e1]
    go_enter Tryz.func60, Tryz.ntmps60
    go_wp2
    go_ret
    exact ⟨rfl, rfl⟩
set_option maxRecDepth 100000 in
theorem end_any {G : Geo} {p q cap m : Nat} {w : World} {F B : List ByteArray} (h : VI G p q cap m w F B) : Calls Tryz.prog 180 #[.pointer (some ⟨p, 0, none⟩)] w fun e w' => e = .returned (.int .i64 (G.n : Int)) ∧ ∃ k, w' = w.drewN k := by
  have c3 : w.cell? ⟨p, 3, none⟩ = some (.int .i64 (G.da : Int)) := (h.cell 3).trans rfl
  have c4 : w.cell? ⟨p, 4, none⟩ = some (.int .i64 (G.ct : Int)) := (h.cell 4).trans rfl
  have hw : IntKind.i64.wrap ((G.da : Int) + (G.ct : Int)) = (G.n : Int) := by have := h.ok.sum; have := h.ok.n1; rw [IntKind.wrap_i64] <;> omega
  clear h
  go_enter Tryz.func180, Tryz.ntmps180
  go_wp2_with (go_quiet (fail))
  go_ret
  exact ⟨by first | rfl | rw [hw], _, rfl⟩
set_option maxRecDepth 100000 in
theorem tableBlock_any {G : Geo} {p q cap m : Nat} {w : World} {F B : List ByteArray} (i : Nat) (hi : i < G.z) (h : VI G p q cap m w F B) : Calls Tryz.prog 87 #[.pointer (some ⟨p, 0, none⟩), .int .i64 i] w fun e w' => e = .returned (.int .i64 ((G.t + i / 4 : Nat) : Int)) ∧ w' = w := by
  have c2 : w.cell? ⟨p, 2, none⟩ = some (.int .i64 (G.t : Int)) := (h.cell 2).trans rfl
  obtain ⟨k, hk⟩ : ∃ k, k = i / 4 := ⟨_, rfl⟩
  have hbd : Hid (G.t ≤ 1024 ∧ G.z ≤ 64) := hid (by have := h.ok.z64; have := h.ok.tz; have := h.ok.sum; have := h.ok.n1; omega)
  rw [← hk]
  have hk := hid hk
  clear h
  go_enter Tryz.func87, Tryz.ntmps87
  go_wp2
  go_ret
  refine ⟨ret_int ?_, rfl⟩
  have hk' := hk.out
  have hb' := hbd.out
  unfold wrap64
  omega
end Go.Proofs.YtokjlgebkihimaaGreat
namespace Go.Proofs.YtokjlgebkihimaaGreat
open Go.RowKit Go.Maps

set_option maxRecDepth 100000 in
theorem Only.wide {fp fq : List Nat} {w w' : World} (h : Only fp w w') (hs : ∀ x ∈ fp, x ∈ fq) : Only fq w w' := ⟨h.os, h.tape, h.output, h.size, fun k hk hn => h.block k hk (fun e => hn (hs k e))⟩
set_option maxRecDepth 100000 in
theorem Only.next {fp : List Nat} {w w1 w2 : World} (h : Only fp w w1) (k : Below w1.heap.size w1 w2) : Only fp w w2 := h.trans (Only.of_below k)
set_option maxRecDepth 100000 in
/-- what a block holds now -/
theorem block_any {G : Geo} {p q cap m : Nat} {w : World} {F B : List ByteArray} (b : Nat) (hb : b < G.n) (h : VI G p q cap m w F B) : Calls Tryz.prog 89 #[.pointer (some ⟨p, 0, none⟩), .int .i64 (b : Int)] w fun e w' => e = .returned (.string (bk B b)) ∧ Below w.heap.size w w' := by
  obtain ⟨M, hM, hd⟩ := h.map
  have hn1 := h.ok.n1
  have hl := hM.look (b : Int) ⟨by omega, by omega⟩
  have c6 : w.cell? ⟨p, 6, none⟩ = some (.slice (some ⟨q, 0, none⟩) G.n cap) := (h.cell 6).trans rfl
  have c7 : w.cell? ⟨p, 7, none⟩ = some (.map (some m)) := (h.cell 7).trans rfl
  have hr := h.rowAt b hb
  have hql := h.ql
  have hpl := h.pl
  by_cases hne : bk F b = bk B b
  · rw [hd.no b hne] at hl
    simp only [Option.getD_none, Option.isSome_none, valC] at hl
    rw [hne] at hr
    clear h hM hd hne
    obtain ⟨x, hx⟩ : ∃ x, x = bk B b := ⟨_, rfl⟩
    rw [← hx] at hr ⊢
    clear hx
    go_enter Tryz.func89, Tryz.ntmps89
    go_wp2
    go_ret
    exact ⟨rfl, below_alloc _ _⟩
  · rw [hd.yes b (by have := h.bl; omega) hne] at hl
    simp only [Option.getD_some, Option.isSome_some, valC] at hl
    clear h hM hd hne hr
    obtain ⟨x, hx⟩ : ∃ x, x = bk B b := ⟨_, rfl⟩
    rw [← hx] at hl ⊢
    clear hx
    go_enter Tryz.func89, Tryz.ntmps89
    go_wp2
    go_ret
    exact ⟨rfl, below_alloc _ _⟩
set_option maxRecDepth 100000 in
theorem change_any {G : Geo} {p q cap m : Nat} {w : World} {F B : List ByteArray} (b : Nat) (hb : b < G.n) (d : ByteArray) (hds : d.size = 128) (h : VI G p q cap m w F B) : Calls Tryz.prog 90 #[.pointer (some ⟨p, 0, none⟩), .int .i64 (b : Int), .string d] w fun e w' => e = .returned (.tuple #[]) ∧ VI G p q cap m w' F (B.set b d) ∧ Only [m] w w' := by
  obtain ⟨M, hM, hd⟩ := h.map
  have hn1 := h.ok.n1
  have hbl : b < B.length := by have := h.bl; omega
  have c6 : w.cell? ⟨p, 6, none⟩ = some (.slice (some ⟨q, 0, none⟩) G.n cap) := (h.cell 6).trans rfl
  have c7 : w.cell? ⟨p, 7, none⟩ = some (.map (some m)) := (h.cell 7).trans rfl
  have hr := h.rowAt b hb
  have HV := hid h
  have HS := hid (set_sizes (b := b) (d := d) h.bs hds)
  have HL : Hid ((B.set b d).length = G.n) := hid (by rw [List.length_set]; exact h.bl)
  clear h hds
  by_cases hne : bk F b = d
  · subst hne
    obtain ⟨w1, hrun, h1, hg, _⟩ := hM.drop (b : Int) ⟨by omega, by omega⟩ 0
    have HV1 := hid (HV.out.turn hg h1 (hd.drop b hbl) HL.out HS.out)
    have HO := hid (Only.of_grown (fp := [m]) hg (by simp))
    clear hM hd hg h1
    obtain ⟨x, hx⟩ : ∃ x, x = bk F b := ⟨_, rfl⟩
    rw [← hx] at hr HV1 HS HL ⊢
    clear hx
    go_enter Tryz.func90, Tryz.ntmps90
    go_wp2
    (try simp only [Exit.inBlock, Exit.then]); refine bodyPost_ret (results_none rfl _ _ _) rfl ?_
    exact ⟨rfl, HV1.out, HO.out⟩
  · have hlen : M.length < 100000 := by have := hd.len hM.rise; have := HV.out.bl; omega
    obtain ⟨w1, hrun, h1, hg, _⟩ := hM.store hlen ⟨(b : Int), d⟩ ⟨by show (-9223372036854775808 : Int) ≤ (b : Int); omega, by show (b : Int) ≤ 9223372036854775807; omega⟩
    have HV1 := hid (HV.out.turn hg h1 (hd.put hM.rise b hbl d hne) HL.out HS.out)
    have HO := hid (Only.of_grown (fp := [m]) hg (by simp))
    have hne' := str_ne (fun e : d = bk F b => hne e.symm)
    clear hM hd hg h1 hlen hne
    obtain ⟨x, hx⟩ : ∃ x, x = bk F b := ⟨_, rfl⟩
    rw [← hx] at hr hne'
    clear hx
    simp only [valC] at hrun
    go_enter Tryz.func90, Tryz.ntmps90
    go_wp2
    go_end0
    exact ⟨rfl, HV1.out, HO.out⟩
/-- so many bytes 0 -/
def Zs (n : Nat) : ByteArray := st (List.replicate n 0)
set_option maxRecDepth 100000 in
theorem Zs_size (n : Nat) : (Zs n).size = n := by unfold Zs; rw [st_size, List.length_replicate]
set_option maxRecDepth 100000 in
theorem made_n (n : Nat) : madeCells (Value.int .u8 0).cells n = (bc (List.replicate n 0)).toArray := by
  unfold madeCells bc
  simp only [Value.cells]
  apply Array.ext
  · simp
  · intro i h1 h2
    simp [Nat.mod_one]
set_option maxRecDepth 100000 in
theorem mk_n (n : Nat) (hn : n ≤ 128) (w : World) : (Instr.makeSlice 125 (.int .i64 (n : Int)) (.int .i64 (n : Int))).run Tryz.prog w = .ok (.slice (some ⟨w.heap.size, 0, none⟩) n n) (w.alloc (.cells (bc (List.replicate n 0)).toArray 5)) := by
  obtain ⟨i0, hi, hz0, hz1, hz2⟩ := info_parts Tryz.info5
  have := run_makeSlice (P := Tryz.prog) w 125 5 i0 (.int .u8 0) Tryz.underlying125 hi hz0 .i64 .i64 n n (by omega) (by omega) (by rw [hz1]; simp; omega) (by rw [hz2]; simp; omega) (by omega)
  rw [hz1] at this
  have e : ((n : Nat) : Int).toNat * 1 = n := by simp
  rw [e, made_n] at this
  simpa using this
set_option maxRecDepth 100000 in
theorem zeros_any (n : Nat) (hn : n ≤ 128) (w : World) : Calls Tryz.prog 132 #[.int .i64 (n : Int)] w fun e w' => e = .returned (.string (Zs n)) ∧ Below w.heap.size w w' := by
  have hmk := mk_n n hn w
  have hcv := (CIs.made w (List.replicate n 0)).conv n n (by simp)
  have hB := below_alloc w (.cells (bc (List.replicate n 0)).toArray 5)
  obtain ⟨wm, hwm⟩ : ∃ wm, wm = w.alloc (.cells (bc (List.replicate n 0)).toArray 5) := ⟨_, rfl⟩
  rw [← hwm] at hmk hcv hB
  obtain ⟨u, hu⟩ : ∃ u, u = Zs n := ⟨_, rfl⟩
  rw [show st (List.replicate n 0) = u by rw [hu]; rfl] at hcv
  rw [← hu]
  clear hwm hu
  go_enter Tryz.func132, Tryz.ntmps132
  go_wp2
  go_ret
  exact ⟨rfl, hB⟩
end Go.Proofs.YtokjlgebkihimaaGreat
namespace Go.Proofs.YtokjlgebkihimaaGreat
open Go.RowKit Go.Maps

/-- what Inode answers -/
def nodeI (G : Geo) (B : List ByteArray) (i : Int) : Ino := if 0 ≤ i ∧ i < G.z then getI (bk B (G.t + i.toNat / 4)) ((i.toNat % 4 : Nat) : Int) else Ino.zero
def nodeE (G : Geo) (B : List ByteArray) (i : Int) : Int := if 0 ≤ i ∧ i < G.z then getE (bk B (G.t + i.toNat / 4)) ((i.toNat % 4 : Nat) : Int) else 6
set_option maxRecDepth 100000 in
theorem ret20 {a : Act} {w : World} {R : Nat} {m : Ino} {e : Int} {post : Ending → World → Prop} (hb : Box R w m) (h2 : a.tmps.getD 4 undef = .pointer (some ⟨R, 0, none⟩)) (h3 : a.tmps.getD 5 undef = .int .i64 e) (hd : a.defers = []) (hp : post (.returned (.tuple #[m.v, .int .i64 e])) w) : bodyPost Tryz.prog Tryz.f75 post .ret a w := by
  refine bodyPost_ret (v := .tuple #[m.v, .int .i64 e]) ?_ hd hp
  rw [results_cell_tmp (p := 4) (u := 5) (ty := 36) rfl, h2, h3]
  simp [asAddr, Result.andThen, load24 hb]
set_option maxRecDepth 100000 in
theorem mod4 (n : Nat) : (n : Int) % 4 = ((n % 4 : Nat) : Int) := by omega
set_option maxRecDepth 100000 in
set_option maxHeartbeats 1000000 in
theorem node_any {G : Geo} {p q cap m : Nat} {w : World} {F B : List ByteArray} (i : Int) (h : VI G p q cap m w F B) : Calls Tryz.prog 75 #[.pointer (some ⟨p, 0, none⟩), .int .i64 i] w fun e w' => e = .returned (.tuple #[(nodeI G B i).v, .int .i64 (nodeE G B i)]) ∧ Below w.heap.size w w' := by
  have HB0 : Hid (Box w.heap.size (w.alloc (.cells #[.int .i64 0, .int .i64 0, .int .i64 0, .int .i64 0, .int .i64 0, .int .i64 0, .int .i64 0, .int .i64 0, .int .i64 0, .int .i64 0, .int .i64 0] 36)) Ino.zero) := box_at _ _
  have HV := hid (h.below (below_alloc w (.cells #[.int .i64 0, .int .i64 0, .int .i64 0, .int .i64 0, .int .i64 0, .int .i64 0, .int .i64 0, .int .i64 0, .int .i64 0, .int .i64 0, .int .i64 0] 36)))
  have HO := hid h.ok
  clear h
  have HN := hid (vnone_any HV.out)
  have HI := hid (hasInode_any i HV.out)
  by_cases hi : 0 ≤ i ∧ i < G.z
  · have e1 : nodeI G B i = getI (bk B (G.t + i.toNat / 4)) ((i.toNat % 4 : Nat) : Int) := by unfold nodeI; rw [if_pos hi]
    have e2 : nodeE G B i = getE (bk B (G.t + i.toNat / 4)) ((i.toNat % 4 : Nat) : Int) := by unfold nodeE; rw [if_pos hi]
    rw [e1, e2]
    rw [show decide (0 ≤ i ∧ i < G.z) = true by simp [hi]] at HI
    obtain ⟨n, rfl⟩ : ∃ n : Nat, i = n := ⟨i.toNat, by omega⟩
    simp only [Int.toNat_natCast]
    have HT := hid (tableBlock_any n (by omega) HV.out)
    obtain ⟨b, hb⟩ : ∃ b, b = G.t + n / 4 := ⟨_, rfl⟩
    have hbn : b < G.n := by have := HO.out.tz; have := HO.out.sum; have := HO.out.c4; omega
    rw [← hb] at HT ⊢
    have HK := hid (block_any b hbn HV.out)
    have HG := hid (get_any (bk B b) ((n % 4 : Nat) : Int))
    rw [← mod4] at HG ⊢
    clear hb hbn e1 e2 HO hi
    obtain ⟨k, hk⟩ : ∃ k, k = bk B b := ⟨_, rfl⟩
    rw [← hk] at HK HG ⊢
    obtain ⟨mm, hm⟩ : ∃ mm, mm = getI k ((n : Int) % 4) := ⟨_, rfl⟩
    obtain ⟨x, hx⟩ : ∃ x, x = getE k ((n : Int) % 4) := ⟨_, rfl⟩
    rw [← hm, ← hx] at HG ⊢
    clear hk hm hx
    go_enter Tryz.func75, Tryz.ntmps75
    go_wp2_with (first
      | (go_at_call 55; refine HN.out.mono ?_; rintro e w1 ⟨rfl, hw⟩; have hw := hw.symm; subst hw)
      | (go_at_call 60; refine HI.out.mono ?_; rintro e w1 ⟨rfl, hw⟩; have hw := hw.symm; subst hw)
      | (go_at_call 87; refine HT.out.mono ?_; rintro e w1 ⟨rfl, hw⟩; have hw := hw.symm; subst hw)
      | (go_at_call 89; refine HK.out.mono ?_; rintro e w2 ⟨rfl, hb2⟩; replace HB0 := hid (HB0.out.below hb2); have HW : Hid (Below w.heap.size w w2) := hid ((below_alloc w _).next hb2); clear hb2)
      | (go_at_call 102; refine (HG.out _).mono ?_; rintro e w3 ⟨rfl, hb3⟩; replace HB0 := hid (HB0.out.below hb3); replace HW := hid (HW.out.next hb3); clear hb3)
      | ((with_reducible refine at_store24 w.heap.size Ino.zero mm ?_ ?_ HB0.out ?_); rfl; rfl; intro w4 hB4 hk4))
    exact ret20 hB4 rfl rfl rfl ⟨rfl, HW.out.trans (hk4.below HW.out.size (Nat.le_refl _))⟩
  · have e1 : nodeI G B i = Ino.zero := by unfold nodeI; rw [if_neg hi]
    have e2 : nodeE G B i = 6 := by unfold nodeE; rw [if_neg hi]
    rw [e1, e2]
    rw [show decide (0 ≤ i ∧ i < G.z) = false by simp [hi]] at HI
    clear hi e1 e2 HO
    go_enter Tryz.func75, Tryz.ntmps75
    go_wp2_with (first
      | (go_at_call 55; refine HN.out.mono ?_; rintro e w1 ⟨rfl, hw⟩; have hw := hw.symm; subst hw)
      | (go_at_call 60; refine HI.out.mono ?_; rintro e w1 ⟨rfl, hw⟩; have hw := hw.symm; subst hw)
      | ((with_reducible refine at_store24 w.heap.size Ino.zero Ino.zero ?_ ?_ HB0.out ?_); rfl; rfl; intro w4 hB4 hk4))
    exact ret20 hB4 rfl rfl rfl ⟨rfl, (below_alloc w _).trans (hk4.below (below_alloc w _).size (Nat.le_refl _))⟩
end Go.Proofs.YtokjlgebkihimaaGreat
