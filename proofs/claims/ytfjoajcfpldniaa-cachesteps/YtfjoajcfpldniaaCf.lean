import Derived.Test.YtfjoajcfpldniaaCe
namespace Go.Proofs.Ytfjoajcfpldniaa
open Go.RowKit Go.Maps Go.Sort Go.Shelf

/-- a cache in memory: its frames in the order of their last use; J: more than anything has been counted -/
structure CS (B g m : Nat) (w : World) (N J : Nat) (L : List Fr) (U : Nat) : Prop where
  c : w.heap[g]? = some (.cells #[.int .i64 (N : Int), .map (some m), .int .i64 (U : Int)] 57 (0, 0))
  mp : MIs m w J (L.map ent)
  fr : ∀ f ∈ L, FIs w f
  us : L.Pairwise (fun x y => x.u < y.u)
  ub : ∀ f ∈ L, f.u ≤ U
  rt : ∀ f ∈ L, (0 ≤ f.b ∧ f.b < 1024) ∧ f.d.size = 128 ∧ 0 ≤ f.p ∧ f.p ≤ J
  len : L.length ≤ N
  n1 : 1 ≤ N ∧ N ≤ 64
  uj : U ≤ J
  j1 : J ≤ 90000
  b1 : B ≤ g
  b2 : B ≤ m
  b3 : ∀ f ∈ L, B ≤ f.a
section
variable {B g m : Nat} {w w' : World} {N J : Nat} {L : List Fr} {U : Nat}
theorem CS.glt (h : CS B g m w N J L U) : g < w.heap.size := lt_of_block h.c
theorem CS.cells (h : CS B g m w N J L U) : w.cell? ⟨g, 0, none⟩ = some (.int .i64 (N : Int)) ∧ w.cell? ⟨g, 1, none⟩ = some (.map (some m)) ∧ w.cell? ⟨g, 2, none⟩ = some (.int .i64 (U : Int)) := by
  have := h.c
  refine ⟨?_, ?_, ?_⟩ <;> simp [World.cell?, this]
theorem CS.gm (h : CS B g m w N J L U) : g ≠ m := by
  rintro rfl
  obtain ⟨es, cl, k⟩ := h.mp.isMap
  rw [h.c] at k
  cases k
theorem CS.am (h : CS B g m w N J L U) {f : Fr} (hf : f ∈ L) : f.a ≠ m := by
  rintro e
  obtain ⟨es, cl, k⟩ := h.mp.isMap
  have := h.fr f hf
  unfold FIs at this
  rw [e, k] at this
  cases this
theorem CS.ag (h : CS B g m w N J L U) {f : Fr} (hf : f ∈ L) : f.a ≠ g := by
  rintro e
  have := h.fr f hf
  unfold FIs at this
  rw [e, h.c] at this
  simp at this
theorem pw_eq {L : List Fr} (h : L.Pairwise (fun x y => x.u < y.u)) {x y : Fr} (hx : x ∈ L) (hy : y ∈ L) (e : x.u = y.u) : x = y := by
  induction L with
  | nil => cases hx
  | cons z L ih =>
    rw [List.pairwise_cons] at h
    rcases List.mem_cons.1 hx with e1 | hx1
    · rcases List.mem_cons.1 hy with e2 | hy1
      · rw [e1, e2]
      · have := h.1 y hy1; rw [e1] at e; omega
    · rcases List.mem_cons.1 hy with e2 | hy1
      · have := h.1 x hx1; rw [e2] at e; omega
      · exact ih h.2 hx1 hy1
theorem CS.aa (h : CS B g m w N J L U) {x y : Fr} (hx : x ∈ L) (hy : y ∈ L) (e : x.a = y.a) : x = y := by
  have h1 := h.fr x hx
  have h2 := h.fr y hy
  unfold FIs at h1 h2
  rw [e, h2] at h1
  refine pw_eq h.us hx hy ?_
  simp only [Option.some.injEq, Obj.cells.injEq, Array.mk.injEq, List.cons.injEq, Value.int.injEq, true_and, and_true] at h1
  exact h1.2.2.1.symm
theorem CS.bnd (h : CS B g m w N J L U) : (L.map (·.b)).Nodup := by
  have := h.mp.nd
  rw [List.map_map] at this
  exact this
theorem CS.same (h : CS B g m w N J L U) (k1 : w'.heap[g]? = w.heap[g]?) (k2 : w'.heap[m]? = w.heap[m]?) (k3 : ∀ f ∈ L, w'.heap[f.a]? = w.heap[f.a]?) : CS B g m w' N J L U :=
  ⟨k1.trans h.c, h.mp.same k2, fun f hf => (h.fr f hf).same (k3 f hf), h.us, h.ub, h.rt, h.len, h.n1, h.uj, h.j1, h.b1, h.b2, h.b3⟩
theorem CS.below (h : CS B g m w N J L U) (k : Below w.heap.size w w') : CS B g m w' N J L U :=
  h.same (k.block g h.glt) (k.block m h.mp.lt) (fun f hf => k.block f.a (h.fr f hf).lt)
theorem CS.more {J' : Nat} (h : CS B g m w N J L U) (hj : J ≤ J') (hj2 : J' ≤ 90000) : CS B g m w N J' L U :=
  ⟨h.c, h.mp.mono hj, h.fr, h.us, h.ub, fun f hf => by have := h.rt f hf; exact ⟨this.1, this.2.1, this.2.2.1, by omega⟩, h.len, h.n1, Nat.le_trans h.uj hj, hj2, h.b1, h.b2, h.b3⟩
end
/-- a slice of frames' pointers, in memory of its own -/
def PV (w' : World) (v : Value) (B : Nat) (T : List Fr) : Prop :=
  (v = .slice none 0 0 ∧ T = []) ∨ ∃ gb cap, v = .slice (some ⟨gb, 0, none⟩) T.length cap ∧ B ≤ gb ∧ PRow w' gb cap T
set_option maxRecDepth 100000 in
set_option maxHeartbeats 2000000 in
theorem sortedFunc {by_ : Nat} {key : Fr → Int} (hby : By by_ key) {L T : List Fr} (hT : T.Perm L) (hTs : T.Pairwise (fun x y => key x < key y)) (hnd : (L.map (·.b)).Nodup) (hsz : L.length ≤ 1000) (n : Nat) (hn : 4 ≤ n) (g : Nat) (lb : Array Value) (eg : ∀ args w, (callFunc g args).run Try.prog w = .ok (.enter g args) w) (w : World) (hF : ∀ f ∈ L, FIs w f)
    (N : Nat) (hN : N ≤ 100000000) (hseq : SeqGives Fence.wide (n - 1 - 1 - 1) Try.prog g lb valE (fun ss => (ss.map (·.b)).Nodup ∧ ∀ x, x ∈ ss ↔ x ∈ L.map ent) N w) :
    CallsIn Fence.wide n Try.prog 43 #[.func (.func g) #[] lb, .func (.func by_) #[] #[]] w fun e w' => ∃ (v : Value), e = .returned v ∧ PV w' v w.heap.size T ∧ Below w.heap.size w w' := by
  refine callsIn_of_wp Try.func43 rfl trivial ?_ rfl
  simp only [Try.ntmps43, List.size_toArray, List.length_cons, List.length_nil, Nat.reduceAdd, Nat.reduceSub, Array.replicate_succ, Array.replicate_zero, List.push_toArray, List.append_toArray, List.nil_append, List.cons_append]
  have h1 : 1 ≤ n := by omega
  have hf50 : Fence.wide.fn 50 := trivial
  have hf51 : Fence.wide.fn 51 := trivial
  gi_wp2_with (gi_at_call 50; refine (collect (n - 1) (by omega) g lb eg _ N hN _ hseq).mono ?_; rintro e W ⟨v, ss, rfl, ⟨hS1, hS2⟩, hrow, hnil, hb⟩)
  have hnm : ((L.map ent).map (·.b)).Nodup := by rw [List.map_map]; exact hnd
  have hnod : ∀ {l : List Ent}, (l.map (·.b)).Nodup → l.Nodup := fun {l} h => List.Pairwise.of_map (·.b) (fun a b hab e => hab (by rw [e])) h
  have hperm : ss.Perm (L.map ent) := (List.perm_ext_iff_of_nodup (hnod hS1) (hnod hnm)).2 hS2
  obtain ⟨LS, hLS, rfl⟩ := perm_lift ent hperm L rfl
  rw [List.length_map, pp_ent] at hrow
  have hll := hLS.length_eq
  have hF2 : ∀ f ∈ L, FIs W f := fun f hf => (hF f hf).same (hb.block _ (hF f hf).lt)
  rcases hrow.2 with ⟨rfl, hz⟩ | ⟨gb, cap, cur, rfl, hbase, hgb, r1, r2, r3, r4⟩
  · have hLe : LS = [] := List.eq_nil_of_length_eq_zero hz
    subst hLe
    have hTe : T = [] := List.eq_nil_of_length_eq_zero (by rw [hT.length_eq, ← hll]; rfl)
    gi_wp2_with (gi_at_call 51; refine ((callsIn_wide (n := n - 1)).2 (AnyF.slices_SortFunc_none { Try.sl6 with } none 0 _ W)).mono ?_; rintro e w' ⟨rfl, rfl⟩)
    go_ret
    exact ⟨.slice none 0 0, rfl, .inl ⟨rfl, hTe⟩, hb⟩
  · rw [Nat.mul_one] at r3 r4
    have hR : PRow W gb cap LS := ⟨⟨cur, hgb, r3, r4⟩, r1, r2⟩
    have hne : ∀ f ∈ L, f.a ≠ gb := fun f hf e => by have := (hF f hf).lt; omega
    by_cases hpos : 0 < LS.length
    · have cS := sort_go hby hF2 hLS hR hne hpos (by omega)
      gi_wp2_with (gi_at_call 51; refine ((callsIn_wide (n := n - 1)).2 cS).mono ?_; rintro e w' ⟨rfl, T', hT', hTs', hR', hg'⟩)
      have hTT : T' = T := sorted_one (hT'.trans hT.symm) hTs' hTs
      subst hTT
      go_ret
      refine ⟨_, rfl, .inr ⟨gb, cap, ?_, hbase, hR'⟩, hb.grown hg' hb.size (fun j hj => by cases hj; exact hbase)⟩
      rw [hT'.length_eq]
      rfl
    · have hLe : LS = [] := List.eq_nil_of_length_eq_zero (by omega)
      subst hLe
      have hTe : T = [] := List.eq_nil_of_length_eq_zero (by rw [hT.length_eq, ← hll]; rfl)
      subst hTe
      have hl0 : L.length = 0 := by rw [← hll]; rfl
      have HL0 := hid hl0
      clear hl0
      gi_wp2_with (gi_at_call 51; refine ((callsIn_wide (n := n - 1)).2 (AnyF.slices_SortFunc_none { Try.sl6 with } _ cap _ W)).mono ?_; rintro e w' ⟨rfl, rfl⟩)
      go_ret
      refine ⟨_, rfl, .inr ⟨gb, cap, ?_, hbase, hR⟩, hb⟩
      show Value.slice _ _ _ = Value.slice _ _ _
      first | rfl | (rw [HL0.out]; rfl)
set_option maxRecDepth 100000 in
set_option maxHeartbeats 2000000 in
theorem sorted_go {by_ : Nat} {key : Fr → Int} (hby : By by_ key) {B g m N J U : Nat} {L T : List Fr} (hT : T.Perm L) (hTs : T.Pairwise (fun x y => key x < key y)) (w : World) (h : CS B g m w N J L U) :
    Calls Try.prog 31 #[.pointer (some ⟨g, 0, none⟩), .func (.func by_) #[] #[]] w fun e w' => ∃ v, e = .returned v ∧ PV w' v w.heap.size T ∧ Below w.heap.size w w' := by
  obtain ⟨c0, c1, c2⟩ := h.cells
  have hgl := h.glt
  have hb := below_alloc w (.cells #[.map (some m)] 55)
  have hseq : SeqGives Fence.wide _ Try.prog 52 #[.pointer (some ⟨w.heap.size, 0, none⟩)] valE _ J (w.alloc (.cells #[.map (some m)] 55)) :=
    values_gives Fence.wide 3 trivial rfl (by decide) w.heap.size m J (L.map ent) _ (by simp) ((cell_of (box_at w _) 0).trans rfl) (h.mp.same (Below.heap_alloc _ _ _ h.mp.lt))
  have hsz : L.length ≤ 1000 := by have := h.len; have := h.n1; omega
  have HS := hid (callsIn_wide.1 (sortedFunc hby hT hTs h.bnd hsz 6 (by decide) 52 _ (enters_of Try.func52 (by kernel_rfl) rfl) _ (h.below hb).fr J (by have := h.j1; omega) hseq))
  have HB := hid hb
  clear hseq hb
  go_enter Try.func31, Try.ntmps31
  go_wp2_with (first
    | (go_at_call 44; refine (valuesCall _ _).mono ?_; rintro e w7 ⟨rfl, rfl⟩)
    | (go_at_call 43; refine (HS.out).mono ?_; rintro e w8 ⟨v8, rfl, hv8, hb8⟩))
  go_ret
  refine ⟨v8, rfl, ?_, HB.out.next hb8⟩
  rcases hv8 with h | ⟨gb, cap, e, h1, h2⟩
  · exact .inl h
  · exact .inr ⟨gb, cap, e, by simp at h1; omega, h2⟩
theorem sorted_nil (fv : Value) (w : World) : Calls Try.prog 31 #[.pointer none, fv] w fun e w' => e = .returned (.slice none 0 0) ∧ w' = w := by
  go_enter Try.func31, Try.ntmps31
  go_wp2
  go_ret
  exact ⟨rfl, rfl⟩
end Go.Proofs.Ytfjoajcfpldniaa
