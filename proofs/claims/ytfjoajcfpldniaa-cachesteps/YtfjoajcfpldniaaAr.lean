import Derived.Test.YtfjoajcfpldniaaLa
import Derived.Laws.StructEq
namespace Go.Proofs.Ytfjoajcfpldniaa
open Go.RowKit Go.Maps

theorem zc53 : Try.zeroCells53 = Array.replicate 1024 (.string ⟨#[]⟩) := by kernel_rfl
/-- an array of texts in memory -/
def SA (w : World) (ab : Nat) (X : List ByteArray) : Prop := ∃ cur, w.heap[ab]? = some (.cells cur 53 (0, 0)) ∧ cur.size = 1024 ∧ X.length = 1024 ∧ ∀ i (hi : i < X.length), cur[i]? = some (.string X[i])
theorem SA.new (w : World) : SA (w.alloc (.cells Try.zeroCells53 53)) w.heap.size (List.replicate 1024 ⟨#[]⟩) := by
  refine ⟨_, box_at _ _, by rw [zc53, Array.size_replicate], List.length_replicate, fun i hi => ?_⟩
  rw [List.length_replicate] at hi
  rw [zc53, Array.getElem?_replicate, if_pos hi, List.getElem_replicate]
theorem SA.lt {w : World} {ab : Nat} {X : List ByteArray} (h : SA w ab X) : ab < w.heap.size := by
  obtain ⟨cur, h1, _⟩ := h
  exact lt_of_block h1
theorem SA.len {w : World} {ab : Nat} {X : List ByteArray} (h : SA w ab X) : X.length = 1024 := by
  obtain ⟨cur, h1, h2, h3, _⟩ := h
  exact h3
theorem SA.same {w w' : World} {ab : Nat} {X : List ByteArray} (h : SA w ab X) (k : w'.heap[ab]? = w.heap[ab]?) : SA w' ab X := by
  obtain ⟨cur, h1, h2⟩ := h
  exact ⟨cur, k.trans h1, h2⟩
theorem SA.below {w w' : World} {ab : Nat} {X : List ByteArray} (h : SA w ab X) (k : Below w.heap.size w w') : SA w' ab X := h.same (k.block ab h.lt)
theorem SA.oc {w w' : World} {ab : Nat} {X : List ByteArray} (h : SA w ab X) (k : OC w w') : SA w' ab X := by
  have h0 := h
  obtain ⟨cur, h1, _⟩ := h
  exact h0.same (k.block ab _ _ h1 (by decide) (by decide))
theorem SA.other {w : World} {ab b o : Nat} {X : List ByteArray} (h : SA w ab X) (hne : ab ≠ b) (v : Value) : SA (w.setCell ⟨b, o, none⟩ v) ab X := h.same (Below.heap_setCell _ _ _ _ hne)
theorem SA.cell {w : World} {ab : Nat} {X : List ByteArray} (h : SA w ab X) (i : Nat) (hi : i < 1024) : ∃ s, w.cell? ⟨ab, i, none⟩ = some (.string s) ∧ X[i]? = some s := by
  obtain ⟨cur, h1, h2, h3, h4⟩ := h
  exact ⟨X[i], (cell_of h1 i).trans (h4 i (by omega)), List.getElem?_eq_getElem _⟩
theorem SA.free {w : World} {ab : Nat} {X : List ByteArray} (h : SA w ab X) (i : Nat) : w.frozen? ⟨ab, i, none⟩ = false := by
  obtain ⟨cur, h1, _⟩ := h
  exact frees h1 i
theorem SA.set {w : World} {ab : Nat} {X : List ByteArray} (h : SA w ab X) (k : Nat) (d : ByteArray) : SA (w.setCell ⟨ab, k, none⟩ (.string d)) ab (X.set k d) := by
  obtain ⟨cur, h1, h2, h3, h4⟩ := h
  refine ⟨_, cells_set h1 _, by simp [h2], by simp [h3], fun i hi => ?_⟩
  rw [List.length_set] at hi
  rw [Array.set!_eq_setIfInBounds, List.getElem_set]
  by_cases e : k = i
  · subst e
    rw [if_pos rfl, Array.getElem?_setIfInBounds_self_of_lt (by omega)]
  · rw [if_neg e, Array.getElem?_setIfInBounds_ne e]
    exact h4 i hi
theorem CC.other {B g : Nat} {w : World} {N J : Nat} {P : List Fm} (h : CC B g w N J P) {x o : Nat} {cs : Array Value} {t : TypeId} (hx : w.heap[x]? = some (.cells cs t (0, 0))) (h1 : t ≠ 57) (h2 : t ≠ 73) (v : Value) : CC B g (w.setCell ⟨x, o, none⟩ v) N J P := by
  obtain ⟨m, L, U, hC, e⟩ := h
  have hn := hC.apart hx h1 h2
  have ne : ∀ y ∈ fpC g m L, y ≠ x := fun y hy e => hn (by rw [← e]; exact hy)
  refine ⟨m, L, U, hC.same (Below.heap_setCell _ _ _ _ (ne g (by simp [fpC]))) (Below.heap_setCell _ _ _ _ (ne m (by simp [fpC]))) (fun f hf => Below.heap_setCell _ _ _ _ (ne f.a ?_)), e⟩
  unfold fpC
  exact List.mem_cons_of_mem _ (List.mem_cons_of_mem _ (List.mem_map_of_mem hf))
theorem CC.sa {B g : Nat} {w : World} {N J : Nat} {P : List Fm} (h : CC B g w N J P) {ab : Nat} {X : List ByteArray} (hs : SA w ab X) (o : Nat) (v : Value) : CC B g (w.setCell ⟨ab, o, none⟩ v) N J P := by
  obtain ⟨cur, h1, _⟩ := hs
  exact h.other h1 (by decide) (by decide) v
theorem CLie.sa {w : World} {v : Value} {l : List Chg} (h : CLie w v l) {ab : Nat} {X : List ByteArray} (hs : SA w ab X) (o : Nat) (x : Value) : CLie (w.setCell ⟨ab, o, none⟩ x) v l := by
  obtain ⟨cur0, h0, _⟩ := hs
  obtain ⟨ao, cap, e, h1, h2, h3⟩ := h
  refine ⟨ao, cap, e, h1, h2, fun i hi => ?_⟩
  obtain ⟨gb, off, cur, e, hg, c⟩ := h3 i hi
  refine ⟨gb, off, cur, e, (Below.heap_setCell _ _ _ _ ?_).trans hg, c⟩
  intro e
  simp only at e
  rw [e, h0] at hg
  simp at hg
/-- each one's content laid at its block -/
def setAll (Y : List ByteArray) (S : List Fm) : List ByteArray := S.foldl (fun Y f => Y.set f.b.toNat f.d) Y
theorem setAll_snoc (Y : List ByteArray) (S : List Fm) (f : Fm) : setAll Y (S ++ [f]) = (setAll Y S).set f.b.toNat f.d := by
  unfold setAll
  rw [List.foldl_append]
  rfl
theorem setAll_len : ∀ (S : List Fm) (Y : List ByteArray), (setAll Y S).length = Y.length
  | [], Y => rfl
  | f :: S, Y => by
    show (setAll (Y.set f.b.toNat f.d) S).length = Y.length
    rw [setAll_len S, List.length_set]
theorem setAll_out : ∀ (S : List Fm) (Y : List ByteArray) (k : Nat), (∀ f ∈ S, f.b.toNat ≠ k) → (setAll Y S)[k]? = Y[k]?
  | [], Y, k, _ => rfl
  | f :: S, Y, k, h => by
    show (setAll (Y.set f.b.toNat f.d) S)[k]? = Y[k]?
    rw [setAll_out S _ k (fun x hx => h x (by simp [hx])), List.getElem?_set_ne (h f (by simp))]
theorem setAll_in : ∀ (S : List Fm) (Y : List ByteArray) (f : Fm), f ∈ S → (∀ x ∈ S, 0 ≤ x.b ∧ x.b < Y.length) → (S.map (·.b)).Nodup → (setAll Y S)[f.b.toNat]? = some f.d
  | [], Y, f, h, _, _ => by cases h
  | x :: S, Y, f, h, hr, hn => by
    rw [List.map_cons, List.nodup_cons] at hn
    show (setAll (Y.set x.b.toNat x.d) S)[f.b.toNat]? = some f.d
    rcases List.mem_cons.1 h with rfl | h
    · rw [setAll_out S _ _ (fun y hy e => ?_), List.getElem?_set_self (by have := hr f (by simp); omega)]
      have h1 := hr y (by simp [hy])
      have h2 := hr f (by simp)
      have : y.b = f.b := by omega
      exact hn.1 (by rw [← this]; exact List.mem_map_of_mem hy)
    · exact setAll_in S _ f h (fun y hy => by rw [List.length_set]; exact hr y (by simp [hy])) hn.2
/-- what is stored is dirty still, or was taken -/
def TInv (P : List Fm) (X Y : List ByteArray) : Prop :=
  ∀ k : Nat, (∀ f ∈ P, f.b = (k : Int) → f.y = true → X[k]? = some f.d) ∧ ((∀ f ∈ P, f.b = (k : Int) → f.y = false) → X[k]? = Y[k]?)
theorem fm_b {P : List Fm} (hn : (P.map (·.b)).Nodup) {x y : Fm} (hx : x ∈ P) (hy : y ∈ P) (e : x.b = y.b) : x = y := by
  induction P with
  | nil => cases hx
  | cons z P ih =>
    rw [List.map_cons, List.nodup_cons] at hn
    rcases List.mem_cons.1 hx with e1 | hx1
    · rcases List.mem_cons.1 hy with e2 | hy1
      · rw [e1, e2]
      · exact absurd (by rw [← e1, e]; exact List.mem_map_of_mem hy1) hn.1
    · rcases List.mem_cons.1 hy with e2 | hy1
      · exact absurd (by rw [← e2, ← e]; exact List.mem_map_of_mem hx1) hn.1
      · exact ih hn.2 hx1 hy1
theorem mem_dropP {P : List Fm} {k : Int} {x : Fm} : x ∈ dropP P k ↔ x ∈ P ∧ x.b ≠ k := by
  unfold dropP
  rw [List.mem_filter]
  simp
theorem TInv.load {N : Nat} {P : List Fm} {X Y : List ByteArray} (h : TInv P X Y) (hn : (P.map (·.b)).Nodup) (k : Int) (d : ByteArray) : TInv (loadR N P k d).2.2 X Y := by
  have add : ∀ Q : List Fm, (∀ f ∈ Q, f ∈ P) → (∀ f ∈ P, f ∈ Q ∨ f.y = false) → TInv (Q ++ [⟨k, 0, false, d⟩]) X Y := by
    intro Q h1 h2 j
    refine ⟨fun f hf hb hy => ?_, fun hc => (h j).2 fun f hf hb => ?_⟩
    · rcases List.mem_append.1 hf with hf | hf
      · exact (h j).1 f (h1 f hf) hb hy
      · rw [List.mem_singleton] at hf
        subst hf
        cases hy
    · rcases h2 f hf with hq | hq
      · exact hc f (List.mem_append_left _ hq) hb
      · exact hq
  unfold loadR
  split
  · exact h
  · split
    · exact h
    · split
      · exact add P (fun _ h => h) (fun _ h => .inl h)
      · split
        · exact h
        · rename_i f hf
          have hm := List.mem_of_find?_eq_some hf
          have hi := List.find?_some hf
          refine add _ (fun x hx => (mem_dropP.1 hx).1) (fun x hx => ?_)
          by_cases e : x.b = f.b
          · right
            rw [fm_b hn hx hm e]
            unfold idleP at hi
            simp at hi
            exact hi.2
          · exact .inl (mem_dropP.2 ⟨hx, e⟩)
theorem TInv.store {P : List Fm} {X Y : List ByteArray} (h : TInv P X Y) (hX : X.length = 1024) {k : Int} {d : ByteArray} (hr : (storeR P k d).1 = 0) : TInv (storeR P k d).2 (X.set k.toNat d) Y ∧ 0 ≤ k ∧ k < 1024 := by
  unfold storeR at *
  split at hr
  · simp at hr
  · rename_i hb
    rw [if_neg hb]
    have hb' : isB k d = true := by simpa using hb
    obtain ⟨hk0, hk1, _⟩ := of_decide_eq_true hb'
    refine ⟨?_, hk0, hk1⟩
    cases hf : findP P k with
    | none => rw [hf] at hr; cases hr
    | some f =>
      have hfb : f.b = k := by unfold findP at hf; simpa using List.find?_some hf
      intro j
      by_cases e : (j : Int) = k
      · refine ⟨fun x hx hxb hy => ?_, fun hc => ?_⟩
        · rw [show k.toNat = j by omega, List.getElem?_set_self (by omega)]
          rcases List.mem_append.1 hx with hx | hx
          · exact absurd (hxb.trans e) (mem_dropP.1 hx).2
          · rw [List.mem_singleton] at hx
            subst hx
            rfl
        · have := hc { f with d := d, y := true } (List.mem_append_right _ (List.mem_singleton.2 rfl)) (by show f.b = _; rw [hfb, e])
          cases this
      · have hne : k.toNat ≠ j := by omega
        refine ⟨fun x hx hxb hy => ?_, fun hc => ?_⟩
        · rw [List.getElem?_set_ne hne]
          rcases List.mem_append.1 hx with hx | hx
          · exact (h j).1 x (mem_dropP.1 hx).1 hxb hy
          · rw [List.mem_singleton] at hx
            subst hx
            exact absurd (by rw [← hxb]; exact hfb) e
        · rw [List.getElem?_set_ne hne]
          refine (h j).2 fun x hx hxb => hc x (List.mem_append_left _ (mem_dropP.2 ⟨hx, fun e' => e (by rw [← hxb, e'])⟩)) hxb
theorem store_same {P : List Fm} {k : Int} {d : ByteArray} (hr : (storeR P k d).1 ≠ 0) : (storeR P k d).2 = P := by
  unfold storeR at *
  split
  · rfl
  · rename_i hb
    rw [if_neg hb] at hr
    cases hf : findP P k with
    | none => rfl
    | some f => rw [hf] at hr; exact absurd rfl hr
theorem dirtyP_mem {P : List Fm} {f : Fm} : f ∈ dirtyP P ↔ f ∈ P ∧ f.y = true := by
  unfold dirtyP
  rw [List.mem_filter]
  exact ⟨fun ⟨h1, h2⟩ => ⟨(List.mergeSort_perm P _).mem_iff.1 h1, h2⟩, fun ⟨h1, h2⟩ => ⟨(List.mergeSort_perm P _).mem_iff.2 h1, h2⟩⟩
theorem dirtyP_nd {P : List Fm} (hn : (P.map (·.b)).Nodup) : ((dirtyP P).map (·.b)).Nodup := by
  have h1 : ((P.mergeSort (fun x y => decide (x.b ≤ y.b))).map (·.b)).Nodup := ((List.mergeSort_perm P _).map _).nodup_iff.2 hn
  unfold dirtyP
  exact (List.filter_sublist.map _).nodup h1
theorem TInv.take {P : List Fm} {X Y : List ByteArray} (h : TInv P X Y) (hr : ∀ f ∈ P, 0 ≤ f.b ∧ f.b < 1024) (hY : Y.length = 1024) {S : List Fm} (hS : ∀ f ∈ S, f ∈ P ∧ f.y = true) (hSn : (S.map (·.b)).Nodup) : TInv (clearP P S) X (setAll Y S) := by
  intro j
  have mem : ∀ f ∈ clearP P S, ∃ x ∈ P, f.b = x.b ∧ ((f = x ∧ ∀ s ∈ S, s.b ≠ x.b) ∨ (f.y = false ∧ ∃ s ∈ S, s.b = x.b)) := by
    intro f hf
    unfold clearP at hf
    obtain ⟨x, hx, rfl⟩ := List.mem_map.1 hf
    by_cases e : S.any (fun s => s.b == x.b) = true
    · rw [if_pos e]
      obtain ⟨s, hs, hsb⟩ := List.any_eq_true.1 e
      exact ⟨x, hx, rfl, .inr ⟨rfl, s, hs, by simpa using hsb⟩⟩
    · rw [if_neg e]
      refine ⟨x, hx, rfl, .inl ⟨rfl, fun s hs hsb => e (List.any_eq_true.2 ⟨s, hs, by simp [hsb]⟩)⟩⟩
  refine ⟨fun f hf hb hy => ?_, fun hc => ?_⟩
  · obtain ⟨x, hx, _, ⟨rfl, _⟩ | ⟨hy', _⟩⟩ := mem f hf
    · exact (h j).1 f hx hb hy
    · rw [hy'] at hy; cases hy
  · by_cases hex : ∃ s ∈ S, s.b = (j : Int)
    · obtain ⟨s, hs, hsb⟩ := hex
      have h1 := (h j).1 s (hS s hs).1 hsb (hS s hs).2
      have h2 := setAll_in S Y s hs (fun x hx => by have := hr x (hS x hx).1; omega) hSn
      rw [show s.b.toNat = j by omega] at h2
      rw [h1, h2]
    · rw [setAll_out S Y j (fun f hf e => ?_)]
      · refine (h j).2 fun x hx hxb => ?_
        refine hc x ?_ hxb
        unfold clearP
        refine List.mem_map.2 ⟨x, hx, if_neg ?_⟩
        rw [List.any_eq_true]
        rintro ⟨s, hs, e⟩
        exact hex ⟨s, hs, by rw [← hxb]; simpa using e⟩
      · have := hr f (hS f hf).1
        exact hex ⟨f, hf, by omega⟩
theorem TInv.done {P : List Fm} {X Y : List ByteArray} (h : TInv P X Y) (hn : (P.map (·.b)).Nodup) (hr : ∀ f ∈ P, 0 ≤ f.b ∧ f.b < 1024) (hY : Y.length = 1024) : setAll Y (dirtyP P) = X := by
  have := h.take hr hY (S := dirtyP P) (fun f hf => dirtyP_mem.1 hf) (dirtyP_nd hn)
  apply List.ext_getElem?
  intro k
  refine ((this k).2 fun f hf _ => ?_).symm
  unfold clearP at hf
  obtain ⟨x, hx, rfl⟩ := List.mem_map.1 hf
  by_cases e : (dirtyP P).any (fun s => s.b == x.b) = true
  · rw [if_pos e]
  · rw [if_neg e]
    cases hy : x.y
    · rfl
    · exact absurd (List.any_eq_true.2 ⟨x, dirtyP_mem.2 ⟨hx, hy⟩, by simp⟩) e
theorem SA.eq {w : World} {a b : Nat} {X : List ByteArray} (h : SA w a X) (k : SA w b X) : ∃ cur, w.heap[a]? = some (.cells cur 53 (0, 0)) ∧ w.heap[b]? = some (.cells cur 53 (0, 0)) ∧ cur.size = 1024 ∧ ∀ i, i < 1024 → ∃ s, cur[i]? = some (.string s) := by
  obtain ⟨c1, h1, h2, h3, h4⟩ := h
  obtain ⟨c2, k1, k2, k3, k4⟩ := k
  have : c2 = c1 := by
    apply Array.ext_getElem?
    intro i
    by_cases hi : i < 1024
    · rw [h4 i (by omega), k4 i (by omega)]
    · rw [Array.getElem?_eq_none (by omega), Array.getElem?_eq_none (by omega)]
  subst this
  exact ⟨c2, h1, k1, h2, fun i hi => ⟨_, h4 i (by omega)⟩⟩
end Go.Proofs.Ytfjoajcfpldniaa
