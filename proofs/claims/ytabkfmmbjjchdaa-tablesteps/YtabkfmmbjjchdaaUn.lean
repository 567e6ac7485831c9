import Derived.Test.YtabkfmmbjjchdaaUm
import Derived.Test.YtabkfmmbjjchdaaTj
namespace Go.Proofs.Ytabkfmmbjjchdaa
open Go.RowKit Go.Maps Go.WideShapes Go.ChangeShapes Go.ChangeAt Go.Joins Go.Deep

/-- both tables, apart -/
structure PT (W : World) (g r : Nat) (mb : Option Nat) (w : World) (N : Nat) (L R : List Kx) : Prop where
  ta : TB g mb w N L
  tr : RT W r w R
  nn : ∀ x ∈ L, Nine w x.nv
  hg : W.heap.size ≤ g
  hm : ∀ b, mb = some b → W.heap.size ≤ b
theorem PT.below {W : World} {g r : Nat} {mb : Option Nat} {w w' : World} {N : Nat} {L R : List Kx} (h : PT W g r mb w N L R) (k : Below w.heap.size w w') : PT W g r mb w' N L R :=
  ⟨h.ta.below k, h.tr.below k, fun x hx => (h.nn x hx).below k, h.hg, h.hm⟩
theorem PT.stepL {W : World} {g r : Nat} {mb mb1 : Option Nat} {w w' : World} {N N1 : Nat} {L L1 R : List Kx} (h : PT W g r mb w N L R) (t : TB g mb1 w' N1 L1) (k : KQ g mb w w') (hm : Mb w mb mb1) (hn : ∀ x ∈ L1, Nine w' x.nv) : PT W g r mb1 w' N1 L1 R :=
  ⟨t, h.tr.kq h.ta k h.hg h.hm, hn, h.hg, fun b hb => by
    rcases hm with e | ⟨_, b', e, hb'⟩
    · exact h.hm b (e ▸ hb)
    · rw [e] at hb; cases hb; have := h.tr.bel.size; omega⟩
theorem PT.stepR {W : World} {g r : Nat} {mb : Option Nat} {w w' : World} {N : Nat} {L R R1 : List Kx} (h : PT W g r mb w N L R) (t : RT W r w' R1) (k : RFr W r w w') : PT W g r mb w' N L R1 := by
  obtain ⟨v, hr, _⟩ := h.tr.mem
  exact ⟨h.ta.rfr h.nn k hr, t, fun x hx => (h.nn x hx).rfr k hr, h.hg, h.hm⟩
theorem nine_nil (w : World) : Nine w (.slice none 0 0) := fun gb h => by cases h
theorem begL_nine {g N : Nat} {mb : Option Nat} {w w' : World} {L : List Kx} (t : TB g mb w N L) (k : KQ g mb w w') (hn : ∀ x ∈ L, Nine w x.nv) (c q : Int) : ∀ x ∈ begL L c q, Nine w' x.nv := fun x hx => by
  unfold begL at hx
  split at hx
  · rcases (withL_mem t.rise _ x).1 hx with rfl | ⟨h1, _⟩
    · exact nine_nil w'
    · exact (hn x h1).kq t k
  · exact (hn x hx).kq t k
theorem donL_nine {g N : Nat} {mb : Option Nat} {w w' : World} {L : List Kx} (t : TB g mb w N L) (k : KQ g mb w w') (hn : ∀ x ∈ L, Nine w x.nv) (c q : Int) (X : Rs) (h : Nine w' X.nv ∨ donL L c q X = L) : ∀ x ∈ donL L c q X, Nine w' x.nv := fun x hx => by
  rcases h with h | h
  · unfold donL at hx
    split at hx
    · rcases (withL_mem t.rise _ x).1 hx with rfl | ⟨h1, _⟩
      · exact h
      · exact (hn x h1).kq t k
    · exact (hn x hx).kq t k
  · rw [h] at hx
    exact (hn x hx).kq t k
/-- how many are known, and that each request is one -/
def Few (L : List Kx) : Prop := L.length ≤ 256 ∧ ∀ x ∈ L, 1 ≤ x.n
theorem begL_few {L : List Kx} (hr : Rise L) (h : Few L) (c q : Int) : Few (begL L c q) := by
  unfold begL
  split
  · rename_i e
    have ho : okc c q = true := by
      unfold begE at e
      split at e
      · assumption
      · omega
    have hroom : room L c = true := by
      unfold begE at e
      rw [if_pos ho] at e
      split at e
      · split at e
        · assumption
        · omega
      · omega
    refine ⟨?_, fun x hx => ?_⟩
    · rw [withL_len hr, at_any]
      show (if (lookL L c).isSome = true then L.length else L.length + 1) ≤ 256
      unfold room at hroom
      have := h.1
      split
      · omega
      · rename_i e2
        simp [e2] at hroom
        omega
    · rcases (withL_mem hr _ x).1 hx with rfl | ⟨h1, _⟩
      · have := (okc_iff c q).1 ho
        show 1 ≤ q
        omega
      · exact h.2 x h1
  · exact h
theorem donL_few {L : List Kx} (hr : Rise L) (h : Few L) (c q : Int) (X : Rs) : Few (donL L c q X) := by
  unfold donL
  split
  · rename_i e
    have ho : okc c q = true := by
      unfold donE at e
      split at e
      · assumption
      · omega
    have h1 := (okc_iff c q).1 ho
    have hst : stt (at_ L c).n (at_ L c).d q = 2 := by
      unfold donE at e
      rw [if_pos ho] at e
      split at e
      · assumption
      · split at e <;> omega
    have hl : (lookL L c).isSome = true := by
      cases hl : lookL L c with
      | some y => rfl
      | none =>
        unfold at_ at hst
        rw [hl] at hst
        have : stt 0 false q = 1 := by unfold stt; rw [if_pos (by omega)]
        have h2 : stt 0 false q = 2 := hst
        omega
    refine ⟨?_, fun x hx => ?_⟩
    · rw [withL_len hr, at_any]
      show (if (lookL L c).isSome = true then L.length else L.length + 1) ≤ 256
      rw [if_pos hl]
      exact h.1
    · rcases (withL_mem hr _ x).1 hx with rfl | ⟨h1', _⟩
      · show 1 ≤ q
        omega
      · exact h.2 x h1'
  · exact h
theorem few_known {L : List Kx} (h : Few L) (c : Int) : decide (1 ≤ (at_ L c).n) = (lookL L c).isSome := by
  unfold at_
  cases hl : lookL L c with
  | none => rfl
  | some y =>
    have := h.2 y (at_some hl).1
    exact decide_eq_true this
theorem twin.keys : ∀ {L R : List Kx} (_ : twin L R), L.map (·.k) = R.map (·.k)
  | [], [], _ => rfl
  | x :: l, y :: m, h => by rw [List.map_cons, List.map_cons, h.1.1, twin.keys h.2]
  | [], _ :: _, h => h.elim
  | _ :: _, [], h => h.elim
theorem twin.askR {L R : List Kx} (h : twin L R) (c q : Int) : (askR (at_ L c) c q).e = (askR (at_ R c) c q).e ∧ (askR (at_ L c) c q).t = (askR (at_ R c) c q).t ∧ (askR (at_ L c) c q).a = (askR (at_ R c) c q).a ∧ (askR (at_ L c) c q).b = (askR (at_ R c) c q).b ∧ (askR (at_ L c) c q).c = (askR (at_ R c) c q).c ∧ (askR (at_ L c) c q).ns = (askR (at_ R c) c q).ns :=
  (ask_same (h.look c).2 c q).2
theorem RT.askLie {W : World} {r : Nat} {w : World} {R : List Kx} (h : RT W r w R) (c q : Int) : SLie w (Ytabkfmmbjjchdaa.askR (at_ R c) c q).nv (Ytabkfmmbjjchdaa.askR (at_ R c) c q).ns := by
  unfold Ytabkfmmbjjchdaa.askR
  split
  · unfold at_
    cases hl : lookL R c with
    | none => exact SLie.nil w
    | some y => exact h.names (at_some hl).1
  · exact SLie.nil w
/-- what is found among the first ones -/
theorem look_take {R : List Kx} (hr : Rise R) (c : Int) {j : Nat} (hj : j < R.length) : lookL (R.take (j + 1)) c = if R[j].k = c then some R[j] else lookL (R.take j) c := by
  have e : R.take (j + 1) = R.take j ++ [R[j]] := by rw [List.take_add_one, List.getElem?_eq_getElem hj]; rfl
  rw [e]
  unfold lookL
  rw [List.find?_append]
  by_cases hk : R[j].k = c
  · rw [if_pos hk]
    have hn : (R.take j).find? (fun x => x.k == c) = none := by
      rw [List.find?_eq_none]
      intro x hx hxc
      have hxc : x.k = c := by simpa using hxc
      obtain ⟨i, hi, rfl⟩ := List.getElem_of_mem hx
      have hij : i < j := by rw [List.length_take] at hi; omega
      rw [List.getElem_take] at hxc
      have := List.pairwise_iff_getElem.1 hr i j (by omega) hj hij
      omega
    rw [hn]
    simp [hk]
  · rw [if_neg hk]
    cases hf : (R.take j).find? (fun x => x.k == c) with
    | some y => simp
    | none => simp [hk]
theorem look_take_at {R : List Kx} (hr : Rise R) (c : Int) {j : Nat} (hj : j < R.length) (hk : R[j].k = c) : (at_ (R.take (j + 1)) c).n = R[j].n ∧ (lookL (R.take (j + 1)) c).isSome = true := by
  unfold at_
  rw [look_take hr c hj, if_pos hk]
  exact ⟨rfl, rfl⟩
theorem look_take_not {R : List Kx} (hr : Rise R) (c : Int) {j : Nat} (hj : j < R.length) (hk : ¬ R[j].k = c) : (at_ (R.take (j + 1)) c).n = (at_ (R.take j) c).n ∧ (lookL (R.take (j + 1)) c).isSome = (lookL (R.take j) c).isSome := by
  unfold at_
  rw [look_take hr c hj, if_neg hk]
  exact ⟨rfl, rfl⟩
/-- both tables and what a round keeps: the step's block -/
def SX (W : World) (g r : Nat) (mb : Option Nat) (w : World) (N : Nat) (L R : List Kx) (sb : Nat) (S : Array Value) : Prop := PT W g r mb w N L R ∧ w.heap[sb]? = some (.cells S 34 (0, 0))
theorem SX.below {W : World} {g r : Nat} {mb : Option Nat} {w w' : World} {N : Nat} {L R : List Kx} {sb : Nat} {S : Array Value} (h : SX W g r mb w N L R sb S) (k : Below w.heap.size w w') : SX W g r mb w' N L R sb S :=
  ⟨h.1.below k, (k.block sb (lt_of_block h.2)).trans h.2⟩
theorem SX.keepL {W : World} {g r : Nat} {mb : Option Nat} {w w' : World} {N : Nat} {L R : List Kx} {sb : Nat} {S : Array Value} (h : SX W g r mb w N L R sb S) (k : KQ g mb w w') : w'.heap[sb]? = some (.cells S 34 (0, 0)) := by
  have := h.1.ta.cells h.2 (by decide)
  exact (k.block sb (lt_of_block h.2) this.1 this.2).trans h.2
theorem SX.keepR {W : World} {g r : Nat} {mb : Option Nat} {w w' : World} {N : Nat} {L R : List Kx} {sb : Nat} {S : Array Value} (h : SX W g r mb w N L R sb S) (k : RFr W r w w') : w'.heap[sb]? = some (.cells S 34 (0, 0)) := by
  obtain ⟨v, hr, _⟩ := h.1.tr.mem
  exact (k.nine hr h.2 (by decide) (by decide)).trans h.2
theorem c8 {W : World} {g r : Nat} {mb : Option Nat} {w : World} {N : Nat} {L R : List Kx} {sb : Nat} {S : Array Value} (h : SX W g r mb w N L R sb S) (hN : N < 1000000000000000) (hf : Few L) (c q : Int) : Calls Try.prog 8 #[.pointer (some ⟨g, 0, none⟩), .int .i64 c, .int .i64 q] w fun e w' => e = .returned (.int .i64 (begE L c q)) ∧ ∃ mb1, SX W g r mb1 w' (N + 1) (begL L c q) R sb S :=
  (begin_any h.1.ta hN (by have := hf.1; omega) c q).mono fun _ _ ⟨he, mb1, t, hm, k⟩ => ⟨he, mb1, h.1.stepL t k hm (begL_nine h.1.ta k h.1.nn c q), h.keepL k⟩
theorem c9 {W : World} {g r : Nat} {mb : Option Nat} {w : World} {N : Nat} {L R : List Kx} {sb : Nat} {S : Array Value} (h : SX W g r mb w N L R sb S) (hl : R.length ≤ 1000) (c q : Int) : Calls Try.prog 9 #[.pointer (some ⟨r, 0, none⟩), .int .i64 c, .int .i64 q] w fun e w' => e = .returned (.int .i64 (begE R c q)) ∧ SX W g r mb w' N L (begL R c q) sb S :=
  (rbegin_any h.1.tr hl c q).mono fun _ _ ⟨he, t, k⟩ => ⟨he, h.1.stepR t k, h.keepR k⟩
theorem c10 {W : World} {g r : Nat} {mb : Option Nat} {w : World} {N : Nat} {L R : List Kx} {sb : Nat} {S : Array Value} (h : SX W g r mb w N L R sb S) (hN : N < 1000000000000000) (c q : Int) (X : Rs) (hX : SLie W X.nv X.ns) : Calls Try.prog 10 #[.pointer (some ⟨g, 0, none⟩), .int .i64 c, .int .i64 q, X.v] w fun e w' => e = .returned (.int .i64 (donE L c q)) ∧ ∃ v', SX W g r mb w' (N + 1) (donL L c q { X with nv := v' }) R sb S :=
  (done_anyN h.1.ta hN c q X (hX.below h.1.tr.bel)).mono fun _ _ ⟨he, v', t, k, hn⟩ => ⟨he, v', h.1.stepL t k (.inl rfl) (donL_nine h.1.ta k h.1.nn c q { X with nv := v' } hn), h.keepL k⟩
theorem c11 {W : World} {g r : Nat} {mb : Option Nat} {w : World} {N : Nat} {L R : List Kx} {sb : Nat} {S : Array Value} (h : SX W g r mb w N L R sb S) (c q : Int) (X : Rs) (hX : SLie W X.nv X.ns) : Calls Try.prog 11 #[.pointer (some ⟨r, 0, none⟩), .int .i64 c, .int .i64 q, X.v] w fun e w' => e = .returned (.int .i64 (donE R c q)) ∧ SX W g r mb w' N L (donL R c q X) sb S :=
  (rdone_any h.1.tr c q X hX).mono fun _ _ ⟨he, t, k⟩ => ⟨he, h.1.stepR t k, h.keepR k⟩
/-- what stands between the steps -/
def OS3 (W : World) (g r k : Nat) (w : World) : Prop := ∃ mb N L R, PT W g r mb w N L R ∧ twin L R ∧ Few L ∧ N ≤ k
theorem twin.few {L R : List Kx} (h : twin L R) (hf : Few L) : R.length ≤ 1000 := by have := h.length; have := hf.1; omega
set_option maxRecDepth 100000 in
theorem steps_len {H : Type} {enc : TypeId × Value → H} {W : World} {fuel : Nat} {ao : Option Addr} {len cap : Nat} {x : DataW H × List MemPlace}
    (h : DataW.trod enc Try.prog W 0 (fun _ => true) true fuel 22 [.slice ao len cap] = some x) (hw : ∀ n ∈ x.1.weights Try.prog 22, n ≤ 140737488351232) : len ≤ 140737488351232 := by
  rcases open_slice Try.underlying22 h with ⟨h0, hx⟩ | ⟨a, len', cap', m, n, D, Pl, hcs, hb, hl, hm, hmm, hx, hel⟩
  · simp at h0
    omega
  · simp at hcs
    obtain ⟨rfl, rfl, rfl⟩ := hcs
    have hb34 : Try.prog.bytesOf 34 = 96 := by kernel_rfl
    have := hw _ (by
      rw [hx]
      simp only [DataW.weights, Try.underlying22]
      exact List.mem_cons_self ..)
    rw [hb34] at this
    simp at this
    omega
end Go.Proofs.Ytabkfmmbjjchdaa
