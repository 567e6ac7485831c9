import Derived.Test.YtabkfmmbjjchdaaTd
namespace Go.Proofs.Ytabkfmmbjjchdaa
open Go.RowKit Go.Maps

/-- nothing but a table's own blocks has changed -/
structure KQ (g : Nat) (mb : Option Nat) (w w' : World) : Prop where
  os : w'.os = w.os
  tape : w'.tape = w.tape
  output : w'.output = w.output
  size : w.heap.size ≤ w'.heap.size
  block : ∀ j, j < w.heap.size → j ≠ g → some j ≠ mb → w'.heap[j]? = w.heap[j]?
theorem KQ.of {g : Nat} {mb : Option Nat} {w w' : World} (h : Below w.heap.size w w') : KQ g mb w w' := ⟨h.os, h.tape, h.output, h.size, fun j hj _ _ => h.block j hj⟩
theorem KQ.after {g : Nat} {mb : Option Nat} {a b c : World} (h : Below a.heap.size a b) (k : KQ g mb b c) : KQ g mb a c :=
  ⟨k.os.trans h.os, k.tape.trans h.tape, k.output.trans h.output, Nat.le_trans h.size k.size, fun j hj h1 h2 => (k.block j (Nat.lt_of_lt_of_le hj h.size) h1 h2).trans (h.block j hj)⟩
theorem SLie.str {w w' : World} {v : Value} {l : List ByteArray} (h : SLie w v l) (hs : w.heap.size ≤ w'.heap.size) (k : ∀ j o s, j < w.heap.size → w.cell? ⟨j, o, none⟩ = some (.string s) → w'.heap[j]? = w.heap[j]?) : SLie w' v l := by
  obtain ⟨ao, cap, e, h1, h2, hz, h3⟩ := h
  refine ⟨ao, cap, e, h1, h2, hz, fun i hi => ?_⟩
  obtain ⟨gb, off, e1, hg, c0⟩ := h3 i hi
  refine ⟨gb, off, e1, Nat.lt_of_lt_of_le hg hs, ?_⟩
  rw [← c0]
  unfold World.cell?
  rw [k gb _ _ hg c0]
theorem TB.str {g N : Nat} {mb : Option Nat} {w : World} {L : List Kx} (h : TB g mb w N L) {j o : Nat} {s : ByteArray} (hc : w.cell? ⟨j, o, none⟩ = some (.string s)) : j ≠ g ∧ some j ≠ mb := by
  refine ⟨fun e => ?_, fun e => ?_⟩
  · subst e
    rw [show w.cell? ⟨j, o, none⟩ = (#[Value.map mb] : Array Value)[o]? from by simp [World.cell?, h.box]] at hc
    cases o with
    | zero => simp at hc
    | succ o => simp at hc
  · obtain ⟨n, D, ⟨es, clock, h1, _⟩, _⟩ := h.map j e.symm
    simp [World.cell?, h1] at hc
theorem SLie.kq {g N : Nat} {mb : Option Nat} {w w' : World} {L : List Kx} {v : Value} {l : List ByteArray} (hn : SLie w v l) (h : TB g mb w N L) (k : KQ g mb w w') : SLie w' v l :=
  hn.str k.size fun j _ _ hj hc => k.block j hj (h.str hc).1 (h.str hc).2
theorem len_nil (w : World) (ty : TypeId) : (Builtin.len_ #[58] ty #[.map none]).run Try.prog w = .ok (.int .i64 0) w := by
  have u := run_underlying (P := Try.prog) Try.underlying58
  simp [Builtin.len_, u]
  rfl
theorem TB.len {g N : Nat} {mb : Option Nat} {w : World} {L : List Kx} (h : TB g mb w N L) (ty : TypeId) : (Builtin.len_ #[58] ty #[.map mb]).run Try.prog w = .ok (.int .i64 (L.length : Nat)) w := by
  cases mb with
  | none => rw [h.non rfl]; exact len_nil w ty
  | some b => exact (h.map b rfl).len ty
def room (L : List Kx) (c : Int) : Bool := (lookL L c).isSome || decide (L.length < 256)
set_option maxRecDepth 100000 in
theorem hasRoom_any {g N : Nat} {mb : Option Nat} {w : World} {L : List Kx} (h : TB g mb w N L) (c : Int) (hc : inI c) (hlen : L.length ≤ 1000000000000) : Calls Try.prog 23 #[.pointer (some ⟨g, 0, none⟩), .int .i64 c] w fun e w' => e = .returned (.bool (room L c)) ∧ Below w.heap.size w w' := by
  have hl := h.lookOk c hc
  have c0 : w.cell? ⟨g, 0, none⟩ = some (.map mb) := by simp [World.cell?, h.box]
  have hg := h.lt
  obtain ⟨ao, cap, hnv, _⟩ := h.names c
  unfold room
  obtain ⟨x, hx⟩ : ∃ x, x = at_ L c := ⟨_, rfl⟩
  rw [← hx] at hl hnv
  obtain ⟨k, n, d, e, t, a, b, cc, nv, ns⟩ := x
  simp only at hnv
  subst hnv
  simp only [Kx.v] at hl
  have hL := (h.below (below_alloc w (.cells #[.int .i64 n, .bool d, .int .i64 e, .string t, .int .i64 a, .int .i64 b, .int .i64 cc, .slice ao ns.length cap] 62))).len 3
  clear h hx
  obtain ⟨nl, hnl⟩ : ∃ nl, nl = ns.length := ⟨_, rfl⟩
  rw [← hnl] at hl hL
  clear hnl
  rcases hs : (lookL L c).isSome with _ | _
  · rw [hs] at hl
    rw [Bool.false_or]
    go_enter Try.func23, Try.ntmps23
    go_wp2
    go_ret
    exact ⟨by simp; omega, below_alloc _ _⟩
  · rw [hs] at hl
    rw [Bool.true_or]
    clear hL
    go_enter Try.func23, Try.ntmps23
    go_wp2
    go_ret
    exact ⟨rfl, below_alloc _ _⟩
set_option maxRecDepth 100000 in
theorem hasRoom_nil (c : Int) (w : World) : Calls Try.prog 23 #[.pointer none, .int .i64 c] w fun e w' => e = .returned (.bool false) ∧ Below w.heap.size w w' := by
  go_enter Try.func23, Try.ntmps23
  go_wp2
  go_ret
  exact ⟨rfl, Below.refl _ _⟩
/-- what Begin answers -/
def begE (L : List Kx) (c r : Int) : Int := if okc c r then (if stt (at_ L c).n (at_ L c).d r = 1 then (if room L c then 0 else 5) else 7) else 1
def begL (L : List Kx) (c r : Int) : List Kx := if begE L c r = 0 then withL L (mkK c r false rz) else L
set_option maxRecDepth 100000 in
set_option maxHeartbeats 1000000 in
/-- Begin, where nothing is stored -/
theorem begin_no {p : Value} {x : Kx} {rm : Bool} (c r : Int) (w : World) (HF : Hid (∀ W, Below w.heap.size w W → Calls Try.prog 21 #[p, .int .i64 c] W fun e w' => e = .returned x.v ∧ Below W.heap.size W w')) (HM : Hid (∀ W, Below w.heap.size w W → Calls Try.prog 23 #[p, .int .i64 c] W fun e w' => e = .returned (.bool rm) ∧ Below W.heap.size W w'))
    (h : ¬ (okc c r = true ∧ stt x.n x.d r = 1 ∧ rm = true)) : Calls Try.prog 8 #[p, .int .i64 c, .int .i64 r] w fun e w' => e = .returned (.int .i64 (if okc c r then (if stt x.n x.d r = 1 then 5 else 7) else 1)) ∧ Below w.heap.size w w' := by
  cases ho : okc c r with
  | false =>
    simp only [Bool.false_eq_true, if_false]
    clear h
    go_enter Try.func8, Try.ntmps8
    go_wp2_with (first
      | (go_at_call 20; refine (isRight_any _ _ _).mono ?_; rintro e w' ⟨rfl, he⟩; have he := he.symm; subst he; rw [ho]))
    go_ret
    exact ⟨rfl, Below.refl _ _⟩
  | true =>
    simp only [if_true]
    have HS := hid (fun W => state_any x r W)
    by_cases hs : stt x.n x.d r = 1
    · rw [if_pos hs]
      have hr : rm = false := by cases rm with | false => rfl | true => exact absurd ⟨ho, hs, rfl⟩ h
      rw [hs] at HS
      rw [hr] at HM
      clear h hs hr
      go_enter Try.func8, Try.ntmps8
      go_wp2_with (first
        | (go_at_call 20; refine (isRight_any _ _ _).mono ?_; rintro e w' ⟨rfl, he⟩; have he := he.symm; subst he; rw [ho])
        | (go_at_call 21; refine (HF.out _ (Below.refl _ _)).mono ?_; rintro e w1 ⟨rfl, hb1⟩; have HB1 := hid hb1; clear hb1)
        | (go_at_call 22; refine (HS.out _).mono ?_; rintro e w2 ⟨rfl, hb2⟩; have HB2 := hid (HB1.out.next hb2); clear hb2)
        | (go_at_call 23; refine (HM.out _ HB2.out).mono ?_; rintro e w3 ⟨rfl, hb3⟩))
      go_ret
      exact ⟨rfl, HB2.out.next hb3⟩
    · rw [if_neg hs]
      obtain ⟨s, hss⟩ : ∃ s, s = stt x.n x.d r := ⟨_, rfl⟩
      rw [← hss] at HS hs
      have hs' : (s != 1) = true := by simpa using hs
      clear h hss hs
      go_enter Try.func8, Try.ntmps8
      go_wp2_with (first
        | (go_at_call 20; refine (isRight_any _ _ _).mono ?_; rintro e w' ⟨rfl, he⟩; have he := he.symm; subst he; rw [ho])
        | (go_at_call 21; refine (HF.out _ (Below.refl _ _)).mono ?_; rintro e w1 ⟨rfl, hb1⟩; have HB1 := hid hb1; clear hb1)
        | (go_at_call 22; refine (HS.out _).mono ?_; rintro e w2 ⟨rfl, hb2⟩; have HB2 := hid (HB1.out.next hb2); clear hb2))
      go_ret
      exact ⟨rfl, HB2.out⟩
end Go.Proofs.Ytabkfmmbjjchdaa
