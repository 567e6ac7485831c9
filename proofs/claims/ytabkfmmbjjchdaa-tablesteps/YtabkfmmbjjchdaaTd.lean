import Derived.Test.YtabkfmmbjjchdaaTc
namespace Go.Proofs.Ytabkfmmbjjchdaa
open Go.RowKit Go.Maps

/-- a table in memory: in block g, its map in block mb; L: what is known, rising -/
structure TB (g : Nat) (mb : Option Nat) (w : World) (N : Nat) (L : List Kx) : Prop where
  box : w.heap[g]? = some (.cells #[.map mb] 60 (0, 0))
  non : mb = none → L = []
  map : ∀ b, mb = some b → MIs b w N L
  nv : ∀ x ∈ L, SLie w x.nv x.ns
theorem TB.lt {g N : Nat} {mb : Option Nat} {w : World} {L : List Kx} (h : TB g mb w N L) : g < w.heap.size := lt_of_block h.box
theorem TB.below {g N : Nat} {mb : Option Nat} {w w' : World} {L : List Kx} (h : TB g mb w N L) (k : Below w.heap.size w w') : TB g mb w' N L :=
  ⟨(k.block g h.lt).trans h.box, h.non, fun b hb => (h.map b hb).same (k.block b (h.map b hb).lt), fun x hx => (h.nv x hx).below k⟩
theorem TB.rise {g N : Nat} {mb : Option Nat} {w : World} {L : List Kx} (h : TB g mb w N L) : Rise L := by
  cases mb with
  | none => rw [h.non rfl]; exact List.Pairwise.nil
  | some b => exact (h.map b rfl).rise
theorem TB.look {g N : Nat} {mb : Option Nat} {w : World} {L : List Kx} (h : TB g mb w N L) (c : Int) (hc : inI c) : (Instr.lookup 58 (.map mb) (.int .i64 c) false).run Try.prog w = .ok (at_ L c).v w := by
  cases mb with
  | none => rw [h.non rfl]; exact nil_look w c hc
  | some b => exact (h.map b rfl).look c hc
theorem TB.lookOk {g N : Nat} {mb : Option Nat} {w : World} {L : List Kx} (h : TB g mb w N L) (c : Int) (hc : inI c) : (Instr.lookup 58 (.map mb) (.int .i64 c) true).run Try.prog w = .ok (.tuple #[(at_ L c).v, .bool (lookL L c).isSome]) w := by
  cases mb with
  | none => rw [h.non rfl]; exact nil_lookOk w c hc
  | some b => exact (h.map b rfl).lookOk c hc
theorem TB.names {g N : Nat} {mb : Option Nat} {w : World} {L : List Kx} (h : TB g mb w N L) (c : Int) : SLie w (at_ L c).nv (at_ L c).ns := by
  unfold at_
  cases hl : lookL L c with
  | none => exact SLie.nil w
  | some y => exact h.nv y (at_some hl).1
set_option maxRecDepth 100000 in
theorem find_any {g N : Nat} {mb : Option Nat} {w : World} {L : List Kx} (h : TB g mb w N L) (c : Int) (hc : inI c) : Calls Try.prog 21 #[.pointer (some ⟨g, 0, none⟩), .int .i64 c] w fun e w' => e = .returned (at_ L c).v ∧ Below w.heap.size w w' := by
  have HB0 := hid (z62 w)
  have h0 := h.below (below_alloc w (.cells #[.int .i64 0, .bool false, .int .i64 0, .string ⟨#[]⟩, .int .i64 0, .int .i64 0, .int .i64 0, .slice none 0 0] 62))
  have hl := h0.look c hc
  have h1 := (h.names c).one
  have c0 : w.cell? ⟨g, 0, none⟩ = some (.map mb) := by simp [World.cell?, h.box]
  have hg := h.lt
  obtain ⟨x, hx⟩ : ∃ x, x = at_ L c := ⟨_, rfl⟩
  rw [← hx] at hl h1 ⊢
  clear h0 h hx
  obtain ⟨k, n, d, e, t, a, b, cc, nv, ns⟩ := x
  simp only [Kx.v] at hl
  go_enter Try.func21, Try.ntmps21
  go_wp2_with (first
    | ((with_reducible refine at_store62 w.heap.size kz ⟨k, n, d, e, t, a, b, cc, nv, ns⟩ ?_ ?_ HB0.out h1 ?_); rfl; rfl; intro wr hBr hkr))
  exact ret21 hBr rfl rfl ⟨rfl, KP.new (below_alloc w _) hkr (Nat.le_refl _)⟩
set_option maxRecDepth 100000 in
theorem find_nil (c : Int) (w : World) : Calls Try.prog 21 #[.pointer none, .int .i64 c] w fun e w' => e = .returned kz.v ∧ Below w.heap.size w w' := by
  have HB0 := hid (z62 w)
  go_enter Try.func21, Try.ntmps21
  go_wp2_with (first
    | ((with_reducible refine at_store62 w.heap.size kz kz ?_ ?_ HB0.out rfl ?_); rfl; rfl; intro wr hBr hkr))
  exact ret21 hBr rfl rfl ⟨rfl, KP.new (below_alloc w _) hkr (Nat.le_refl _)⟩
theorem new_any (w : World) : Calls Try.prog 7 #[] w fun e w' => e = .returned (.pointer (some ⟨w.heap.size, 0, none⟩)) ∧ TB w.heap.size none w' 0 [] ∧ w' = w.alloc (.cells #[.map none] 60) := by
  go_enter Try.func7, Try.ntmps7
  go_wp2
  go_ret
  exact ⟨rfl, ⟨box_at _ _, fun _ => rfl, (fun b hb => by cases hb), (fun x hx => by cases hx)⟩, rfl⟩
/-- what Ask answers of a client of which x is known -/
def askS (x : Kx) (c r : Int) : Int := if okc c r then stt x.n x.d r else 0
def askE (c r : Int) : Int := if okc c r then 0 else 1
def askR (x : Kx) (c r : Int) : Rs := if okc c r && (stt x.n x.d r == 3) then x.r else rz
set_option maxRecDepth 100000 in
theorem ask_no {p : Value} (c r : Int) (w : World) (h : okc c r = false) : Calls Try.prog 12 #[p, .int .i64 c, .int .i64 r] w fun e w' => e = .returned (.tuple #[.int .i64 0, rz.v, .int .i64 1]) ∧ Below w.heap.size w w' := by
  have HB0 := hid (z32 w)
  go_enter Try.func12, Try.ntmps12
  go_wp2_with (first
    | (go_at_call 20; refine (isRight_any _ _ _).mono ?_; rintro e w' ⟨rfl, he⟩; have he := he.symm; subst he; rw [h])
    | ((with_reducible refine at_store32 w.heap.size rz rz ?_ ?_ HB0.out rfl ?_); rfl; rfl; intro wr hBr hkr))
  exact ret12 hBr rfl rfl rfl rfl ⟨rfl, KP.new (below_alloc w _) hkr (Nat.le_refl _)⟩
set_option maxRecDepth 100000 in
set_option maxHeartbeats 1000000 in
theorem ask_other {p : Value} {x : Kx} (c r : Int) (w : World) (h : okc c r = true) (HF : Hid (∀ W, Below w.heap.size w W → Calls Try.prog 21 #[p, .int .i64 c] W fun e w' => e = .returned x.v ∧ Below W.heap.size W w')) (hs : (stt x.n x.d r != 3) = true) (h1 : ∃ ao n cap, x.nv = .slice ao n cap) : Calls Try.prog 12 #[p, .int .i64 c, .int .i64 r] w fun e w' => e = .returned (.tuple #[.int .i64 (stt x.n x.d r), rz.v, .int .i64 0]) ∧ Below w.heap.size w w' := by
  have HB0 := hid (z32 w)
  obtain ⟨ao, nn, cap, hnv⟩ := h1
  have HS := hid (fun W => state_any x r W)
  obtain ⟨s, hss⟩ : ∃ s, s = stt x.n x.d r := ⟨_, rfl⟩
  rw [← hss] at HS hs ⊢
  clear hss
  obtain ⟨k, n, d, e, t, a, b, cc, nv, ns⟩ := x
  simp only at hnv
  subst hnv
  simp only [Kx.v] at HF HS
  go_enter Try.func12, Try.ntmps12
  go_wp2_with (first
    | (go_at_call 20; refine (isRight_any _ _ _).mono ?_; rintro e w' ⟨rfl, he⟩; have he := he.symm; subst he; rw [h])
    | (go_at_call 21; refine (HF.out _ (below_alloc _ _)).mono ?_; rintro e w1 ⟨rfl, hb1⟩; have HB1 := hid hb1; clear hb1)
    | (go_at_call 22; refine (HS.out _).mono ?_; rintro e w3 ⟨rfl, hb3⟩; have HB3 := hid ((((below_alloc w _).next HB1.out).next (below_alloc _ _)).next hb3); have HB32 := hid (((HB0.out.below HB1.out (by simp)).below (below_alloc w1 _) (by have := HB1.out.size; simp at this; omega)).below hb3 (by have := HB1.out.size; simp at this ⊢; omega)); clear hb3)
    | ((with_reducible refine at_store32 w.heap.size rz rz ?_ ?_ HB32.out rfl ?_); rfl; rfl; intro wr hBr hkr))
  exact ret12 hBr rfl rfl rfl rfl ⟨rfl, KP.new HB3.out hkr (Nat.le_refl _)⟩
set_option maxRecDepth 100000 in
set_option maxHeartbeats 1000000 in
theorem ask_told {p : Value} {x : Kx} (c r : Int) (w : World) (h : okc c r = true) (HF : Hid (∀ W, Below w.heap.size w W → Calls Try.prog 21 #[p, .int .i64 c] W fun e w' => e = .returned x.v ∧ Below W.heap.size W w')) (hs : stt x.n x.d r = 3) (hn : SLie w x.nv x.ns) : Calls Try.prog 12 #[p, .int .i64 c, .int .i64 r] w fun e w' => ∃ v', e = .returned (.tuple #[.int .i64 3, Rs.v { x.r with nv := v' }, .int .i64 0]) ∧ SLie w' v' x.ns ∧ Below w.heap.size w w' := by
  have HB0 := hid (z32 w)
  have HN := hid hn
  have HS := hid (fun W => state_any x r W)
  rw [hs] at HS
  clear hs
  obtain ⟨k, n, d, e, t, a, b, cc, nv, ns⟩ := x
  simp only at hn
  obtain ⟨ao, cap, rfl, _⟩ := hn
  have HC := hid (fun (W : World) (hW : Below w.heap.size w W) => copied_any (w := W) (x := ⟨e, t, a, b, cc, .slice ao ns.length cap, ns⟩) (HN.out.below hW))
  simp only [Kx.v] at HF HS
  simp only [Rs.v] at HC
  simp only [Kx.r]
  clear HN
  obtain ⟨nl, hnl⟩ : ∃ nl, nl = ns.length := ⟨_, rfl⟩
  rw [← hnl] at HF HS HC
  clear hnl
  go_enter Try.func12, Try.ntmps12
  go_wp2_with (first
    | (go_at_call 20; refine (isRight_any _ _ _).mono ?_; rintro e w' ⟨rfl, he⟩; have he := he.symm; subst he; rw [h])
    | (go_at_call 21; refine (HF.out _ (below_alloc _ _)).mono ?_; rintro e w1 ⟨rfl, hb1⟩; have HB1 := hid hb1; clear hb1)
    | (go_at_call 22; refine (HS.out _).mono ?_; rintro e w3 ⟨rfl, hb3⟩; have hB62 := (show B62 w1.heap.size (w1.alloc (.cells #[.int .i64 n, .bool d, .int .i64 e, .string t, .int .i64 a, .int .i64 b, .int .i64 cc, .slice ao nl cap] 62)) ⟨k, n, d, e, t, a, b, cc, .slice ao nl cap, ns⟩ from box_at _ _).below hb3 (by simp); have HB3 := hid ((((below_alloc w _).next HB1.out).next (below_alloc _ _)).next hb3); have HB32 := hid (((HB0.out.below HB1.out (by simp)).below (below_alloc w1 _) (by have := HB1.out.size; simp at this; omega)).below hb3 (by have := HB1.out.size; simp at this ⊢; omega)); obtain ⟨m0, m1, m2, m3, m4, m5, m6, m7⟩ := hB62.cells; simp only at m0 m1 m2 m3 m4 m5 m6 m7; clear hb3 hB62)
    | (go_at_call 25; refine (HC.out _ HB3.out).mono ?_; rintro e w4 ⟨v4, rfl, hs4, hf4, hb4⟩; have HS4 := hid hs4; have HF4 := hid hf4; have HB4 := hid (HB3.out.next hb4); have HB34 := hid (HB32.out.below hb4 (by have := HB32.out.lt; omega)); have ho4 := hs4.one; clear hs4 hf4 hb4)
    | ((with_reducible refine at_store32 w.heap.size rz ⟨e, t, a, b, cc, v4, ns⟩ ?_ ?_ HB34.out ho4 ?_); rfl; rfl; intro wr hBr hkr))
  exact ret12 hBr rfl rfl rfl rfl ⟨v4, rfl, HS4.out.kp hkr (fun gb he => HF4.out gb (by have := HB32.out.lt; omega)), KP.new HB4.out hkr (Nat.le_refl _)⟩
theorem ask_any {p : Value} {x : Kx} (c r : Int) (w : World) (HF : Hid (∀ W, Below w.heap.size w W → Calls Try.prog 21 #[p, .int .i64 c] W fun e w' => e = .returned x.v ∧ Below W.heap.size W w')) (hn : SLie w x.nv x.ns) : Calls Try.prog 12 #[p, .int .i64 c, .int .i64 r] w fun e w' => ∃ v', e = .returned (.tuple #[.int .i64 (askS x c r), Rs.v { askR x c r with nv := v' }, .int .i64 (askE c r)]) ∧ SLie w' v' (askR x c r).ns ∧ Below w.heap.size w w' := by
  unfold askS askR askE
  cases h : okc c r with
  | false => exact (ask_no c r w h).mono fun e w' ⟨he, hb⟩ => ⟨.slice none 0 0, he, SLie.nil w', hb⟩
  | true =>
    simp only [if_true, Bool.true_and]
    by_cases hs : stt x.n x.d r = 3
    · rw [hs]
      exact ask_told c r w h HF hs hn
    · have h3 : (stt x.n x.d r == 3) = false := by simpa using hs
      rw [h3]
      obtain ⟨ao, cap, e, _⟩ := hn
      exact (ask_other c r w h HF (by simpa using hs) ⟨ao, _, cap, e⟩).mono fun e w' ⟨he, hb⟩ => ⟨.slice none 0 0, he, SLie.nil w', hb⟩
set_option maxRecDepth 100000 in
theorem last_any {p : Value} {x : Kx} (c : Int) (w : World) (HF : Hid (∀ W, Below w.heap.size w W → Calls Try.prog 21 #[p, .int .i64 c] W fun e w' => e = .returned x.v ∧ Below W.heap.size W w')) (h1 : ∃ ao n cap, x.nv = .slice ao n cap) : Calls Try.prog 15 #[p, .int .i64 c] w fun e w' => e = .returned (.tuple #[.int .i64 x.n, .bool (decide (1 ≤ x.n))]) ∧ Below w.heap.size w w' := by
  obtain ⟨ao, nn, cap, hnv⟩ := h1
  obtain ⟨k, n, d, e, t, a, b, cc, nv, ns⟩ := x
  simp only at hnv
  subst hnv
  simp only [Kx.v] at HF
  go_enter Try.func15, Try.ntmps15
  go_wp2_with (first
    | (go_at_call 21; refine (HF.out _ (Below.refl _ _)).mono ?_; rintro e w1 ⟨rfl, hb1⟩; have HB1 := hid hb1; clear hb1))
  go_quiet (fail)
  go_wp2
  go_ret2
  exact ⟨rfl, (HB1.out.next (below_alloc _ _)).dN _⟩
end Go.Proofs.Ytabkfmmbjjchdaa
