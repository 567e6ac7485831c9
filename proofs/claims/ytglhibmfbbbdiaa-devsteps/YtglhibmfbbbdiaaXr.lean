import Derived.Test.YtglhibmfbbbdiaaRd
import Derived.Test.YtglhibmfbbbdiaaWr
namespace Go.Proofs.Ytglhibmfbbbdiaa
open Go.RowKit Go.Maps

/-- texts as cells -/
def tc (L : List ByteArray) : List Value := L.map Value.string
/-- the reference's device, behind the pointer to block g -/
structure XIs (base g : Nat) (w : World) (L : List ByteArray) (Q : List (Nat × ByteArray)) (fp : List Nat) : Prop where
  ex : ∃ bl qv, w.heap[g]? = some (.cells #[.slice (some ⟨bl, 0, none⟩) L.length L.length, qv] 43 (0, 0)) ∧ w.heap[bl]? = some (.cells (tc L).toArray 9 (0, 0)) ∧ w.ownsRow base 62 2 qv Q.length (wc Q) ∧ g ∈ fp ∧ bl ∈ fp ∧ (∀ b, qv.ownBlock = some b → b ∈ fp)
  n1 : 1 ≤ L.length
  n2 : L.length ≤ 1024
  ok : ∀ q ∈ Q, q.1 + cnt q.2 ≤ L.length ∧ q.2.size ≤ 1000000
  lo : ∀ k ∈ fp, base ≤ k ∧ k < w.heap.size
theorem row62_same {w w' : World} {base n : Nat} {v : Value} {xs : List Value} (hr : w.ownsRow base 62 2 v n xs) (hb : ∀ b, v.ownBlock = some b → w'.heap[b]? = w.heap[b]?) : w'.ownsRow base 62 2 v n xs := by
  obtain ⟨e1, e2 | ⟨b, cap, cur, rfl, e3, e4, e5⟩⟩ := hr
  · exact ⟨e1, .inl e2⟩
  · exact ⟨e1, .inr ⟨b, cap, cur, rfl, e3, (hb b rfl).trans e4, e5⟩⟩
theorem XIs.other {base g : Nat} {w w' : World} {L : List ByteArray} {Q : List (Nat × ByteArray)} {fp fp' : List Nat} (h : XIs base g w L Q fp) (k : Only fp' w w') (hd : ∀ x ∈ fp, x ∉ fp') : XIs base g w' L Q fp := by
  obtain ⟨⟨bl, qv, h1, h2, h3, m1, m2, m3⟩, h6, h7, h8, h9⟩ := h
  have hb : ∀ x ∈ fp, w'.heap[x]? = w.heap[x]? := fun x hx => k.block x (h9 x hx).2 (hd x hx)
  exact ⟨⟨bl, qv, (hb g m1).trans h1, (hb bl m2).trans h2, row62_same h3 (fun b e => hb b (m3 b e)), m1, m2, m3⟩, h6, h7, h8, fun x hx => ⟨(h9 x hx).1, Nat.lt_of_lt_of_le (h9 x hx).2 k.size⟩⟩
theorem XIs.below {base g : Nat} {w w' : World} {L : List ByteArray} {Q : List (Nat × ByteArray)} {fp : List Nat} (h : XIs base g w L Q fp) (k : Below w.heap.size w w') : XIs base g w' L Q fp :=
  h.other (fp' := []) (Only.of_below k) (fun _ _ => by simp)
theorem tc_cell {w : World} {bl : Nat} {L : List ByteArray} (h : w.heap[bl]? = some (.cells (tc L).toArray 9 (0, 0))) (k : Nat) (hk : k < L.length) : w.cell? ⟨bl, k, none⟩ = some (.string L[k]) := by
  simp [World.cell?, h, tc, hk]
theorem Try.info9 : (Try.prog.info? 9).map (fun i => (i.zero, i.size, i.bytes)) = some (some (.string ⟨#[]⟩), 1, 16) := by kernel_rfl
theorem made_str (n : Nat) : madeCells (Value.string ⟨#[]⟩).cells n = (tc (List.replicate n ByteArray.empty)).toArray := by
  unfold madeCells tc
  apply Array.ext'
  simp [Value.cells, List.map_const', Nat.mod_one]
  exact .inr rfl
theorem mk_str (n : Nat) (hn : n ≤ 1024) (w : World) : (Instr.makeSlice 40 (.int .i64 (n : Int)) (.int .i64 (n : Int))).run Try.prog w = .ok (.slice (some ⟨w.heap.size, 0, none⟩) n n) (w.alloc (.cells (tc (List.replicate n ByteArray.empty)).toArray 9)) := by
  obtain ⟨i0, hi, hz0, hz1, hz2⟩ := info_parts Try.info9
  have := run_makeSlice (P := Try.prog) w 40 9 i0 (.string ⟨#[]⟩) Try.underlying40 hi hz0 .i64 .i64 n n (by omega) (by omega) (by rw [hz1]; omega) (by rw [hz2]; omega) (by omega)
  rw [hz1] at this
  rw [Int.toNat_natCast, Nat.mul_one, made_str n] at this
  exact this
theorem xnew_bad (n : Int) (h : ¬ (1 ≤ n ∧ n ≤ 1024)) (w : World) : Calls Try.prog 9 #[.int .i64 n] w fun e w' => e = .returned (.tuple #[.pointer none, .int .i64 1]) ∧ w' = w := by
  by_cases h1 : n < 1
  · go_enter Try.func9, Try.ntmps9
    go_wp2
    go_ret2
    exact ⟨rfl, rfl⟩
  · have h2 : 1024 < n := by omega
    go_enter Try.func9, Try.ntmps9
    go_wp2
    go_ret2
    exact ⟨rfl, rfl⟩
theorem xnew_any (n : Nat) (h1 : 1 ≤ n) (h2 : n ≤ 1024) (base : Nat) (w : World) (hb : base ≤ w.heap.size) :
    Calls Try.prog 9 #[.int .i64 n] w fun e w' => e = .returned (.tuple #[.pointer (some ⟨w.heap.size + 1, 0, none⟩), .int .i64 0]) ∧ XIs base (w.heap.size + 1) w' (List.replicate n ByteArray.empty) [] [w.heap.size, w.heap.size + 1] ∧ Below w.heap.size w w' := by
  have hmk := mk_str n h2 w
  obtain ⟨cs, hcs⟩ : ∃ cs, cs = (tc (List.replicate n ByteArray.empty)).toArray := ⟨_, rfl⟩
  rw [← hcs] at hmk
  have HCS := hid hcs
  clear hcs
  go_enter Try.func9, Try.ntmps9
  go_wp2
  go_ret2
  have e1 : ∀ o, (w.alloc o).heap.size = w.heap.size + 1 := fun o => by simp
  refine ⟨rfl, ⟨⟨w.heap.size, .slice none 0 0, ?_, ?_, World.ownsRow_nil _ _ _ _, by simp, by simp, (fun b e => by cases e)⟩, by simp; omega, by simp; omega, (fun q hq => by cases hq), fun k hk => ?_⟩, ?_⟩
  · have hp : (w.heap.push (Obj.cells cs 9)).size = w.heap.size + 1 := by simp
    show ((w.heap.push (Obj.cells cs 9)).push _)[w.heap.size + 1]? = _
    rw [← hp, List.length_replicate]
    exact Array.getElem?_push_size
  · rw [← HCS.out]
    exact (Below.heap_alloc _ _ _ (by rw [e1]; omega)).trans (by show (w.heap.push _)[w.heap.size]? = _; simp)
  · have e3 : ∀ o o', ((w.alloc o).alloc o').heap.size = w.heap.size + 2 := fun o o' => by simp
    simp at hk
    rw [e3]
    rcases hk with rfl | rfl <;> omega
  · exact ((Below.refl w.heap.size w).alloc (Nat.le_refl _) _).alloc (by rw [e1]; omega) _
theorem xlasts_none {base g : Nat} {L : List ByteArray} {Q : List (Nat × ByteArray)} {fp : List Nat} (a : Int) (ha : ¬ (0 ≤ a ∧ a < L.length)) (w : World) (h : XIs base g w L Q fp) : Calls Try.prog 29 #[.pointer (some ⟨g, 0, none⟩), .int .i64 a] w fun e w' => e = .returned (.tuple #[.string ByteArray.empty, .int .i64 6]) ∧ w' = w := by
  obtain ⟨⟨bl, qv, h1, _⟩, _⟩ := h
  obtain ⟨c0, c1⟩ := two_cells h1
  by_cases h0 : a < 0
  · go_enter Try.func29, Try.ntmps29
    go_wp2
    go_ret2
    exact ⟨rfl, rfl⟩
  · have h2 : (L.length : Int) ≤ a := by omega
    go_enter Try.func29, Try.ntmps29
    go_wp2
    go_ret2
    exact ⟨rfl, rfl⟩
/-- a block as the reference tells it -/
def xb (s : ByteArray) : ByteArray := if s.size = 0 then Z else s
set_option maxRecDepth 100000 in
theorem xlasts_any {base g : Nat} {L : List ByteArray} {Q : List (Nat × ByteArray)} {fp : List Nat} (k : Nat) (hk : k < L.length) (w : World) (h : XIs base g w L Q fp) : Calls Try.prog 29 #[.pointer (some ⟨g, 0, none⟩), .int .i64 k] w fun e w' => e = .returned (.tuple #[.string (xb L[k]), .int .i64 0]) ∧ Below w.heap.size w w' := by
  have hn := h.n2
  obtain ⟨⟨bl, qv, h1, h2, _⟩, _⟩ := h
  obtain ⟨c0, c1⟩ := two_cells h1
  have ck := tc_cell h2 k hk
  obtain ⟨s, hs⟩ : ∃ s, s = L[k] := ⟨_, rfl⟩
  rw [← hs] at ck ⊢
  clear hs h2
  unfold xb
  by_cases h0 : s.size = 0
  · rw [if_pos h0]
    obtain rfl := size_zero h0
    have hmk := mk128
    have hcv : ∀ w : World, (convert 60 9 (.slice (some ⟨w.heap.size, 0, none⟩) 128 128)).run Try.prog (w.alloc (.cells (bc (List.replicate 128 0)).toArray 5)) = .ok (.string Z) (w.alloc (.cells (bc (List.replicate 128 0)).toArray 5)) := fun w => (CIs.made w (List.replicate 128 0)).conv 128
    obtain ⟨Z0, hZ0⟩ : ∃ z, z = Z := ⟨_, rfl⟩
    rw [← hZ0] at hcv ⊢
    obtain ⟨cs, hcs⟩ : ∃ cs, cs = (bc (List.replicate 128 0)).toArray := ⟨_, rfl⟩
    rw [← hcs] at hmk hcv
    clear hcs hZ0 h0
    have hcv1 := hcv w
    clear hcv
    go_enter Try.func29, Try.ntmps29
    go_wp2
    go_ret2
    exact ⟨rfl, below_alloc _ _⟩
  · rw [if_neg h0]
    have hne := empty_ne h0
    go_enter Try.func29, Try.ntmps29
    go_wp2
    go_ret2
    exact ⟨rfl, Below.refl _ _⟩
end Go.Proofs.Ytglhibmfbbbdiaa
