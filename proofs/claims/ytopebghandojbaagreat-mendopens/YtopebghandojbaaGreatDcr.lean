import Derived.Test.YtopebghandojbaaGreatDdo
import Derived.Test.YtopebghandojbaaGreatDwr
import Derived.BigRegion
namespace Go.Proofs.YtopebghandojbaaGreat.Dv
open Go.RowKit Go.Maps
set_option maxRecDepth 100000 in
theorem DIs.turnL {base g N N' : Nat} {w w' : World} {S : DS} {fp : List Nat} {bl bf : Nat} {wv : Value} {L' : Nat → Option ByteArray} (h1 : w.heap[g]? = some (.cells #[.int .i64 (S.n : Int), .map (some bl), .map (some bf), wv] 138 (0, 0))) (h2 : bl ≠ bf) (h4 : MIs bf w N (seen (fun _ => none) S.Q))
    (h3 : MIs bl w N S.L) (h5 : w.ownsRow base 148 2 wv S.Q.length (wc S.Q)) (m1 : g ∈ fp) (m2 : bl ∈ fp) (m3 : bf ∈ fp) (m4 : ∀ b, wv.ownBlock = some b → b ∈ fp) (n1 : 1 ≤ S.n) (n2 : S.n ≤ 1024) (hok : ∀ q ∈ S.Q, q.1 + cnt q.2 ≤ S.n ∧ q.2.size ≤ 1000000) (hlo : ∀ k ∈ fp, base ≤ k ∧ k < w.heap.size)
    (hM : MIs bl w' N' L') (hg : w.grownBy w' (some bl)) (hN : N ≤ N') : DIs base g w' N' ⟨S.n, L', S.Q⟩ fp ∧ Only fp w w' := by
  obtain ⟨esl, kl1, hml⟩ := h3.isMap
  have hgl : g ≠ bl := fun e => by rw [e, hml] at h1; cases h1
  have hs := hg.size
  refine ⟨⟨⟨bl, bf, wv, (hg.block g (lt_of_block h1) (fun e => hgl (Option.some.inj e))).trans h1, h2, hM, (h4.same (hg.block bf h4.lt (fun e => h2 (Option.some.inj e).symm))).mono hN, row_same h5 (fun b hb => hg.block b (h5.lt b hb).2 (fun e => row_ne_map h5 hml (by rw [← Option.some.inj e]; exact hb))), m1, m2, m3, m4⟩, n1, n2, hok, fun k hk => ?_⟩, Only.of_grown hg m2⟩
  have := hlo k hk
  omega
set_option maxHeartbeats 1000000 in
set_option maxRecDepth 100000 in
theorem flush_any {base g N : Nat} {S : DS} {fp : List Nat} (hN : N ≤ 100000000) (w : World) (h : DIs base g w N S fp) : Calls Tryz.prog 31 #[.pointer (some ⟨g, 0, none⟩)] w fun e w' => e = .returned (.tuple #[]) ∧ DIs base g w' (N + N) ⟨S.n, seen S.L S.Q, []⟩ fp ∧ Only fp w w' := by
  obtain ⟨⟨bl, bf, wv, h1, h2, h3, h4, h5, m1, m2, m3, m4⟩, n1, n2, hok, hlo⟩ := h
  obtain ⟨c0, c1, c2, c3⟩ := four_cells h1
  have HCP := hid (copy_any bl bf N N S.L (seen (fun _ => none) S.Q) w.drew (h3.same rfl) (h4.same rfl) h2 (by omega))
  have HT := hid (fun w' (hM : MIs bl w' (N + N) (over2 S.L (seen (fun _ => none) S.Q))) (hg : w.grownBy w' (some bl)) => DIs.turnL h1 h2 h4 h3 h5 m1 m2 m3 m4 n1 n2 hok hlo hM hg (by omega))
  have HS := hid (seen_eq S.Q S.L)
  clear h1 h3 h4 h5 m1 m2 m3 m4 hok hlo c0 c3
  go_enter Tryz.func31, Tryz.ntmps31
  go_wp2
  go_region_with (first | (go_at_call 80; refine HCP.out.mono ?_; rintro e w1 ⟨rfl, hM1, _, hg1⟩; obtain ⟨hD1, hO1⟩ := HT.out w1 hM1 ⟨hg1.os, hg1.tape, hg1.output, hg1.size, hg1.block⟩; have HF := hid (forget_any w1 hD1); clear hM1 hg1 hD1))
  all_goals
    go_wp2_with (first | (go_at_call 81; refine HF.out.mono ?_; rintro e w2 ⟨rfl, hD2, hO2⟩))
    go_end0
    refine ⟨rfl, ?_, hO1.trans hO2 (fun _ hx => .inl hx)⟩
    rw [HS.out]
    exact hD2
end Go.Proofs.YtopebghandojbaaGreat.Dv
namespace Go.Proofs.YtopebghandojbaaGreat.Dv
open Go.RowKit Go.Maps

/-- a crash, from the i'th write on -/
def crashFrom (pk : Nat → Bool) : Nat → Nat → (Nat → Option ByteArray) → List (Nat × ByteArray) → Nat → Option ByteArray
  | _, _, f, [] => f
  | i, t, f, q :: Q => if pk i then crashFrom pk (i + 1) t (over f q.1 q.2 (cnt q.2)) Q else crashFrom pk (i + 1) 0 (over f q.1 q.2 (min t (cnt q.2))) Q

theorem crash_cons (pk : Nat → Bool) (i t : Nat) (f : Nat → Option ByteArray) (q : Nat × ByteArray) (Q : List (Nat × ByteArray)) :
    crashFrom pk i t f (q :: Q) = if pk i then crashFrom pk (i + 1) t (over f q.1 q.2 (cnt q.2)) Q else crashFrom pk (i + 1) 0 (over f q.1 q.2 (min t (cnt q.2))) Q := rfl
theorem crash_end (pk : Nat → Bool) (i t : Nat) (f : Nat → Option ByteArray) : crashFrom pk i t f [] = f := by cases i <;> rfl
/-- the picks, as they are read -/
structure PIs (w : World) (pv : Value) (len : Nat) (pk : Nat → Bool) (fp : List Nat) : Prop where
  ex : ∃ ao pc, pv = .slice ao len pc ∧ ∀ i, i < len → ∃ pb off, ao = some ⟨pb, off, none⟩ ∧ pb ∉ fp ∧ pb < w.heap.size ∧ w.cell? ⟨pb, off + i, none⟩ = some (.bool (pk i))
  big : len ≤ maxLen
  rest : ∀ i, len ≤ i → pk i = false
theorem PIs.keep {w w' : World} {pv : Value} {len : Nat} {pk : Nat → Bool} {fp : List Nat} (h : PIs w pv len pk fp) (k : Only fp w w') : PIs w' pv len pk fp := by
  obtain ⟨⟨ao, pc, rfl, h4⟩, h5, h6⟩ := h
  refine ⟨⟨ao, pc, rfl, fun i hi => ?_⟩, h5, h6⟩
  obtain ⟨pb, off, e, h1, h2, h3⟩ := h4 i hi
  exact ⟨pb, off, e, h1, Nat.lt_of_lt_of_le h2 k.size, (World.cell?_of_block (k.block pb h2 h1)).trans h3⟩
theorem drop_get {α : Type} (Q : List α) (j : Nat) (h : j < Q.length) : Q.drop j = Q[j] :: Q.drop (j + 1) := List.drop_eq_getElem_cons h

theorem bel_ad {w w5 : World} {o : Obj} (h : Below ((w.alloc o).drew).heap.size (w.alloc o).drew w5) : Below w.heap.size w w5 := (below_alloc w o).next (undrew h)
theorem var_ad {w w5 : World} {o : Obj} (h : Below ((w.alloc o).drew).heap.size (w.alloc o).drew w5) : w5.heap[w.heap.size]? = some o :=
  (h.block w.heap.size (by show _ < (w.heap.push o).size; simp)).trans (by show (w.heap.push o)[w.heap.size]? = _; simp)
end Go.Proofs.YtopebghandojbaaGreat.Dv
