import Derived.Deep.RegionHeld3
import Derived.Test.YtmemelamgldpcaaVa
namespace Go.Proofs.Ytmemelamgldpcaa
open Go.RowKit

/-- an offer -/
structure Off where
  a : Int
  b : Int
  c : Int
  deriving DecidableEq
instance : Inhabited Off := ⟨⟨0, 0, 0⟩⟩
def Off.v (o : Off) : Value := .agg #[.int .i64 o.a, .int .i64 o.b, .int .i64 o.c]
def btr (x y : Off) : Bool := decide (y.b < x.b) || (x.b == y.b && decide (y.c < x.c))
/-- a slice reads as offers -/
def OLie (w : World) (v : Value) (l : List Off) : Prop :=
  ∃ ao cap, v = .slice ao l.length cap ∧ l.length ≤ cap ∧ cap ≤ maxLen ∧ ∀ i (hi : i < l.length), ∃ gb off, ao = some ⟨gb, off, none⟩ ∧ gb < w.heap.size ∧ w.cell? ⟨gb, off + i * 3, none⟩ = some (.int .i64 l[i].a) ∧ w.cell? ⟨gb, off + i * 3 + 1, none⟩ = some (.int .i64 l[i].b) ∧ w.cell? ⟨gb, off + i * 3 + 2, none⟩ = some (.int .i64 l[i].c)
theorem OLie.below {w w' : World} {v : Value} {l : List Off} (h : OLie w v l) (k : Below w.heap.size w w') : OLie w' v l := by
  obtain ⟨ao, cap, e, h1, h2, h3⟩ := h
  refine ⟨ao, cap, e, h1, h2, fun i hi => ?_⟩
  obtain ⟨gb, off, e1, hg, c0, c1, c2⟩ := h3 i hi
  exact ⟨gb, off, e1, Nat.lt_of_lt_of_le hg k.size, (k.cell (p := ⟨gb, off + i * 3, none⟩) hg).trans c0, (k.cell (p := ⟨gb, off + i * 3 + 1, none⟩) hg).trans c1, (k.cell (p := ⟨gb, off + i * 3 + 2, none⟩) hg).trans c2⟩
theorem OLie.some {w : World} {v : Value} {l : List Off} (h : OLie w v l) (hl : 0 < l.length) : ∃ b off cap, v = .slice (some ⟨b, off, none⟩) l.length cap ∧ l.length ≤ maxLen ∧ b < w.heap.size ∧ ∀ i (hi : i < l.length), w.cell? ⟨b, off + i * 3, none⟩ = some (.int .i64 l[i].a) ∧ w.cell? ⟨b, off + i * 3 + 1, none⟩ = some (.int .i64 l[i].b) ∧ w.cell? ⟨b, off + i * 3 + 2, none⟩ = some (.int .i64 l[i].c) := by
  obtain ⟨ao, cap, e, h1, h2, h3⟩ := h
  obtain ⟨gb, off, e1, hg, _⟩ := h3 0 hl
  subst e1
  refine ⟨gb, off, cap, e, Nat.le_trans h1 h2, hg, fun i hi => ?_⟩
  obtain ⟨gb', off', e2, _, c⟩ := h3 i hi
  cases e2
  exact c
set_option maxRecDepth 100000 in
theorem better_any (x y : Off) (w : World) : Calls Try.prog 30 #[x.v, y.v] w fun e w' => e = .returned (.bool (btr x y)) ∧ Below w.heap.size w w' := by
  obtain ⟨x1, x2, x3⟩ := x
  obtain ⟨y1, y2, y3⟩ := y
  simp only [Off.v, btr]
  by_cases h1 : y2 < x2
  · rw [decide_eq_true h1, Bool.true_or]
    go_enter Try.func30, Try.ntmps30
    go_wp2
    go_ret
    exact ⟨rfl, ((Below.refl _ _).alloc (by go_size) _).alloc (by go_size) _⟩
  · rw [decide_eq_false h1, Bool.false_or]
    have h1' : decide (y2 < x2) = false := decide_eq_false h1
    rcases h2 : x2 == y2 with _ | _
    · rw [Bool.false_and]
      clear h1
      go_enter Try.func30, Try.ntmps30
      go_wp2
      go_ret
      exact ⟨rfl, ((Below.refl _ _).alloc (by go_size) _).alloc (by go_size) _⟩
    · rw [Bool.true_and]
      clear h1
      obtain ⟨t, ht⟩ : ∃ t, t = decide (y3 < x3) := ⟨_, rfl⟩
      have ht' := ht.symm
      rw [ht']
      clear ht
      go_enter Try.func30, Try.ntmps30
      go_wp2
      all_goals
        go_ret
        exact ⟨rfl, ((Below.refl _ _).alloc (by go_size) _).alloc (by go_size) _⟩
/-- the place of the best of the first n -/
def bst (l : List Off) : Nat → Nat
  | 0 => 0
  | n + 1 => if btr (l.getD n default) (l.getD (bst l n) default) then n else bst l n
theorem bst_le (l : List Off) (n : Nat) (hn : 0 < n) : bst l n < n := by
  induction n with
  | zero => omega
  | succ n ih =>
    unfold bst
    split
    · omega
    · by_cases h : n = 0
      · subst h; simp [bst]
      · have := ih (by omega); omega
set_option maxRecDepth 100000 in
set_option maxHeartbeats 2000000 in
theorem unbeaten_any {v : Value} {l : List Off} {w : World} (h : OLie w v l) (hl : 0 < l.length) : Calls Try.prog 29 #[v, .func (.func 30) #[] #[]] w fun e w' => e = .returned (.int .i64 (bst l l.length : Nat)) ∧ Below w.heap.size w w' := by
  obtain ⟨b, off, cap, rfl, hm, hb, hc⟩ := h.some hl
  have HC := hid hc
  obtain ⟨R, hR⟩ : ∃ R, R = bst l l.length := ⟨_, rfl⟩
  rw [← hR]
  obtain ⟨n, hn⟩ : ∃ n, n = l.length := ⟨_, rfl⟩
  rw [← hn] at hR hl hm ⊢
  replace hR := hid hR
  replace hn := hid hn
  clear h hc
  unfold maxLen at hm
  go_enter Try.func29, Try.ntmps29
  go_wp2
  go_loopw [10, 5] (fun i a wr => ∃ (k : Nat) (t : Nat), k ≤ n ∧ i = .int .i64 k ∧ a = .int .i64 t ∧ t < n ∧ Hid (t = bst l k) ∧ Hid (Below w.heap.size w wr)) (fun i _ _ => n - (intOf i).toNat)
  case atStart => exact ⟨0, 0, Nat.zero_le _, rfl, rfl, hl, hid rfl, hid (Below.refl _ _)⟩
  case round =>
    obtain ⟨k, t, hk, rfl, rfl, ht, HT, HB⟩ := hrel
    by_cases hlt : k < n
    · have hk' : k < l.length := by rw [← hn.out]; exact hlt
      have ht' : t < l.length := by rw [← hn.out]; exact ht
      obtain ⟨x, hx⟩ : ∃ x, x = l[k]'hk' := ⟨_, rfl⟩
      obtain ⟨y, hy⟩ : ∃ y, y = l[t]'ht' := ⟨_, rfl⟩
      have hs := HB.out.size
      obtain ⟨a0, a1, a2⟩ := HC.out k hk'
      obtain ⟨b0, b1, b2⟩ := HC.out t ht'
      rw [← hx] at a0 a1 a2
      rw [← hy] at b0 b1 b2
      rw [← HB.out.cell (p := ⟨b, off + k * 3, none⟩) hb] at a0
      rw [← HB.out.cell (p := ⟨b, off + k * 3 + 1, none⟩) hb] at a1
      rw [← HB.out.cell (p := ⟨b, off + k * 3 + 2, none⟩) hb] at a2
      rw [← HB.out.cell (p := ⟨b, off + t * 3, none⟩) hb] at b0
      rw [← HB.out.cell (p := ⟨b, off + t * 3 + 1, none⟩) hb] at b1
      rw [← HB.out.cell (p := ⟨b, off + t * 3 + 2, none⟩) hb] at b2
      have HN : Hid (bst l (k + 1) = if btr x y then k else t) := hid (by
        rw [bst, List.getD_eq_getElem?_getD, List.getElem?_eq_getElem hk', ← HT.out, List.getD_eq_getElem?_getD, List.getElem?_eq_getElem ht', hx, hy]; rfl)
      have hbr : b < wr.heap.size := Nat.lt_of_lt_of_le hb hs
      clear hx hy hk' ht'
      obtain ⟨B, hB⟩ : ∃ B, B = btr x y := ⟨_, rfl⟩
      have HC1 := hid (fun W => better_any x y W)
      rw [← hB] at HN HC1
      clear hB
      obtain ⟨x1, x2, x3⟩ := x
      obtain ⟨y1, y2, y3⟩ := y
      simp only [Off.v] at HC1 a0 a1 a2 b0 b1 b2
      go_wp2
      obtain ⟨w1, hw1⟩ : ∃ w1, w1 = wr.alloc (.cells #[.int .i64 x1, .int .i64 x2, .int .i64 x3] 38) := ⟨_, rfl⟩
      have HB1 : Hid (Below w.heap.size w w1) := hid (by rw [hw1]; exact HB.out.alloc hs _)
      have q0 : w1.cell? ⟨wr.heap.size, 0, none⟩ = some (.int .i64 x1) := by rw [hw1, World.cell?_alloc_at _ _ _ _ rfl]; rfl
      have q1 : w1.cell? ⟨wr.heap.size, 1, none⟩ = some (.int .i64 x2) := by rw [hw1, World.cell?_alloc_at _ _ _ _ rfl]; rfl
      have q2 : w1.cell? ⟨wr.heap.size, 2, none⟩ = some (.int .i64 x3) := by rw [hw1, World.cell?_alloc_at _ _ _ _ rfl]; rfl
      have bl : Below wr.heap.size wr w1 := by rw [hw1]; exact (Below.refl _ _).alloc (Nat.le_refl _) _
      rw [← bl.cell (p := ⟨b, off + t * 3, none⟩) hbr] at b0
      rw [← bl.cell (p := ⟨b, off + t * 3 + 1, none⟩) hbr] at b1
      rw [← bl.cell (p := ⟨b, off + t * 3 + 2, none⟩) hbr] at b2
      have hsz1 : w1.heap.size = wr.heap.size + 1 := by rw [hw1]; simp
      have hSS : Hid (∀ w2, Below w1.heap.size w1 w2 → (w2.cell? ⟨wr.heap.size, 0, none⟩ = some (.int .i64 x1) ∧ w2.cell? ⟨wr.heap.size, 1, none⟩ = some (.int .i64 x2) ∧ w2.cell? ⟨wr.heap.size, 2, none⟩ = some (.int .i64 x3)) ∧ w2.cell? ⟨b, off + t * 3, none⟩ = some (.int .i64 y1) ∧ w2.cell? ⟨b, off + t * 3 + 1, none⟩ = some (.int .i64 y2) ∧ w2.cell? ⟨b, off + t * 3 + 2, none⟩ = some (.int .i64 y3)) := hid fun w2 hb2 =>
        ⟨⟨(hb2.cell (p := ⟨wr.heap.size, 0, none⟩) (by show wr.heap.size < _; omega)).trans q0, (hb2.cell (p := ⟨wr.heap.size, 1, none⟩) (by show wr.heap.size < _; omega)).trans q1, (hb2.cell (p := ⟨wr.heap.size, 2, none⟩) (by show wr.heap.size < _; omega)).trans q2⟩,
         (hb2.cell (p := ⟨b, off + t * 3, none⟩) (by show b < _; omega)).trans b0, (hb2.cell (p := ⟨b, off + t * 3 + 1, none⟩) (by show b < _; omega)).trans b1, (hb2.cell (p := ⟨b, off + t * 3 + 2, none⟩) (by show b < _; omega)).trans b2⟩
      have hS1 := hSS.out w1 (Below.refl _ _)
      rw [← hw1]
      clear hw1 bl a0 a1 a2 hsz1
      go_region_held3 (fun w' => (w'.cell? ⟨wr.heap.size, 0, none⟩ = some (.int .i64 x1) ∧ w'.cell? ⟨wr.heap.size, 1, none⟩ = some (.int .i64 x2) ∧ w'.cell? ⟨wr.heap.size, 2, none⟩ = some (.int .i64 x3)) ∧ w'.cell? ⟨b, off + t * 3, none⟩ = some (.int .i64 y1) ∧ w'.cell? ⟨b, off + t * 3 + 1, none⟩ = some (.int .i64 y2) ∧ w'.cell? ⟨b, off + t * 3 + 2, none⟩ = some (.int .i64 y3)) (first | exact hS1 | exact hS2 | go_keep) (first
        | (go_at_call 30; refine (HC1.out _).mono ?_; rintro e w2 ⟨rfl, hb2⟩; replace hb2 : Below w1.heap.size w1 w2 := ⟨hb2.os, hb2.tape, hb2.output, hb2.size, hb2.block⟩; have hS2 := hSS.out w2 hb2))
      have hB2 := HB1.out.trans (hb2.mono HB1.out.size)
      clear hS1 hS2 q0 q1 q2 b0 b1 b2
      rcases B with _ | _
      · go_wp2
        go_roundw
        case rel => exact ⟨k + 1, t, hlt, by simp, rfl, ht, hid (by rw [HN.out]; rfl), hid hB2⟩
        case measure => simp [intOf]; omega
      · go_wp2
        go_roundw
        case rel => exact ⟨k + 1, k, hlt, by simp, rfl, hlt, hid (by rw [HN.out]; rfl), hid hB2⟩
        case measure => simp [intOf]; omega
    · obtain rfl : k = n := by omega
      go_wp2
      go_ret
      exact ⟨by rw [hR.out, ← HT.out]; rfl, HB.out⟩
def besR (l : List Off) : Int := if l = [] then 0 else (bst l l.length : Nat)
def besE (l : List Off) : Int := if l = [] then 6 else 0
set_option maxRecDepth 100000 in
theorem best_any {v : Value} {l : List Off} {w : World} (h : OLie w v l) : Calls Try.prog 17 #[v] w fun e w' => e = .returned (.tuple #[.int .i64 (besR l), .int .i64 (besE l)]) ∧ Below w.heap.size w w' := by
  by_cases hl : l = []
  · have e1 : besR l = 0 := if_pos hl
    have e2 : besE l = 6 := if_pos hl
    rw [e1, e2]
    subst hl
    obtain ⟨ao, cap, rfl, _, _, _⟩ := h
    clear e1 e2
    go_enter Try.func17, Try.ntmps17
    go_wp2
    go_ret2
    exact ⟨rfl, Below.refl _ _⟩
  · have e1 : besR l = (bst l l.length : Nat) := if_neg hl
    have e2 : besE l = 0 := if_neg hl
    have hp := List.length_pos_iff.2 hl
    rw [e1, e2]
    have cU := unbeaten_any h hp
    obtain ⟨R, hR⟩ : ∃ R, R = bst l l.length := ⟨_, rfl⟩
    rw [← hR] at cU ⊢
    obtain ⟨ao, cap, rfl, h1, h2, _⟩ := h
    clear e1 e2 hR hl
    obtain ⟨n, hn⟩ : ∃ n, n = l.length := ⟨_, rfl⟩
    rw [← hn] at cU hp h1 ⊢
    clear hn
    have hz : ((n : Int) == 0) = false := by simp; omega
    go_enter Try.func17, Try.ntmps17
    go_wp2_with (first | (go_at_call 29; refine cU.mono ?_; rintro e w' ⟨rfl, hb⟩))
    go_ret2
    exact ⟨rfl, hb⟩
end Go.Proofs.Ytmemelamgldpcaa
