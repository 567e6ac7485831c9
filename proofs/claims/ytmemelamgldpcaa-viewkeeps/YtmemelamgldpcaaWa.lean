import Derived.Deep.RegionHeld3
import Derived.Test.YtmemelamgldpcaaVa
import Derived.Test.YtmemelamgldpcaaQf
namespace Go.Proofs.Ytmemelamgldpcaa.Cd
open Go.RowKit

theorem nxt {a b c : World} (h : Below a.heap.size a b) (k : Below b.heap.size b c) : Below a.heap.size a c := h.trans (k.mono h.size)
theorem var_a {w w5 : World} {o : Obj} (h : Below (w.alloc o).heap.size (w.alloc o) w5) : w5.heap[w.heap.size]? = some o := (h.block _ (by show _ < (w.heap.push o).size; simp)).trans (by show (w.heap.push o)[_]? = _; simp)
theorem two_cells {w : World} {g : Nat} {a b : Value} {t : TypeId} (hh : w.heap[g]? = some (.cells #[a, b] t (0, 0))) : w.cell? ⟨g, 0, none⟩ = some a ∧ w.cell? ⟨g, 1, none⟩ = some b := by
  refine ⟨?_, ?_⟩ <;> simp [World.cell?, hh]
theorem frees {w : World} {g : Nat} {cs : Array Value} {t : TypeId} (hh : w.heap[g]? = some (.cells cs t (0, 0))) (i : Nat) : w.frozen? ⟨g, i, none⟩ = false := by simp [World.frozen?, hh]
theorem keptV {v g : Nat} {o : Obj} {w w' : World} (k : Kept w.heap.size g w w') (h : w.heap[v]? = some o) (h2 : v ≠ g) : w'.heap[v]? = some o := (k.block v (lt_of_block h) h2).trans h
theorem bel_kept {w0 w w' : World} {g : Nat} (h : Below w0.heap.size w0 w) (k : Kept w.heap.size g w w') (hg : w0.heap.size ≤ g) : Below w0.heap.size w0 w' := h.trans (k.below h.size hg)
theorem set2 {w0 w : World} {g : Nat} (h : Below w0.heap.size w0 w) (hg : w0.heap.size ≤ g) (a b : Value) : Below w0.heap.size w0 ((w.setCell ⟨g, 0, none⟩ a).setCell ⟨g, 1, none⟩ b) := (h.setCell hg _).setCell hg _
/-- is it what a node may keep? -/
def rgt (x y : Int) : Bool := up x 1099511627776 && up y x
theorem rgt_iff (x y : Int) : rgt x y = true ↔ (0 ≤ x ∧ x ≤ 1099511627776) ∧ 0 ≤ y ∧ y ≤ x := by unfold rgt; rw [Bool.and_eq_true, up_iff, up_iff]
set_option maxRecDepth 100000 in
theorem right_any (x y : Int) (w : World) : Calls Try.prog 32 #[.agg #[.int .i64 x, .int .i64 y]] w fun e w' => e = .returned (.bool (rgt x y)) ∧ Below w.heap.size w w' := by
  unfold rgt
  have H1 := hid (fun W => isUpTo_any x 1099511627776 W)
  have H2 := hid (fun W => isUpTo_any y x W)
  obtain ⟨p, hp⟩ : ∃ p, p = up x 1099511627776 := ⟨_, rfl⟩
  obtain ⟨q, hq⟩ : ∃ q, q = up y x := ⟨_, rfl⟩
  rw [← hp] at H1 ⊢
  rw [← hq] at H2 ⊢
  clear hp hq
  rcases p with _ | _
  · rw [Bool.false_and]
    go_enter Try.func32, Try.ntmps32
    go_wp2_with (first | (go_at_call 24; refine (H1.out _).mono ?_; rintro e w' ⟨rfl, rfl⟩))
    go_ret
    exact ⟨rfl, below_alloc _ _⟩
  · rw [Bool.true_and]
    go_enter Try.func32, Try.ntmps32
    go_wp2_with (go_at_call 24; fail)
    refine (H1.out _).mono ?_
    rintro e w' ⟨rfl, rfl⟩
    clear H1
    go_wp2_with (first | (go_at_call 24; refine (H2.out _).mono ?_; rintro e w' ⟨rfl, rfl⟩))
    go_ret
    exact ⟨rfl, below_alloc _ _⟩
/-- what a node keeps, as bytes -/
def vL (x y : Nat) : List UInt8 := 86 :: (fEnc x 8 ++ fEnc y 8)
theorem vL_len (x y : Nat) : (vL x y).length = 17 := by unfold vL; rw [List.length_cons, List.length_append, fEnc_len, fEnc_len]
def vB (x y : Nat) : ByteArray := st (sealL (bodyL (vL x y)))
theorem vS (x y : Nat) : (⟨#[86]⟩ : ByteArray) ++ st (fEnc x 8 ++ fEnc y 8) = st (vL x y) := by
  apply ByteArray.ext; apply Array.ext'; simp [st, vL]
theorem vS2 (x y : Nat) : (⟨#[86]⟩ : ByteArray) ++ st (fEnc x 8) ++ st (fEnc y 8) = st (vL x y) := by
  apply ByteArray.ext; apply Array.ext'; simp [st, vL]
set_option maxRecDepth 100000 in
set_option maxHeartbeats 1000000 in
theorem encode_no {x y : Int} (h : rgt x y = false) (w : World) : Calls Try.prog 19 #[.agg #[.int .i64 x, .int .i64 y]] w fun e w' => e = .returned (.tuple #[.string ByteArray.empty, .int .i64 1]) ∧ Below w.heap.size w w' := by
  have HR := hid (fun W => right_any x y W)
  rw [h] at HR
  go_enter Try.func19, Try.ntmps19
  go_wp2_with (first
    | (go_at_call 32; refine (HR.out _).mono ?_; rintro e w1 ⟨rfl, hb1⟩))
  go_ret2
  exact ⟨rfl, nxt (below_alloc _ _) hb1⟩
set_option maxRecDepth 100000 in
set_option maxHeartbeats 2000000 in
theorem encode_ok {x y : Nat} (h : rgt x y = true) (w : World) : Calls Try.prog 19 #[.agg #[.int .i64 x, .int .i64 y]] w fun e w' => e = .returned (.tuple #[.string (vB x y), .int .i64 0]) ∧ Below w.heap.size w w' := by
  have HR := hid (fun W => right_any x y W)
  rw [h] at HR
  have hx := (rgt_iff x y).1 h
  have f1 : fitsB (x : Int) ((8 : Nat) : Int) = true := by simp [fitsB, sized]
  have f2 : fitsB (y : Int) ((8 : Nat) : Int) = true := by simp [fitsB, sized]
  have HF1 := hid (fun base g bs W hl hw hb => fixed_w base g x 8 bs (by omega) (Nat.le_refl _) f1 hl W hw hb)
  have HF2 := hid (fun base g bs W hl hw hb => fixed_w base g y 8 bs (by omega) (Nat.le_refl _) f2 hl W hw hb)
  have HK := hid (fun W => block_any (st (vL x y)) (by rw [st_size, vL_len]; decide) W)
  rw [st_list] at HK
  change Hid (∀ W, Calls Try.prog 35 #[.string (st (vL x y))] W fun e w' => e = .returned (.tuple #[.string (vB x y), .int .i64 0]) ∧ Below W.heap.size W w') at HK
  obtain ⟨S, hS⟩ : ∃ S, S = st (vL x y) := ⟨_, rfl⟩
  obtain ⟨B, hB⟩ : ∃ B, B = vB x y := ⟨_, rfl⟩
  have hA : (⟨#[86]⟩ : ByteArray) ++ st (fEnc x 8 ++ fEnc y 8) = S := by rw [hS]; exact vS x y
  obtain ⟨O, hO⟩ : ∃ O, O = st (fEnc x 8 ++ fEnc y 8) := ⟨_, rfl⟩
  have hOl : O.size ≤ 16 := by rw [hO, st_size, List.length_append, fEnc_len, fEnc_len]; decide
  rw [← hO] at hA
  rw [← hS, ← hB] at HK
  rw [← hB]
  have HO := hid hO
  clear hS hB hO h f1 f2 hx
  go_enter Try.func19, Try.ntmps19
  go_wp2_with (first
    | (go_at_call 32; refine (HR.out _).mono ?_; rintro e w1 ⟨rfl, hb1⟩; have HV := hid (var_a hb1); have HB := hid (nxt (below_alloc _ _) hb1); clear hb1)
    | (go_at_call 33; refine (new_any _).mono ?_; rintro e w2 ⟨rfl, hw2⟩; have HW := hid (WIs.new w1 w1.heap.size); rw [← hw2] at HW; have hlt := lt_of_block HV.out; have HV2 : Hid (w2.heap[w.heap.size]? = some (.cells #[.int .i64 x, .int .i64 y] 44 (0, 0))) := hid (by rw [hw2]; exact (Below.heap_alloc w1 _ _ hlt).trans HV.out); have hs2 : w2.heap.size = w1.heap.size + 1 := (by rw [hw2]; simp); have HB2 : Hid (Below w.heap.size w w2) := hid (by rw [hw2]; exact nxt HB.out (below_alloc _ _)); obtain ⟨q0, q1⟩ := two_cells HV2.out; clear hw2)
    | (go_at_call 34; have hk := HW3; clear hk; refine (HF2.out _ _ _ _ (by rw [List.length_append, fEnc_len]; simp) HW3.out (by have := HK3.out.size; omega)).mono ?_; rintro e w4 ⟨rfl, hw4, hk4⟩; have HW4 := hid hw4; have HK4 := hid hk4; clear hw4 hk4)
    | (go_at_call 34; refine (HF1.out _ _ _ _ (by simp) HW.out (by omega)).mono ?_; rintro e w3 ⟨rfl, hw3, hk3⟩; have HW3 := hid hw3; have HK3 := hid hk3; have HV3 := hid ((hk3.block _ hlt (by omega)).trans HV2.out); clear q0 q1; obtain ⟨q0, q1⟩ := two_cells HV3.out; clear hw3 hk3)
    | (go_at_call 36; refine (out_w _ _ _ _ HW4.out).mono ?_; rintro e w5 ⟨rfl, hw5⟩; have hw5 := hw5.symm; subst hw5; rw [List.nil_append, ← HO.out])
    | (go_at_call 35; refine (HK.out _).mono ?_; rintro e w6 ⟨rfl, hb6⟩))
  go_ret2
  have B3 : Below w.heap.size w w3 := HB2.out.trans (HK3.out.below (by have := HB.out.size; omega) (by have := HB.out.size; omega))
  have B4 : Below w.heap.size w w4 := B3.trans (HK4.out.below (by have := HB.out.size; omega) (by have := HB.out.size; omega))
  exact ⟨rfl, nxt B4 hb6⟩
end Go.Proofs.Ytmemelamgldpcaa.Cd
