import Derived.Test.YtokjlgebkihimaaGreatFg
namespace Go.Proofs.YtokjlgebkihimaaGreat
open Go.RowKit Go.Maps

/-- the data block that a spot names, or 0 -/
def nm (G : Geo) (B : List ByteArray) (n : Ino) (inn pl : Nat) : Nat := (nmd G B n inn pl).toNat
set_option maxRecDepth 100000 in
theorem nm_eq (G : Geo) (B : List ByteArray) (n : Ino) (inn pl : Nat) : nmd G B n inn pl = (nm G B n inn pl : Int) := by
  unfold nm nmd datN
  split <;> omega
set_option maxRecDepth 100000 in
theorem nm_lt {G : Geo} (hG : G.Ok) (B : List ByteArray) (n : Ino) (inn pl : Nat) : nm G B n inn pl < G.n := by
  have h1 := hG.c4
  have h2 := hG.sum
  unfold nm nmd datN
  split <;> omega
set_option maxRecDepth 100000 in
theorem named_nm {G : Geo} {p q cap m : Nat} {w : World} {F B : List ByteArray} (n : Ino) (inn pl : Nat) (hi : inn < G.n) (hp : inn = 0 → pl < 8) (h : VI G p q cap m w F B) : Calls Tryz.prog 156 #[.pointer (some ⟨p, 0, none⟩), n.v, .agg #[.int .i64 (inn : Int), .int .i64 (pl : Int)]] w fun e w' => e = .returned (.int .i64 (nm G B n inn pl : Int)) ∧ Below w.heap.size w w' := by
  rw [← nm_eq]
  exact named_any n inn pl hi hp h
/-- where the block of an index is named -/
def spt (G : Geo) (B : List ByteArray) (n : Ino) (i : Nat) : Option (Nat × Nat) :=
  if i < 6 then some (0, i)
  else if i < 70 then (if nm G B n 0 6 = 0 then none else some (nm G B n 0 6, i - 6))
  else if nm G B n 0 7 = 0 then none
  else if nm G B n (nm G B n 0 7) ((i - 70) / 64) = 0 then none
  else some (nm G B n (nm G B n 0 7) ((i - 70) / 64), (i - 70) % 64)
def sptV (o : Option (Nat × Nat)) : Value := .agg #[.int .i64 ((o.getD (0, 0)).1 : Int), .int .i64 ((o.getD (0, 0)).2 : Int)]
set_option maxRecDepth 100000 in
theorem ret56 {act : Act} {w : World} {R : Nat} {a b : Int} {y : Bool} {post : Ending → World → Prop} (hb : Spt R w a b) (h2 : act.tmps.getD 6 undef = .pointer (some ⟨R, 0, none⟩)) (h3 : act.tmps.getD 7 undef = .bool y) (hd : act.defers = []) (hp : post (.returned (.tuple #[.agg #[.int .i64 a, .int .i64 b], .bool y])) w) : bodyPost Tryz.prog Tryz.f169 post .ret act w := by
  refine bodyPost_ret (v := .tuple #[.agg #[.int .i64 a, .int .i64 b], .bool y]) ?_ hd hp
  rw [results_cell_tmp (p := 6) (u := 7) (ty := 211) rfl, h2, h3]
  simp [asAddr, Result.andThen, load_Spt hb]
set_option maxRecDepth 100000 in
theorem Way.kept {q g B : Nat} {w w' : World} {a b c d : Int} (h : Way q w a b c d) (k : Kept B g w w') (hb : q < B) (hg : q ≠ g) : Way q w' a b c d := (k.block q hb hg).trans h
set_option maxRecDepth 100000 in
theorem Spt.kept {q g B : Nat} {w w' : World} {a b : Int} (h : Spt q w a b) (k : Kept B g w w') (hb : q < B) (hg : q ≠ g) : Spt q w' a b := (k.block q hb hg).trans h
/-- what stands in memory ahead of spotOf's loop -/
structure SP (G : Geo) (p q cap m : Nat) (F B : List ByteArray) (w0 : World) (n : Ino) (Y : Nat) (a b c d : Int) (w : World) : Prop where
  v : VI G p q cap m w F B
  x : Box w0.heap.size w n
  s : Spt (w0.heap.size + 1) w 0 0
  y : Way Y w a b c d
  lt : w0.heap.size + 1 < Y
  bel : Below w0.heap.size w0 w
set_option maxRecDepth 100000 in
theorem SP.below {G : Geo} {p q cap m : Nat} {F B : List ByteArray} {w0 : World} {n : Ino} {Y : Nat} {a b c d : Int} {w w' : World} (h : SP G p q cap m F B w0 n Y a b c d w) (k : Below w.heap.size w w') : SP G p q cap m F B w0 n Y a b c d w' := ⟨h.v.below k, h.x.below k, h.s.below k, h.y.below k, h.lt, h.bel.next k⟩
set_option maxRecDepth 100000 in
theorem SP.done {G : Geo} {p q cap m : Nat} {F B : List ByteArray} {w0 : World} {n : Ino} {Y : Nat} {a b c d : Int} {w w' : World} (h : SP G p q cap m F B w0 n Y a b c d w) (k : Kept w.heap.size (w0.heap.size + 1) w w') : Below w0.heap.size w0 w' := h.bel.trans ⟨k.os, k.tape, k.output, k.size, fun j hj => k.block j (by have := h.bel.size; omega) (by omega)⟩
set_option maxRecDepth 100000 in
theorem SP.drew {G : Geo} {p q cap m : Nat} {F B : List ByteArray} {w0 : World} {n : Ino} {Y : Nat} {a b c d : Int} {w w' : World} (h : SP G p q cap m F B w0 n Y a b c d w) (k : ∃ j, w' = w.drewN j) : SP G p q cap m F B w0 n Y a b c d w' := by
  obtain ⟨j, rfl⟩ := k
  exact h.below ((Below.refl _ _).dN _)
set_option maxRecDepth 100000 in
theorem SP.make {G : Geo} {p q cap m : Nat} {F B : List ByteArray} {w0 : World} {n : Ino} {a b c d : Int} {w2 w3 : World} (hv : VI G p q cap m w2 F B) (hx : Box w0.heap.size w2 n) (hs : Spt (w0.heap.size + 1) w2 0 0) (hb : Below w0.heap.size w0 w2) (hy : Way w2.heap.size w3 a b c d) (hB : Below w2.heap.size w2 w3) : SP G p q cap m F B w0 n w2.heap.size a b c d w3 :=
  ⟨hv.below hB, hx.below hB, hs.below hB, hy, lt_of_block hs, hb.next hB⟩
set_option maxRecDepth 100000 in
set_option maxHeartbeats 2000000 in
theorem spot0 {G : Geo} {p q cap m : Nat} {w : World} {F B : List ByteArray} (n : Ino) (i : Nat) (hi : i < 4166) (h6 : i < 6) (h : VI G p q cap m w F B) : Calls Tryz.prog 169 #[.pointer (some ⟨p, 0, none⟩), n.v, .int .i64 (i : Int)] w fun e w' => e = .returned (.tuple #[.agg #[.int .i64 0, .int .i64 (i : Int)], .bool true]) ∧ Below w.heap.size w w' := by
  have HV := hid h
  have HG := hid h.ok
  have HWy := hid (wayTo_any i hi)
  unfold wayV at HWy
  rw [if_pos h6] at HWy
  clear h h6 hi
  obtain ⟨k, l, z, a0, b0, c0, d0, e0, f0, s0, t0⟩ := n
  simp only [Ino.v] at *
  go_enter Tryz.func169, Tryz.ntmps169
  go_wp2_with (go_at_call 154; fail)
  obtain ⟨w1, hw1⟩ : ∃ w1, w1 = (w.alloc (.cells #[.int .i64 k, .int .i64 l, .int .i64 z, .int .i64 a0, .int .i64 b0, .int .i64 c0, .int .i64 d0, .int .i64 e0, .int .i64 f0, .int .i64 s0, .int .i64 t0] 36)).alloc (.cells #[.int .i64 0, .int .i64 0] 211) := ⟨_, rfl⟩
  have hB1 : Below w.heap.size w w1 := by rw [hw1]; exact (below_alloc w _).next (below_alloc _ _)
  have hX1 : Box w.heap.size w1 ⟨k, l, z, a0, b0, c0, d0, e0, f0, s0, t0⟩ := by rw [hw1]; exact Box.below (box_at _ _) (below_alloc _ _)
  have hS1 : Spt (w.heap.size + 1) w1 0 0 := by rw [hw1]; exact (show _ = _ by have := box_at (w.alloc (.cells #[.int .i64 k, .int .i64 l, .int .i64 z, .int .i64 a0, .int .i64 b0, .int .i64 c0, .int .i64 d0, .int .i64 e0, .int .i64 f0, .int .i64 s0, .int .i64 t0] 36)) (.cells #[.int .i64 0, .int .i64 0] 211); simpa using this)
  rw [← hw1]
  clear hw1
  refine (HWy.out _).mono ?_
  rintro e w2 ⟨rfl, hb2⟩
  have HV2 := hid ((HV.out.below hB1).below hb2)
  have HX2 := hid (hX1.below hb2)
  have HS2 := hid (hS1.below hb2)
  have HB2 := hid (hB1.next hb2)
  clear hB1 hX1 hS1 hb2
  go_wp2_with (go_at_call 155; fail)
  obtain ⟨w3, hw3⟩ : ∃ w3, w3 = w2.alloc (.cells #[.int .i64 (i : Int), .int .i64 0, .int .i64 0, .int .i64 1] 207) := ⟨_, rfl⟩
  have HSP : Hid (SP G p q cap m F B w ⟨k, l, z, a0, b0, c0, d0, e0, f0, s0, t0⟩ w2.heap.size (i : Int) 0 0 1 w3) := by rw [hw3]; exact SP.make HV2.out HX2.out HS2.out HB2.out (box_at _ _) (below_alloc _ _)
  rw [← hw3]
  clear hw3
  refine (naming1 _ HSP.out.y).mono ?_
  rintro e w4 ⟨rfl, hd4⟩
  have HSQ := hid (HSP.out.drew hd4)
  clear hd4 HSP HV2 HX2 HS2 HB2 HV
  go_wp2
  refine wp_loop_rounds 1 ?_
  rw [rounds_succ]
  go_wp2_with (first
    | (go_at_call 158; refine (last1 _ HSQ.out.y).mono ?_; rintro e w9 ⟨rfl, hd9⟩
       have HSL := hid (HSQ.out.drew hd9)
       clear hd9)
    | ((with_reducible refine at_Spt (w.heap.size + 1) 0 0 0 (i : Int) ?_ ?_ HSL.out.s ?_); rfl; rfl; intro wz hz kz))
  exact ret56 hz rfl rfl rfl ⟨rfl, HSL.out.done kz⟩
set_option maxRecDepth 100000 in
set_option maxHeartbeats 2000000 in
theorem spot1 {G : Geo} {p q cap m : Nat} {w : World} {F B : List ByteArray} (n : Ino) (i : Nat) (hi : i < 4166) (h6 : ¬ i < 6) (h70 : i < 70) (h : VI G p q cap m w F B) : Calls Tryz.prog 169 #[.pointer (some ⟨p, 0, none⟩), n.v, .int .i64 (i : Int)] w fun e w' => e = .returned (.tuple #[.agg #[.int .i64 ((if nm G B n 0 6 = 0 then 0 else nm G B n 0 6 : Nat) : Int), .int .i64 ((if nm G B n 0 6 = 0 then 0 else i - 6 : Nat) : Int)], .bool (decide (nm G B n 0 6 ≠ 0))]) ∧ Below w.heap.size w w' := by
  have HV := hid h
  have HG := hid h.ok
  have HWy := hid (wayTo_any i hi)
  unfold wayV at HWy
  rw [if_neg h6, if_pos h70] at HWy
  have HN := hid (fun w' (hv : VI G p q cap m w' F B) => named_nm (w := w') n 0 6 (by have := HG.out.c4; have := HG.out.sum; omega) (fun _ => by omega) hv)
  obtain ⟨x, hx⟩ : ∃ x : Nat, (x : Int) = (i : Int) - 6 := ⟨i - 6, by omega⟩
  rw [← hx] at HWy
  rw [show i - 6 = x by omega]
  obtain ⟨A, hA⟩ : ∃ A, A = nm G B n 0 6 := ⟨_, rfl⟩
  rw [← hA] at HN ⊢
  clear h h6 h70 hi hx hA
  obtain ⟨k, l, z, a0, b0, c0, d0, e0, f0, s0, t0⟩ := n
  simp only [Ino.v] at *
  go_enter Tryz.func169, Tryz.ntmps169
  go_wp2_with (go_at_call 154; fail)
  obtain ⟨w1, hw1⟩ : ∃ w1, w1 = (w.alloc (.cells #[.int .i64 k, .int .i64 l, .int .i64 z, .int .i64 a0, .int .i64 b0, .int .i64 c0, .int .i64 d0, .int .i64 e0, .int .i64 f0, .int .i64 s0, .int .i64 t0] 36)).alloc (.cells #[.int .i64 0, .int .i64 0] 211) := ⟨_, rfl⟩
  have hB1 : Below w.heap.size w w1 := by rw [hw1]; exact (below_alloc w _).next (below_alloc _ _)
  have hX1 : Box w.heap.size w1 ⟨k, l, z, a0, b0, c0, d0, e0, f0, s0, t0⟩ := by rw [hw1]; exact Box.below (box_at _ _) (below_alloc _ _)
  have hS1 : Spt (w.heap.size + 1) w1 0 0 := by rw [hw1]; exact (show _ = _ by have := box_at (w.alloc (.cells #[.int .i64 k, .int .i64 l, .int .i64 z, .int .i64 a0, .int .i64 b0, .int .i64 c0, .int .i64 d0, .int .i64 e0, .int .i64 f0, .int .i64 s0, .int .i64 t0] 36)) (.cells #[.int .i64 0, .int .i64 0] 211); simpa using this)
  rw [← hw1]
  clear hw1
  refine (HWy.out _).mono ?_
  rintro e w2 ⟨rfl, hb2⟩
  have HV2 := hid ((HV.out.below hB1).below hb2)
  have HX2 := hid (hX1.below hb2)
  have HS2 := hid (hS1.below hb2)
  have HB2 := hid (hB1.next hb2)
  clear hB1 hX1 hS1 hb2
  go_wp2_with (go_at_call 155; fail)
  obtain ⟨w3, hw3⟩ : ∃ w3, w3 = w2.alloc (.cells #[.int .i64 6, .int .i64 (x : Int), .int .i64 0, .int .i64 2] 207) := ⟨_, rfl⟩
  have HSP : Hid (SP G p q cap m F B w ⟨k, l, z, a0, b0, c0, d0, e0, f0, s0, t0⟩ w2.heap.size 6 (x : Int) 0 2 w3) := by rw [hw3]; exact SP.make HV2.out HX2.out HS2.out HB2.out (box_at _ _) (below_alloc _ _)
  rw [← hw3]
  clear hw3
  refine (naming2 _ HSP.out.y).mono ?_
  rintro e w4 ⟨rfl, hd4⟩
  have HSQ := hid (HSP.out.drew hd4)
  clear hd4 HSP HV2 HX2 HS2 HB2 HV
  go_wp2
  refine wp_loop_rounds 2 ?_
  rw [rounds_succ]
  obtain ⟨y0, y1, y2, y3⟩ := HSQ.out.y.cells
  obtain ⟨c0', c1', c2', c3', c4', c5', c6', c7', c8', c9', c10'⟩ := HSQ.out.x.cells
  go_wp2_with (go_at_call 156; fail)
  refine (HN.out _ HSQ.out.v).mono ?_
  rintro e w5 ⟨rfl, hb5⟩
  have HS5 := hid (HSQ.out.below hb5)
  clear hb5 y0 y1 y2 y3 c0' c1' c2' c3' c4' c5' c6' c7' c8' c9' c10'
  by_cases hA0 : A = 0
  · subst hA0
    dsimp only
    go_wp2_with (first
      | ((with_reducible refine at_Spt (w.heap.size + 1) 0 0 0 0 ?_ ?_ HS5.out.s ?_); rfl; rfl; intro wz hz kz))
    exact ret56 hz rfl rfl rfl ⟨rfl, HS5.out.done kz⟩
  · have hA1 : ¬ ((A : Int) = 0) := by omega
    dsimp only
    clear hA0
    go_wp2_with (go_at_call 158; fail)
    rw [rounds_succ]
    go_wp2_with (first
      | (go_at_call 158; refine (last2 _ HS5.out.y).mono ?_; rintro e w9 ⟨rfl, hd9⟩
         have HSL := hid (HS5.out.drew hd9)
         clear hd9)
      | ((with_reducible refine at_Spt (w.heap.size + 1) 0 0 (A : Int) (x : Int) ?_ ?_ HSL.out.s ?_); rfl; rfl; intro wz hz kz))
    exact ret56 hz rfl rfl rfl ⟨rfl, HSL.out.done kz⟩
set_option maxRecDepth 100000 in
set_option maxHeartbeats 2000000 in
theorem spot2 {G : Geo} {p q cap m : Nat} {w : World} {F B : List ByteArray} (n : Ino) (i : Nat) (hi : i < 4166) (h70 : ¬ i < 70) (h : VI G p q cap m w F B) : Calls Tryz.prog 169 #[.pointer (some ⟨p, 0, none⟩), n.v, .int .i64 (i : Int)] w fun e w' => e = .returned (.tuple #[.agg #[.int .i64 ((if nm G B n 0 7 = 0 then 0 else if nm G B n (nm G B n 0 7) ((i - 70) / 64) = 0 then 0 else nm G B n (nm G B n 0 7) ((i - 70) / 64) : Nat) : Int), .int .i64 ((if nm G B n 0 7 = 0 then 0 else if nm G B n (nm G B n 0 7) ((i - 70) / 64) = 0 then 0 else (i - 70) % 64 : Nat) : Int)], .bool (if nm G B n 0 7 = 0 then false else decide (nm G B n (nm G B n 0 7) ((i - 70) / 64) ≠ 0))]) ∧ Below w.heap.size w w' := by
  have HV := hid h
  have HG := hid h.ok
  have HWy := hid (wayTo_any i hi)
  unfold wayV at HWy
  rw [if_neg (by omega), if_neg h70] at HWy
  have HN := hid (fun w' (hv : VI G p q cap m w' F B) => named_nm (w := w') n 0 7 (by have := HG.out.c4; have := HG.out.sum; omega) (fun _ => by omega) hv)
  obtain ⟨x, hx⟩ : ∃ x : Nat, x = (i - 70) / 64 := ⟨_, rfl⟩
  obtain ⟨y, hy⟩ : ∃ y : Nat, y = (i - 70) % 64 := ⟨_, rfl⟩
  rw [show ((i : Int) - 70) / 64 = (x : Int) by omega, show ((i : Int) - 70) % 64 = (y : Int) by omega] at HWy
  rw [← hx, ← hy]
  have HM := hid (fun w' (hv : VI G p q cap m w' F B) => fun (h0 : nm G B n 0 7 ≠ 0) => named_nm (w := w') n (nm G B n 0 7) x (nm_lt HG.out _ _ _ _) (fun e => absurd e h0) hv)
  obtain ⟨A, hA⟩ : ∃ A, A = nm G B n 0 7 := ⟨_, rfl⟩
  rw [← hA] at HN HM ⊢
  obtain ⟨C, hC⟩ : ∃ C, C = nm G B n A x := ⟨_, rfl⟩
  rw [← hC] at HM ⊢
  clear h h70 hi hx hy hA hC
  obtain ⟨k, l, z, a0, b0, c0, d0, e0, f0, s0, t0⟩ := n
  simp only [Ino.v] at *
  go_enter Tryz.func169, Tryz.ntmps169
  go_wp2_with (go_at_call 154; fail)
  obtain ⟨w1, hw1⟩ : ∃ w1, w1 = (w.alloc (.cells #[.int .i64 k, .int .i64 l, .int .i64 z, .int .i64 a0, .int .i64 b0, .int .i64 c0, .int .i64 d0, .int .i64 e0, .int .i64 f0, .int .i64 s0, .int .i64 t0] 36)).alloc (.cells #[.int .i64 0, .int .i64 0] 211) := ⟨_, rfl⟩
  have hB1 : Below w.heap.size w w1 := by rw [hw1]; exact (below_alloc w _).next (below_alloc _ _)
  have hX1 : Box w.heap.size w1 ⟨k, l, z, a0, b0, c0, d0, e0, f0, s0, t0⟩ := by rw [hw1]; exact Box.below (box_at _ _) (below_alloc _ _)
  have hS1 : Spt (w.heap.size + 1) w1 0 0 := by rw [hw1]; exact (show _ = _ by have := box_at (w.alloc (.cells #[.int .i64 k, .int .i64 l, .int .i64 z, .int .i64 a0, .int .i64 b0, .int .i64 c0, .int .i64 d0, .int .i64 e0, .int .i64 f0, .int .i64 s0, .int .i64 t0] 36)) (.cells #[.int .i64 0, .int .i64 0] 211); simpa using this)
  rw [← hw1]
  clear hw1
  refine (HWy.out _).mono ?_
  rintro e w2 ⟨rfl, hb2⟩
  have HV2 := hid ((HV.out.below hB1).below hb2)
  have HX2 := hid (hX1.below hb2)
  have HS2 := hid (hS1.below hb2)
  have HB2 := hid (hB1.next hb2)
  clear hB1 hX1 hS1 hb2
  go_wp2_with (go_at_call 155; fail)
  obtain ⟨w3, hw3⟩ : ∃ w3, w3 = w2.alloc (.cells #[.int .i64 7, .int .i64 (x : Int), .int .i64 (y : Int), .int .i64 3] 207) := ⟨_, rfl⟩
  have HSP : Hid (SP G p q cap m F B w ⟨k, l, z, a0, b0, c0, d0, e0, f0, s0, t0⟩ w2.heap.size 7 (x : Int) (y : Int) 3 w3) := by rw [hw3]; exact SP.make HV2.out HX2.out HS2.out HB2.out (box_at _ _) (below_alloc _ _)
  rw [← hw3]
  clear hw3
  refine (naming3 _ HSP.out.y).mono ?_
  rintro e w4 ⟨rfl, hd4⟩
  have HSQ := hid (HSP.out.drew hd4)
  clear hd4 HSP HV2 HX2 HS2 HB2 HV
  go_wp2
  refine wp_loop_rounds 3 ?_
  rw [rounds_succ]
  obtain ⟨y0, y1, y2, y3⟩ := HSQ.out.y.cells
  obtain ⟨c0', c1', c2', c3', c4', c5', c6', c7', c8', c9', c10'⟩ := HSQ.out.x.cells
  go_wp2_with (go_at_call 156; fail)
  refine (HN.out _ HSQ.out.v).mono ?_
  rintro e w5 ⟨rfl, hb5⟩
  have HS5 := hid (HSQ.out.below hb5)
  clear hb5 y0 y1 y2 y3 c0' c1' c2' c3' c4' c5' c6' c7' c8' c9' c10'
  by_cases hA0 : A = 0
  · subst hA0
    dsimp only
    go_wp2_with (first
      | ((with_reducible refine at_Spt (w.heap.size + 1) 0 0 0 0 ?_ ?_ HS5.out.s ?_); rfl; rfl; intro wz hz kz))
    exact ret56 hz rfl rfl rfl ⟨rfl, HS5.out.done kz⟩
  · have hA1 : ¬ ((A : Int) = 0) := by omega
    have HM2 := hid (HM.out _ HS5.out.v hA0)
    dsimp only
    clear hA0 HM HN
    go_wp2_with (go_at_call 156; fail)
    rw [rounds_succ]
    obtain ⟨y0, y1, y2, y3⟩ := HS5.out.y.cells
    obtain ⟨c0', c1', c2', c3', c4', c5', c6', c7', c8', c9', c10'⟩ := HS5.out.x.cells
    go_wp2_with (go_at_call 156; fail)
    refine HM2.out.mono ?_
    rintro e w6 ⟨rfl, hb6⟩
    have HS6 := hid (HS5.out.below hb6)
    clear hb6 y0 y1 y2 y3 c0' c1' c2' c3' c4' c5' c6' c7' c8' c9' c10' HM2
    by_cases hC0 : C = 0
    · subst hC0
      dsimp only
      go_wp2_with (first
        | ((with_reducible refine at_Spt (w.heap.size + 1) 0 0 0 0 ?_ ?_ HS6.out.s ?_); rfl; rfl; intro wz hz kz))
      exact ret56 hz rfl rfl rfl ⟨rfl, HS6.out.done kz⟩
    · have hC1 : ¬ ((C : Int) = 0) := by omega
      dsimp only
      clear hC0
      go_wp2_with (go_at_call 158; fail)
      rw [rounds_succ]
      go_wp2_with (first
        | (go_at_call 158; refine (last3 _ HS6.out.y).mono ?_; rintro e w9 ⟨rfl, hd9⟩
           have HSL := hid (HS6.out.drew hd9)
           clear hd9)
        | ((with_reducible refine at_Spt (w.heap.size + 1) 0 0 (C : Int) (y : Int) ?_ ?_ HSL.out.s ?_); rfl; rfl; intro wz hz kz))
      exact ret56 hz rfl rfl rfl ⟨rfl, HSL.out.done kz⟩
set_option maxRecDepth 100000 in
theorem spotOf_any {G : Geo} {p q cap m : Nat} {w : World} {F B : List ByteArray} (n : Ino) (i : Nat) (hi : i < 4166) (h : VI G p q cap m w F B) : Calls Tryz.prog 169 #[.pointer (some ⟨p, 0, none⟩), n.v, .int .i64 (i : Int)] w fun e w' => e = .returned (.tuple #[sptV (spt G B n i), .bool (spt G B n i).isSome]) ∧ Below w.heap.size w w' := by
  unfold spt sptV
  by_cases h6 : i < 6
  · simp only [if_pos h6, Option.getD_some, Option.isSome_some]
    exact spot0 n i hi h6 h
  · simp only [if_neg h6]
    by_cases h70 : i < 70
    · simp only [if_pos h70]
      have := spot1 n i hi h6 h70 h
      by_cases hA : nm G B n 0 6 = 0
      · simp only [if_pos hA, Option.getD_none, Option.isSome_none] at this ⊢
        simpa [hA] using this
      · simp only [if_neg hA, Option.getD_some, Option.isSome_some] at this ⊢
        simpa [hA] using this
    · simp only [if_neg h70]
      have := spot2 n i hi h70 h
      by_cases hA : nm G B n 0 7 = 0
      · simp only [if_pos hA, Option.getD_none, Option.isSome_none] at this ⊢
        simpa using this
      · simp only [if_neg hA] at this ⊢
        by_cases hC : nm G B n (nm G B n 0 7) ((i - 70) / 64) = 0
        · simp only [if_pos hC, Option.getD_none, Option.isSome_none] at this ⊢
          simpa [hC] using this
        · simp only [if_neg hC, Option.getD_some, Option.isSome_some] at this ⊢
          simpa [hC] using this
end Go.Proofs.YtokjlgebkihimaaGreat
