import Derived.Test.YtokjlgebkihimaaGreatFc
import Derived.Deep.RegionHeld3
namespace Go.Proofs.YtokjlgebkihimaaGreat
open Go.RowKit Go.Maps

set_option maxRecDepth 100000 in
theorem bel_self {w w' : World} (h : Below w.heap.size w w') : Below w.heap.size w w' := ⟨h.os, h.tape, h.output, h.size, h.block⟩
/-- the blocks with inode i put -/
def putB (G : Geo) (B : List ByteArray) (i : Nat) (n : Ino) : List ByteArray := B.set (G.t + i / 4) (putV (bk B (G.t + i / 4)) ((i % 4 : Nat) : Int) n)
set_option maxRecDepth 100000 in
theorem putV_size (b : ByteArray) (k : Nat) (n : Ino) (hb : b.size = 128) (hk : k < 4) (hn : chkE n = 0) : (putV b (k : Int) n).size = 128 := by
  have h1 : parE b (k : Int) 4 = 0 := by unfold parE; rw [if_pos hb, if_pos]; omega
  have h2 : putE b (k : Int) n = 0 := by unfold putE; rw [if_pos h1]; exact hn
  unfold putV
  rw [if_pos h2]
  exact put_size b k n hb hk
/-- the cells of an inode in memory -/
def cell11 (q : Nat) (w : World) (k l z a b c d e f s t : Int) : Prop := w.cell? ⟨q, 0, none⟩ = some (.int .i64 k) ∧ w.cell? ⟨q, 1, none⟩ = some (.int .i64 l) ∧ w.cell? ⟨q, 2, none⟩ = some (.int .i64 z) ∧ w.cell? ⟨q, 3, none⟩ = some (.int .i64 a) ∧ w.cell? ⟨q, 4, none⟩ = some (.int .i64 b) ∧ w.cell? ⟨q, 5, none⟩ = some (.int .i64 c) ∧ w.cell? ⟨q, 6, none⟩ = some (.int .i64 d) ∧ w.cell? ⟨q, 7, none⟩ = some (.int .i64 e) ∧ w.cell? ⟨q, 8, none⟩ = some (.int .i64 f) ∧ w.cell? ⟨q, 9, none⟩ = some (.int .i64 s) ∧ w.cell? ⟨q, 10, none⟩ = some (.int .i64 t)
set_option maxRecDepth 100000 in
set_option maxHeartbeats 2000000 in
theorem vput_any {G : Geo} {p q cap m : Nat} {w : World} {F B : List ByteArray} (i : Nat) (hi : i < G.z) (n : Ino) (hn : chkE n = 0) (h : VI G p q cap m w F B) : Calls Tryz.prog 61 #[.pointer (some ⟨p, 0, none⟩), .int .i64 (i : Int), n.v] w fun e w' => e = .returned (.tuple #[]) ∧ VI G p q cap m w' F (putB G B i n) ∧ Only [m] w w' := by
  have HO := hid h.ok
  have hbn : G.t + i / 4 < G.n := by have := HO.out.tz; have := HO.out.sum; have := HO.out.c4; omega
  have HSZ := hid (putV_size (bk B (G.t + i / 4)) (i % 4) n (h.size _ hbn) (by omega) hn)
  unfold putB
  obtain ⟨b, hb⟩ : ∃ b, b = G.t + i / 4 := ⟨_, rfl⟩
  have HT := hid (fun w' (hv : VI G p q cap m w' F B) => tableBlock_any (w := w') i hi hv)
  rw [← hb] at HSZ hbn HT ⊢
  have HK := hid (fun w' (hv : VI G p q cap m w' F B) => block_any (w := w') b hbn hv)
  have HP := hid (put_any (bk B b) ((i % 4 : Nat) : Int) n)
  have HC := hid (fun w' (hv : VI G p q cap m w' F B) => change_any (w := w') b hbn (putV (bk B b) ((i % 4 : Nat) : Int) n) HSZ.out hv)
  rw [← mod4] at HP HC ⊢
  have HV := hid h
  clear h HSZ hb hn HO
  obtain ⟨u, hu⟩ : ∃ u, u = putV (bk B b) ((i : Int) % 4) n := ⟨_, rfl⟩
  obtain ⟨x, hx⟩ : ∃ x, x = putE (bk B b) ((i : Int) % 4) n := ⟨_, rfl⟩
  rw [← hu, ← hx] at HP
  rw [← hu] at HC ⊢
  clear hu hx
  obtain ⟨kb, hkb⟩ : ∃ kb, kb = bk B b := ⟨_, rfl⟩
  rw [← hkb] at HK HP
  clear hkb
  obtain ⟨k, l, z, a, bb, c, d, e, f, s, t⟩ := n
  simp only [Ino.v] at HP ⊢
  go_enter Tryz.func61, Tryz.ntmps61
  go_wp2_with (go_at_call 87; fail)
  obtain ⟨w1, hw1⟩ : ∃ w1, w1 = w.alloc (.cells #[.int .i64 k, .int .i64 l, .int .i64 z, .int .i64 a, .int .i64 bb, .int .i64 c, .int .i64 d, .int .i64 e, .int .i64 f, .int .i64 s, .int .i64 t] 36) := ⟨_, rfl⟩
  have hX1 : Box w.heap.size w1 ⟨k, l, z, a, bb, c, d, e, f, s, t⟩ := by rw [hw1]; exact box_at _ _
  have HB1 : Hid (Below w.heap.size w w1) := by rw [hw1]; exact below_alloc w _
  rw [← hw1]
  clear hw1
  have HV1 := hid (HV.out.below HB1.out)
  have HX1 := hid hX1
  have hc1 := hX1.cells
  clear hX1
  go_wp2_with (first
    | (go_at_call 87; refine (HT.out _ HV1.out).mono ?_; rintro e w2 ⟨rfl, hw⟩; have hw := hw.symm; subst hw))
  go_region_held3 (fun w' => w'.cell? ⟨w.heap.size, 0, none⟩ = some (.int .i64 k) ∧ w'.cell? ⟨w.heap.size, 1, none⟩ = some (.int .i64 l) ∧ w'.cell? ⟨w.heap.size, 2, none⟩ = some (.int .i64 z) ∧ w'.cell? ⟨w.heap.size, 3, none⟩ = some (.int .i64 a) ∧ w'.cell? ⟨w.heap.size, 4, none⟩ = some (.int .i64 bb) ∧ w'.cell? ⟨w.heap.size, 5, none⟩ = some (.int .i64 c) ∧ w'.cell? ⟨w.heap.size, 6, none⟩ = some (.int .i64 d) ∧ w'.cell? ⟨w.heap.size, 7, none⟩ = some (.int .i64 e) ∧ w'.cell? ⟨w.heap.size, 8, none⟩ = some (.int .i64 f) ∧ w'.cell? ⟨w.heap.size, 9, none⟩ = some (.int .i64 s) ∧ w'.cell? ⟨w.heap.size, 10, none⟩ = some (.int .i64 t)) (first | exact hc1 | exact hc6 | exact hc5 | go_keep) (first
    | (go_at_call 89; refine (HK.out _ (by exact HV1.out.below ⟨rfl, rfl, rfl, Nat.le_refl _, fun _ _ => rfl⟩)).mono ?_; rintro e w5 ⟨rfl, hb5⟩
       have HB5 : Hid (Below w1.heap.size w1 w5) := hid ⟨hb5.os, hb5.tape, hb5.output, hb5.size, hb5.block⟩
       have hc5 := (HX1.out.below HB5.out).cells
       clear hb5)
    | (go_at_call 88; refine (HP.out _).mono ?_; rintro e w6 ⟨rfl, hb6⟩
       have HB6 : Hid (Below w5.heap.size w5 w6) := hid ⟨hb6.os, hb6.tape, hb6.output, hb6.size, hb6.block⟩
       have hc6 := (HX1.out.below (HB5.out.next HB6.out)).cells
       clear hb6))
  all_goals
    go_wp2_with (first
      | (go_at_call 90; refine (HC.out _ (by exact (HV1.out.below (HB5.out.next HB6.out)).below ⟨rfl, rfl, rfl, Nat.le_refl _, fun _ _ => rfl⟩)).mono ?_; rintro e w7 ⟨rfl, hv7, ho7⟩))
    go_end0
    exact ⟨rfl, hv7, (Only.of_below ((HB1.out.next HB5.out).next HB6.out)).trans ⟨ho7.os, ho7.tape, ho7.output, ho7.size, ho7.block⟩⟩
end Go.Proofs.YtokjlgebkihimaaGreat
namespace Go.Proofs.YtokjlgebkihimaaGreat
open Go.RowKit Go.Maps

/-- what 'used' answers -/
def usdE (G : Geo) (B : List ByteArray) (i : Int) : Int := if nodeE G B i = 0 ∧ (nodeI G B i).k = 0 then 7 else nodeE G B i
def usdI (G : Geo) (B : List ByteArray) (i : Int) : Ino := if nodeE G B i = 0 ∧ (nodeI G B i).k = 0 then Ino.zero else nodeI G B i
set_option maxRecDepth 100000 in
theorem ret29 {a : Act} {w : World} {R : Nat} {m : Ino} {e : Int} {post : Ending → World → Prop} (hb : Box R w m) (h2 : a.tmps.getD 4 undef = .pointer (some ⟨R, 0, none⟩)) (h3 : a.tmps.getD 5 undef = .int .i64 e) (hd : a.defers = []) (hp : post (.returned (.tuple #[m.v, .int .i64 e])) w) : bodyPost Tryz.prog Tryz.f94 post .ret a w := by
  refine bodyPost_ret (v := .tuple #[m.v, .int .i64 e]) ?_ hd hp
  rw [results_cell_tmp (p := 4) (u := 5) (ty := 36) rfl, h2, h3]
  simp [asAddr, Result.andThen, load24 hb]
def Z11 : Obj := .cells #[.int .i64 0, .int .i64 0, .int .i64 0, .int .i64 0, .int .i64 0, .int .i64 0, .int .i64 0, .int .i64 0, .int .i64 0, .int .i64 0, .int .i64 0] 33
set_option maxRecDepth 100000 in
theorem Kept.bel {base g : Nat} {w w' : World} (h : Kept base g w w') (_hb : base ≤ w.heap.size) (hg : base ≤ g) : Below base w w' := ⟨h.os, h.tape, h.output, h.size, fun k hk => h.block k hk (by omega)⟩
set_option maxRecDepth 100000 in
theorem Box.keep1 {q : Nat} {w1 w4 : World} {n : Ino} {o : Obj} (h : Box q w1 n) (k : Kept (w1.alloc o).heap.size w1.heap.size (w1.alloc o) w4) : Box q w4 n := by
  have hq := lt_of_block h
  have h1 : (w1.alloc o).heap[q]? = w1.heap[q]? := Below.heap_alloc _ _ _ hq
  exact (k.block q (by simp; omega) (by omega)).trans (h1.trans h)
set_option maxRecDepth 100000 in
theorem _root_.Go.RowKit.Below.keep2 {w w1 w4 : World} {o : Obj} (h : Below w.heap.size w w1) (k : Kept (w1.alloc o).heap.size w1.heap.size (w1.alloc o) w4) : Below w.heap.size w w4 := by
  have hs := h.size
  refine h.next ((below_alloc w1 o).trans ⟨k.os, k.tape, k.output, k.size, fun j hj => k.block j (by simp; omega) (by omega)⟩)
set_option maxRecDepth 100000 in
set_option maxHeartbeats 1000000 in
theorem used_any {G : Geo} {p q cap m : Nat} {w : World} {F B : List ByteArray} (i : Int) (h : VI G p q cap m w F B) : Calls Tryz.prog 94 #[.pointer (some ⟨p, 0, none⟩), .int .i64 i] w fun e w' => e = .returned (.tuple #[(usdI G B i).v, .int .i64 (usdE G B i)]) ∧ Below w.heap.size w w' := by
  have HB0 : Hid (Box w.heap.size (w.alloc (.cells #[.int .i64 0, .int .i64 0, .int .i64 0, .int .i64 0, .int .i64 0, .int .i64 0, .int .i64 0, .int .i64 0, .int .i64 0, .int .i64 0, .int .i64 0] 36)) Ino.zero) := box_at _ _
  have HN := hid (node_any i (h.below (below_alloc w (.cells #[.int .i64 0, .int .i64 0, .int .i64 0, .int .i64 0, .int .i64 0, .int .i64 0, .int .i64 0, .int .i64 0, .int .i64 0, .int .i64 0, .int .i64 0] 36))))
  clear h
  unfold usdE usdI
  obtain ⟨n, hn⟩ : ∃ n, n = nodeI G B i := ⟨_, rfl⟩
  obtain ⟨x, hx⟩ : ∃ x, x = nodeE G B i := ⟨_, rfl⟩
  rw [← hn, ← hx] at HN ⊢
  clear hn hx
  obtain ⟨k, l, z, a, b, c, d, e, f, s, t⟩ := n
  have ev : ∀ k l z a b c d e f s t : Int, Ino.v ⟨k, l, z, a, b, c, d, e, f, s, t⟩ = .agg #[.int .i64 k, .int .i64 l, .int .i64 z, .int .i64 a, .int .i64 b, .int .i64 c, .int .i64 d, .int .i64 e, .int .i64 f, .int .i64 s, .int .i64 t] := fun _ _ _ _ _ _ _ _ _ _ _ => rfl
  have hv := ev k l z a b c d e f s t
  by_cases hx : x = 0
  · subst hx
    by_cases hk : k = 0
    · subst hk
      rw [if_pos ⟨rfl, rfl⟩, if_pos ⟨rfl, rfl⟩]
      clear hv ev
      go_enter Tryz.func94, Tryz.ntmps94
      go_wp2_with (first
        | (go_at_call 75; refine HN.out.mono ?_; rintro e w1 ⟨rfl, hb1⟩
           replace HB0 := hid (HB0.out.below hb1)
           have HW : Hid (Below w.heap.size w w1) := hid ((below_alloc w _).next hb1)
           have HB1 : Hid (Box w1.heap.size (w1.alloc (.cells #[.int .i64 0, .int .i64 0, .int .i64 0, .int .i64 0, .int .i64 0, .int .i64 0, .int .i64 0, .int .i64 0, .int .i64 0, .int .i64 0, .int .i64 0] 36)) Ino.zero) := hid (box_at _ _)
           clear hb1)
        | ((with_reducible refine at_store24 w1.heap.size Ino.zero ⟨0, l, z, a, b, c, d, e, f, s, t⟩ ?_ ?_ HB1.out ?_); rfl; rfl; intro w4 hB4 hk4
           have HB4 := hid (HB0.out.keep1 hk4)
           have HW4 := hid (HW.out.keep2 hk4)
           obtain ⟨c0, c1, c2, c3, c4, c5, c6, c7, c8, c9, c10⟩ := hB4.cells
           clear hB4 hk4 HB1 HB0 HW)
        | ((with_reducible refine at_store24 w.heap.size Ino.zero Ino.zero ?_ ?_ HB4.out ?_); rfl; rfl; intro w5 hB5 hk5))
      exact ret29 hB5 rfl rfl rfl ⟨rfl, HW4.out.trans (hk5.below HW4.out.size (Nat.le_refl _))⟩
    · rw [if_neg (fun h => hk h.2), if_neg (fun h => hk h.2)]
      clear hv ev
      go_enter Tryz.func94, Tryz.ntmps94
      go_wp2_with (first
        | (go_at_call 75; refine HN.out.mono ?_; rintro e w1 ⟨rfl, hb1⟩
           replace HB0 := hid (HB0.out.below hb1)
           have HW : Hid (Below w.heap.size w w1) := hid ((below_alloc w _).next hb1)
           have HB1 : Hid (Box w1.heap.size (w1.alloc (.cells #[.int .i64 0, .int .i64 0, .int .i64 0, .int .i64 0, .int .i64 0, .int .i64 0, .int .i64 0, .int .i64 0, .int .i64 0, .int .i64 0, .int .i64 0] 36)) Ino.zero) := hid (box_at _ _)
           clear hb1)
        | ((with_reducible refine at_store24 w1.heap.size Ino.zero ⟨k, l, z, a, b, c, d, e, f, s, t⟩ ?_ ?_ HB1.out ?_); rfl; rfl; intro w4 hB4 hk4
           have HB4 := hid (HB0.out.keep1 hk4)
           have HW4 := hid (HW.out.keep2 hk4)
           obtain ⟨c0, c1, c2, c3, c4, c5, c6, c7, c8, c9, c10⟩ := hB4.cells
           clear hB4 hk4 HB1 HB0 HW)
        | ((with_reducible refine at_store24 w.heap.size Ino.zero ⟨k, l, z, a, b, c, d, e, f, s, t⟩ ?_ ?_ HB4.out ?_); rfl; rfl; intro w5 hB5 hk5))
      exact ret29 hB5 rfl rfl rfl ⟨rfl, HW4.out.trans (hk5.below HW4.out.size (Nat.le_refl _))⟩
  · rw [if_neg (fun h => hx h.1), if_neg (fun h => hx h.1)]
    clear hv ev
    go_enter Tryz.func94, Tryz.ntmps94
    go_wp2_with (first
      | (go_at_call 75; refine HN.out.mono ?_; rintro e w1 ⟨rfl, hb1⟩
         replace HB0 := hid (HB0.out.below hb1)
         have HW : Hid (Below w.heap.size w w1) := hid ((below_alloc w _).next hb1)
         have HB1 : Hid (Box w1.heap.size (w1.alloc (.cells #[.int .i64 0, .int .i64 0, .int .i64 0, .int .i64 0, .int .i64 0, .int .i64 0, .int .i64 0, .int .i64 0, .int .i64 0, .int .i64 0, .int .i64 0] 36)) Ino.zero) := hid (box_at _ _)
         clear hb1)
      | ((with_reducible refine at_store24 w1.heap.size Ino.zero ⟨k, l, z, a, b, c, d, e, f, s, t⟩ ?_ ?_ HB1.out ?_); rfl; rfl; intro w4 hB4 hk4
         have HB4 := hid (HB0.out.keep1 hk4)
         have HW4 := hid (HW.out.keep2 hk4)
         obtain ⟨c0, c1, c2, c3, c4, c5, c6, c7, c8, c9, c10⟩ := hB4.cells
         clear hB4 hk4 HB1 HB0 HW)
      | ((with_reducible refine at_store24 w.heap.size Ino.zero ⟨k, l, z, a, b, c, d, e, f, s, t⟩ ?_ ?_ HB4.out ?_); rfl; rfl; intro w5 hB5 hk5))
    exact ret29 hB5 rfl rfl rfl ⟨rfl, HW4.out.trans (hk5.below HW4.out.size (Nat.le_refl _))⟩
set_option maxRecDepth 100000 in
set_option maxHeartbeats 1000000 in
/-- Set of an inode that is right -/
theorem vset_ok {G : Geo} {p q cap m : Nat} {w : World} {F B : List ByteArray} (i : Nat) (hi : i < G.z) (n : Ino) (hn : chkE n = 0) (h : VI G p q cap m w F B) : Calls Tryz.prog 27 #[.pointer (some ⟨p, 0, none⟩), .int .i64 (i : Int), n.v] w fun e w' => e = .returned (.int .i64 0) ∧ VI G p q cap m w' F (putB G B i n) ∧ Only [m] w w' := by
  have HN := hid (fun w' (hv : VI G p q cap m w' F B) => vnone_any (w := w') hv)
  have HC := hid (check_any n)
  rw [hn] at HC
  have HI := hid (fun w' (hv : VI G p q cap m w' F B) => hasInode_any (w := w') (i : Int) hv)
  rw [show decide ((0 : Int) ≤ (i : Int) ∧ (i : Int) < G.z) = true by simp; omega] at HI
  have HP := hid (fun w' (hv : VI G p q cap m w' F B) => vput_any (w := w') i hi n hn hv)
  have HV := hid h
  clear h hn hi
  obtain ⟨B', hB'⟩ : ∃ B', B' = putB G B i n := ⟨_, rfl⟩
  rw [← hB'] at HP ⊢
  clear hB'
  obtain ⟨k, l, z, a, b, c, d, e, f, s, t⟩ := n
  simp only [Ino.v] at HC HP ⊢
  go_enter Tryz.func27, Tryz.ntmps27
  go_wp2_with (go_at_call 55; fail)
  obtain ⟨w1, hw1⟩ : ∃ w1, w1 = w.alloc (.cells #[.int .i64 k, .int .i64 l, .int .i64 z, .int .i64 a, .int .i64 b, .int .i64 c, .int .i64 d, .int .i64 e, .int .i64 f, .int .i64 s, .int .i64 t] 36) := ⟨_, rfl⟩
  have hX1 : Box w.heap.size w1 ⟨k, l, z, a, b, c, d, e, f, s, t⟩ := by rw [hw1]; exact box_at _ _
  have HB1 : Hid (Below w.heap.size w w1) := by rw [hw1]; exact below_alloc w _
  rw [← hw1]
  clear hw1
  have HV1 := hid (HV.out.below HB1.out)
  have HX1 := hid hX1
  obtain ⟨c0, c1, c2, c3, c4, c5, c6, c7, c8, c9, c10⟩ := hX1.cells
  clear hX1
  go_wp2_with (first
    | (go_at_call 55; refine (HN.out _ HV1.out).mono ?_; rintro e w2 ⟨rfl, hw⟩; have hw := hw.symm; subst hw)
    | (go_at_call 59; refine (HC.out _).mono ?_; rintro e w2 ⟨rfl, hb2⟩
       have HB2 := hid hb2
       clear c0 c1 c2 c3 c4 c5 c6 c7 c8 c9 c10
       obtain ⟨c0, c1, c2, c3, c4, c5, c6, c7, c8, c9, c10⟩ := (HX1.out.below hb2).cells
       clear hb2)
    | (go_at_call 60; refine (HI.out _ (HV1.out.below HB2.out)).mono ?_; rintro e w3 ⟨rfl, hw⟩; have hw := hw.symm; subst hw)
    | (go_at_call 61; refine (HP.out _ (HV1.out.below HB2.out)).mono ?_; rintro e w3 ⟨rfl, hv3, ho3⟩))
  go_ret
  exact ⟨rfl, hv3, (Only.of_below (HB1.out.next HB2.out)).trans ho3⟩
end Go.Proofs.YtokjlgebkihimaaGreat
namespace Go.Proofs.YtokjlgebkihimaaGreat
open Go.RowKit Go.Maps

def Way (q : Nat) (w : World) (a b c d : Int) : Prop := w.heap[q]? = some (.cells #[.int .i64 a, .int .i64 b, .int .i64 c, .int .i64 d] 207 (0, 0))
set_option maxRecDepth 100000 in
theorem Way.cells {q : Nat} {w : World} {a b c d : Int} (h : Way q w a b c d) : w.cell? ⟨q, 0, none⟩ = some (.int .i64 a) ∧ w.cell? ⟨q, 1, none⟩ = some (.int .i64 b) ∧ w.cell? ⟨q, 2, none⟩ = some (.int .i64 c) ∧ w.cell? ⟨q, 3, none⟩ = some (.int .i64 d) := by
  unfold Way at h
  simp [World.cell?, h]
set_option maxRecDepth 100000 in
theorem Way.below {q : Nat} {w w' : World} {a b c d : Int} (h : Way q w a b c d) (k : Below w.heap.size w w') : Way q w' a b c d := (k.block q (lt_of_block h)).trans h
set_option maxRecDepth 100000 in
theorem Way.only {q : Nat} {w w' : World} {a b c d : Int} {fp : List Nat} (h : Way q w a b c d) (k : Only fp w w') (hq : q ∉ fp) : Way q w' a b c d := (k.block q (lt_of_block h) hq).trans h
set_option maxRecDepth 100000 in
theorem load_Way {q : Nat} {w : World} {a b c d : Int} (h : Way q w a b c d) : (loadVar 207 ⟨q, 0, none⟩).run Tryz.prog w = .ok (.agg #[.int .i64 a, .int .i64 b, .int .i64 c, .int .i64 d]) w := by
  obtain ⟨c0, c1, c2, c3⟩ := h.cells
  have a24 := Tryz.isAgg207
  have z24 := Tryz.sizeOf207
  go_simp
set_option maxRecDepth 100000 in
theorem store_Way {q : Nat} {w : World} {a b c d a' b' c' d' : Int} (h : Way q w a b c d) : ∃ w', (Instr.storeAt 207 (.pointer (some ⟨q, 0, none⟩)) (.agg #[.int .i64 a', .int .i64 b', .int .i64 c', .int .i64 d'])).run Tryz.prog w = .ok () w' ∧ Way q w' a' b' c' d' ∧ Kept w.heap.size q w w' := by
  have hs := run_storeCells_at Tryz.prog q 0 207 [.int .i64 a', .int .i64 b', .int .i64 c', .int .i64 d'] 0 _ w h (by simp) (by intro v hv; simp at hv; rcases hv with rfl | rfl | rfl | rfl <;> rfl)
  simp only [List.take_zero, List.nil_append, Nat.zero_add, List.length_cons, List.length_nil] at hs
  rw [List.drop_of_length_le (by simp), List.append_nil] at hs
  refine ⟨w.setRow q #[.int .i64 a', .int .i64 b', .int .i64 c', .int .i64 d'], ?_, ?_, ?_⟩
  rotate_left
  · exact setRow_heap w q _ #[.int .i64 a', .int .i64 b', .int .i64 c', .int .i64 d'] 207 (0, 0) h
  · refine ⟨rfl, rfl, rfl, ?_, fun j _ hj => ?_⟩
    · show w.heap.size ≤ (w.heap.modify q _).size
      rw [Array.size_modify]
      exact Nat.le_refl _
    · show (w.heap.modify q _)[j]? = _
      rw [Array.getElem?_modify, if_neg (fun e => hj e.symm)]
  · have z24 := Tryz.sizeOf207
    have h2 : (Instr.sureAddr (.pointer (some ⟨q, 0, none⟩))).run Tryz.prog w = .ok ⟨q, 0, none⟩ w := by simp [Instr.sureAddr]
    simp only [Instr.storeAt, Sem.run_bind, h2, Result.andThen_ok, storeVar, z24, Value.cells]
    simp only [List.size_toArray, List.length_cons, List.length_nil, ne_eq, not_true_eq_false, if_false]
    exact hs
set_option maxRecDepth 100000 in
theorem at_Way {ops : Array Oper} {rest : List Oper} {p x : Operand} {ty : TypeId} {pos : String} {aft : Array Edge} {act : Act} {Q : Exit → Act → World → Prop} {w : World} (q : Nat) (a b c d a' b' c' d' : Int) (hp : act.eval p = .pointer (some ⟨q, 0, none⟩)) (hx : act.eval x = .agg #[.int .i64 a', .int .i64 b', .int .i64 c', .int .i64 d']) (hb : Way q w a b c d)
    (hK : ∀ w', Way q w' a' b' c' d' → Kept w.heap.size q w w' → wpList Tryz.prog ops Q rest act w') :
    wpList Tryz.prog ops Q ({ dst := none, op := Op.store 207 p x, type := ty, pos := pos, after := aft, guard := none } :: rest) act w := by
  refine wpList_plain rfl fun K' hK' => ?_
  obtain ⟨w', hrun, r1, r2⟩ := store_Way (a' := a') (b' := b') (c' := c') (d' := d') hb
  unfold Oper.wp
  simp [execOp, hp, hx, hrun, Result.andThen]
  exact hK' _ _ (hK w' r1 r2)

def Spt (q : Nat) (w : World) (a b : Int) : Prop := w.heap[q]? = some (.cells #[.int .i64 a, .int .i64 b] 211 (0, 0))
set_option maxRecDepth 100000 in
theorem Spt.cells {q : Nat} {w : World} {a b : Int} (h : Spt q w a b) : w.cell? ⟨q, 0, none⟩ = some (.int .i64 a) ∧ w.cell? ⟨q, 1, none⟩ = some (.int .i64 b) := by
  unfold Spt at h
  simp [World.cell?, h]
set_option maxRecDepth 100000 in
theorem Spt.below {q : Nat} {w w' : World} {a b : Int} (h : Spt q w a b) (k : Below w.heap.size w w') : Spt q w' a b := (k.block q (lt_of_block h)).trans h
set_option maxRecDepth 100000 in
theorem Spt.only {q : Nat} {w w' : World} {a b : Int} {fp : List Nat} (h : Spt q w a b) (k : Only fp w w') (hq : q ∉ fp) : Spt q w' a b := (k.block q (lt_of_block h) hq).trans h
set_option maxRecDepth 100000 in
theorem load_Spt {q : Nat} {w : World} {a b : Int} (h : Spt q w a b) : (loadVar 211 ⟨q, 0, none⟩).run Tryz.prog w = .ok (.agg #[.int .i64 a, .int .i64 b]) w := by
  obtain ⟨c0, c1⟩ := h.cells
  have a24 := Tryz.isAgg211
  have z24 := Tryz.sizeOf211
  go_simp
set_option maxRecDepth 100000 in
theorem store_Spt {q : Nat} {w : World} {a b a' b' : Int} (h : Spt q w a b) : ∃ w', (Instr.storeAt 211 (.pointer (some ⟨q, 0, none⟩)) (.agg #[.int .i64 a', .int .i64 b'])).run Tryz.prog w = .ok () w' ∧ Spt q w' a' b' ∧ Kept w.heap.size q w w' := by
  have hs := run_storeCells_at Tryz.prog q 0 211 [.int .i64 a', .int .i64 b'] 0 _ w h (by simp) (by intro v hv; simp at hv; rcases hv with rfl | rfl <;> rfl)
  simp only [List.take_zero, List.nil_append, Nat.zero_add, List.length_cons, List.length_nil] at hs
  rw [List.drop_of_length_le (by simp), List.append_nil] at hs
  refine ⟨w.setRow q #[.int .i64 a', .int .i64 b'], ?_, ?_, ?_⟩
  rotate_left
  · exact setRow_heap w q _ #[.int .i64 a', .int .i64 b'] 211 (0, 0) h
  · refine ⟨rfl, rfl, rfl, ?_, fun j _ hj => ?_⟩
    · show w.heap.size ≤ (w.heap.modify q _).size
      rw [Array.size_modify]
      exact Nat.le_refl _
    · show (w.heap.modify q _)[j]? = _
      rw [Array.getElem?_modify, if_neg (fun e => hj e.symm)]
  · have z24 := Tryz.sizeOf211
    have h2 : (Instr.sureAddr (.pointer (some ⟨q, 0, none⟩))).run Tryz.prog w = .ok ⟨q, 0, none⟩ w := by simp [Instr.sureAddr]
    simp only [Instr.storeAt, Sem.run_bind, h2, Result.andThen_ok, storeVar, z24, Value.cells]
    simp only [List.size_toArray, List.length_cons, List.length_nil, ne_eq, not_true_eq_false, if_false]
    exact hs
set_option maxRecDepth 100000 in
theorem at_Spt {ops : Array Oper} {rest : List Oper} {p x : Operand} {ty : TypeId} {pos : String} {aft : Array Edge} {act : Act} {Q : Exit → Act → World → Prop} {w : World} (q : Nat) (a b a' b' : Int) (hp : act.eval p = .pointer (some ⟨q, 0, none⟩)) (hx : act.eval x = .agg #[.int .i64 a', .int .i64 b']) (hb : Spt q w a b)
    (hK : ∀ w', Spt q w' a' b' → Kept w.heap.size q w w' → wpList Tryz.prog ops Q rest act w') :
    wpList Tryz.prog ops Q ({ dst := none, op := Op.store 211 p x, type := ty, pos := pos, after := aft, guard := none } :: rest) act w := by
  refine wpList_plain rfl fun K' hK' => ?_
  obtain ⟨w', hrun, r1, r2⟩ := store_Spt (a' := a') (b' := b') hb
  unfold Oper.wp
  simp [execOp, hp, hx, hrun, Result.andThen]
  exact hK' _ _ (hK w' r1 r2)
/-- the way to an index -/
def wayV (i : Nat) : Value := if i < 6 then .agg #[.int .i64 (i : Int), .int .i64 0, .int .i64 0, .int .i64 1] else if i < 70 then .agg #[.int .i64 6, .int .i64 ((i : Int) - 6), .int .i64 0, .int .i64 2] else .agg #[.int .i64 7, .int .i64 (((i : Int) - 70) / 64), .int .i64 (((i : Int) - 70) % 64), .int .i64 3]
set_option maxRecDepth 100000 in
theorem pl_ok (i : Nat) (hi : i < 4166) : pl0 (i : Int) = lvl i ∧ pl1 (i : Int) = fst i ∧ pl2 (i : Int) = snd i ∧ plE (i : Int) = 0 := by
  have h : isIx (i : Int) = true := by unfold isIx; rw [decide_eq_true_eq]; omega
  unfold pl0 pl1 pl2 plE
  rw [if_pos h, if_pos h, if_pos h, if_pos h]
  exact ⟨rfl, rfl, rfl, rfl⟩
set_option maxRecDepth 100000 in
theorem results_cell1 {fn : Func} {p : Tmp} {ty : TypeId} (h : fn.results = #[.cell p ty]) (tmps : Array Value) (P : Program) (w : World) :
    (results fn tmps).run P w = ((asAddr (tmps.getD p undef)).run P w).andThen fun a w₁ => (loadVar ty a).run P w₁ := by
  simp only [results, h]
  simp [Sem.run_bind, Result.andThen]
set_option maxRecDepth 100000 in
theorem ret75 {act : Act} {w : World} {R : Nat} {a b c d : Int} {post : Ending → World → Prop} (hb : Way R w a b c d) (h2 : act.tmps.getD 2 undef = .pointer (some ⟨R, 0, none⟩)) (hd : act.defers = []) (hp : post (.returned (.agg #[.int .i64 a, .int .i64 b, .int .i64 c, .int .i64 d])) w) : bodyPost Tryz.prog Tryz.f154 post .ret act w := by
  refine bodyPost_ret (v := .agg #[.int .i64 a, .int .i64 b, .int .i64 c, .int .i64 d]) ?_ hd hp
  rw [results_cell1 (p := 2) (ty := 207) rfl, h2]
  simp [asAddr, Result.andThen, load_Way hb]
set_option maxRecDepth 100000 in
theorem _root_.Go.RowKit.Below.kept4 {w w1 w4 : World} {o o2 : Obj} (h : Below (w.alloc o).heap.size (w.alloc o) w1) (k : Kept (w1.alloc o2).heap.size w.heap.size (w1.alloc o2) w4) : Below w.heap.size w w4 := by
  have h1 := ((below_alloc w o).next h).next (below_alloc w1 o2)
  have hs := h1.size
  exact h1.trans ⟨k.os, k.tape, k.output, k.size, fun j hj => k.block j (by omega) (by omega)⟩
set_option maxRecDepth 100000 in
set_option maxHeartbeats 1000000 in
theorem wayTo_any (i : Nat) (hi : i < 4166) (w : World) : Calls Tryz.prog 154 #[.int .i64 (i : Int)] w fun e w' => e = .returned (wayV i) ∧ Below w.heap.size w w' := by
  have HP := hid (place_any (i : Int))
  obtain ⟨e0, e1, e2, e3⟩ := pl_ok i hi
  rw [e0, e1, e2, e3] at HP
  clear e0 e1 e2 e3
  unfold wayV
  rcases lvl_cases i with ⟨h, a1, a2, a3⟩ | ⟨h, h', a1, a2, a3⟩ | ⟨h, a1, a2, a3⟩
  · rw [a1, a2, a3] at HP
    rw [if_pos h]
    clear a1 a2 a3 h hi
    go_enter Tryz.func154, Tryz.ntmps154
    go_wp2_with (first
      | (go_at_call 177; refine (HP.out _).mono ?_; rintro e w1 ⟨rfl, hb1⟩; have HB1 := hid hb1; clear hb1
         have HW1 : Hid (∀ o, Way w.heap.size (w1.alloc o) 0 0 0 0) := hid (fun o => (Way.below (box_at w _) (HB1.out.next (below_alloc w1 o)))))
      | ((with_reducible refine at_Way w.heap.size 0 0 0 0 (i : Int) 0 0 1 ?_ ?_ (HW1.out _) ?_); rfl; rfl; intro w4 hB4 hk4))
    exact ret75 hB4 rfl rfl ⟨rfl, HB1.out.kept4 hk4⟩
  · rw [a1, a2, a3] at HP
    rw [if_neg (by omega), if_pos h']
    clear a1 a2 a3 h h' hi
    obtain ⟨x, hx⟩ : ∃ x, x = (i : Int) - 6 := ⟨_, rfl⟩
    rw [← hx] at HP ⊢
    clear hx
    go_enter Tryz.func154, Tryz.ntmps154
    go_wp2_with (first
      | (go_at_call 177; refine (HP.out _).mono ?_; rintro e w1 ⟨rfl, hb1⟩; have HB1 := hid hb1; clear hb1
         have HW1 : Hid (∀ o, Way w.heap.size (w1.alloc o) 0 0 0 0) := hid (fun o => (Way.below (box_at w _) (HB1.out.next (below_alloc w1 o)))))
      | ((with_reducible refine at_Way w.heap.size 0 0 0 0 6 x 0 2 ?_ ?_ (HW1.out _) ?_); rfl; rfl; intro w4 hB4 hk4))
    exact ret75 hB4 rfl rfl ⟨rfl, HB1.out.kept4 hk4⟩
  · rw [a1, a2, a3] at HP
    rw [if_neg (by omega), if_neg (by omega)]
    clear a1 a2 a3 h hi
    obtain ⟨x, hx⟩ : ∃ x, x = ((i : Int) - 70) / 64 := ⟨_, rfl⟩
    obtain ⟨y, hy⟩ : ∃ y, y = ((i : Int) - 70) % 64 := ⟨_, rfl⟩
    rw [← hx, ← hy] at HP ⊢
    clear hx hy
    go_enter Tryz.func154, Tryz.ntmps154
    go_wp2_with (first
      | (go_at_call 177; refine (HP.out _).mono ?_; rintro e w1 ⟨rfl, hb1⟩; have HB1 := hid hb1; clear hb1
         have HW1 : Hid (∀ o, Way w.heap.size (w1.alloc o) 0 0 0 0) := hid (fun o => (Way.below (box_at w _) (HB1.out.next (below_alloc w1 o)))))
      | ((with_reducible refine at_Way w.heap.size 0 0 0 0 7 x y 3 ?_ ?_ (HW1.out _) ?_); rfl; rfl; intro w4 hB4 hk4))
    exact ret75 hB4 rfl rfl ⟨rfl, HB1.out.kept4 hk4⟩
set_option maxRecDepth 100000 in
theorem naming1 {g : Nat} {a b c : Int} (w : World) (hh : Way g w a b c 1) : Calls Tryz.prog 155 #[.pointer (some ⟨g, 0, none⟩)] w fun e w' => e = .returned (.slice (some ⟨g, 0, none⟩) 0 3) ∧ ∃ j, w' = w.drewN j := by
  obtain ⟨c0, c1, c2, c3⟩ := hh.cells
  clear hh
  go_enter Tryz.func155, Tryz.ntmps155
  go_wp2_with (go_quiet (fail))
  go_ret
  exact ⟨rfl, _, rfl⟩
set_option maxRecDepth 100000 in
theorem last1 {g : Nat} {a b c : Int} (w : World) (hh : Way g w a b c 1) : Calls Tryz.prog 158 #[.pointer (some ⟨g, 0, none⟩)] w fun e w' => e = .returned (.int .i64 a) ∧ ∃ j, w' = w.drewN j := by
  obtain ⟨c0, c1, c2, c3⟩ := hh.cells
  clear hh
  go_enter Tryz.func158, Tryz.ntmps158
  go_wp2_with (go_quiet (fail))
  go_ret
  exact ⟨rfl, _, rfl⟩
set_option maxRecDepth 100000 in
theorem naming2 {g : Nat} {a b c : Int} (w : World) (hh : Way g w a b c 2) : Calls Tryz.prog 155 #[.pointer (some ⟨g, 0, none⟩)] w fun e w' => e = .returned (.slice (some ⟨g, 0, none⟩) 1 3) ∧ ∃ j, w' = w.drewN j := by
  obtain ⟨c0, c1, c2, c3⟩ := hh.cells
  clear hh
  go_enter Tryz.func155, Tryz.ntmps155
  go_wp2_with (go_quiet (fail))
  go_ret
  exact ⟨rfl, _, rfl⟩
set_option maxRecDepth 100000 in
theorem last2 {g : Nat} {a b c : Int} (w : World) (hh : Way g w a b c 2) : Calls Tryz.prog 158 #[.pointer (some ⟨g, 0, none⟩)] w fun e w' => e = .returned (.int .i64 b) ∧ ∃ j, w' = w.drewN j := by
  obtain ⟨c0, c1, c2, c3⟩ := hh.cells
  clear hh
  go_enter Tryz.func158, Tryz.ntmps158
  go_wp2_with (go_quiet (fail))
  go_ret
  exact ⟨rfl, _, rfl⟩
set_option maxRecDepth 100000 in
theorem naming3 {g : Nat} {a b c : Int} (w : World) (hh : Way g w a b c 3) : Calls Tryz.prog 155 #[.pointer (some ⟨g, 0, none⟩)] w fun e w' => e = .returned (.slice (some ⟨g, 0, none⟩) 2 3) ∧ ∃ j, w' = w.drewN j := by
  obtain ⟨c0, c1, c2, c3⟩ := hh.cells
  clear hh
  go_enter Tryz.func155, Tryz.ntmps155
  go_wp2_with (go_quiet (fail))
  go_ret
  exact ⟨rfl, _, rfl⟩
set_option maxRecDepth 100000 in
theorem last3 {g : Nat} {a b c : Int} (w : World) (hh : Way g w a b c 3) : Calls Tryz.prog 158 #[.pointer (some ⟨g, 0, none⟩)] w fun e w' => e = .returned (.int .i64 c) ∧ ∃ j, w' = w.drewN j := by
  obtain ⟨c0, c1, c2, c3⟩ := hh.cells
  clear hh
  go_enter Tryz.func158, Tryz.ntmps158
  go_wp2_with (go_quiet (fail))
  go_ret
  exact ⟨rfl, _, rfl⟩
set_option maxRecDepth 100000 in
theorem number_any (g pl : Nat) (h : pl < 8) (w : World) : Calls Tryz.prog 178 #[.pointer (some ⟨g, 0, none⟩), .int .i64 (pl : Int)] w fun e w' => e = .returned (.pointer (some ⟨g, 3 + pl, none⟩)) ∧ w' = w := by
  by_cases h6 : pl = 6
  · subst h6
    go_enter Tryz.func178, Tryz.ntmps178
    go_wp2
    go_ret
    exact ⟨rfl, rfl⟩
  · by_cases h7 : pl = 7
    · subst h7
      go_enter Tryz.func178, Tryz.ntmps178
      go_wp2
      go_ret
      exact ⟨rfl, rfl⟩
    · have hlt : pl < 6 := by omega
      have n6 : ¬ ((pl : Int) = 6) := by omega
      have n7 : ¬ ((pl : Int) = 7) := by omega
      clear h6 h7 h
      go_enter Tryz.func178, Tryz.ntmps178
      go_wp2
      go_ret
      exact ⟨by first | rfl | simp, rfl⟩
end Go.Proofs.YtokjlgebkihimaaGreat
namespace Go.Proofs.YtokjlgebkihimaaGreat
open Go.RowKit Go.Maps

/-- the number at a place of an inode -/
def Ino.at (n : Ino) : Nat → Int | 0 => n.a | 1 => n.b | 2 => n.c | 3 => n.d | 4 => n.e | 5 => n.f | 6 => n.s | _ => n.t
set_option maxRecDepth 100000 in
theorem Box.at {q : Nat} {w : World} {n : Ino} (h : Box q w n) (pl : Nat) (hp : pl < 8) : w.cell? ⟨q, 3 + pl, none⟩ = some (.int .i64 (n.at pl)) := by
  unfold Box at h
  have e : pl = 0 ∨ pl = 1 ∨ pl = 2 ∨ pl = 3 ∨ pl = 4 ∨ pl = 5 ∨ pl = 6 ∨ pl = 7 := by omega
  rcases e with rfl | rfl | rfl | rfl | rfl | rfl | rfl | rfl <;> simp [World.cell?, h, Ino.at]
/-- a number, if it is a data block's -/
def datN (G : Geo) (x : Int) : Int := if (G.da : Int) ≤ x ∧ x < (G.n : Int) then x else 0
/-- what stands at a spot -/
def nmx (B : List ByteArray) (n : Ino) (inn pl : Nat) : Int := if inn = 0 then n.at pl else namV (bk B inn) (pl : Int)
def nmd (G : Geo) (B : List ByteArray) (n : Ino) (inn pl : Nat) : Int := datN G (nmx B n inn pl)
set_option maxRecDepth 100000 in
theorem datN_cases (G : Geo) (x : Int) : (x < G.da ∧ datN G x = 0) ∨ (¬ x < G.da ∧ (G.n : Int) ≤ x ∧ datN G x = 0) ∨ (¬ x < G.da ∧ ¬ (G.n : Int) ≤ x ∧ datN G x = x) := by
  unfold datN
  by_cases h1 : x < G.da
  · exact .inl ⟨h1, if_neg (by omega)⟩
  · by_cases h2 : (G.n : Int) ≤ x
    · exact .inr (.inl ⟨h1, h2, if_neg (by omega)⟩)
    · exact .inr (.inr ⟨h1, h2, if_pos (by omega)⟩)
set_option maxRecDepth 100000 in
set_option maxHeartbeats 2000000 in
theorem named_in {G : Geo} {p q cap m : Nat} {w : World} {F B : List ByteArray} (n : Ino) (pl : Nat) (hp : pl < 8) (h : VI G p q cap m w F B) : Calls Tryz.prog 156 #[.pointer (some ⟨p, 0, none⟩), n.v, .agg #[.int .i64 0, .int .i64 (pl : Int)]] w fun e w' => e = .returned (.int .i64 (datN G (n.at pl))) ∧ Below w.heap.size w w' := by
  have HV := hid h
  have HNu := hid (fun g => number_any g pl hp)
  have HE := hid (fun w' (hv : VI G p q cap m w' F B) => end_any (w := w') hv)
  have HAT := hid (fun w' (hb : Box w.heap.size w' n) => hb.at pl hp)
  obtain ⟨x, hx⟩ : ∃ x, x = n.at pl := ⟨_, rfl⟩
  rw [← hx] at HAT ⊢
  have HD := hid (datN_cases G x)
  obtain ⟨y, hy⟩ : ∃ y, y = datN G x := ⟨_, rfl⟩
  rw [← hy] at HD ⊢
  clear h hp hx hy
  obtain ⟨k, l, z, a, b, c, d, e, f, s, t⟩ := n
  simp only [Ino.v]
  go_enter Tryz.func156, Tryz.ntmps156
  go_wp2_with (go_at_call 178; fail)
  obtain ⟨w1, hw1⟩ : ∃ w1, w1 = (w.alloc (.cells #[.int .i64 k, .int .i64 l, .int .i64 z, .int .i64 a, .int .i64 b, .int .i64 c, .int .i64 d, .int .i64 e, .int .i64 f, .int .i64 s, .int .i64 t] 36)).alloc (.cells #[.int .i64 0, .int .i64 (pl : Int)] 211) := ⟨_, rfl⟩
  have HB1 : Hid (Below w.heap.size w w1) := by rw [hw1]; exact (below_alloc w _).next (below_alloc _ _)
  have hX1 : Box w.heap.size w1 ⟨k, l, z, a, b, c, d, e, f, s, t⟩ := by rw [hw1]; exact Box.below (box_at _ _) (below_alloc _ _)
  rw [← hw1]
  clear hw1
  have cx := HAT.out _ hX1
  have HV1 := hid (HV.out.below HB1.out)
  have c3 : w1.cell? ⟨p, 3, none⟩ = some (.int .i64 (G.da : Int)) := (HV1.out.cell 3).trans rfl
  clear hX1 HAT
  have HE1 := hid (HE.out w1 HV1.out)
  clear HE HV
  rcases HD.out with ⟨g1, e0⟩ | ⟨g1, g2, e0⟩ | ⟨g1, g2, e0⟩
  all_goals subst e0; clear HD
  · have d1 : decide (x < (G.da : Int)) = true := by simp [g1]
    clear g1
    go_wp2_with (first
      | (go_at_call 178; refine (HNu.out _ _).mono ?_; rintro e w2 ⟨rfl, hw⟩; have hw := hw.symm; subst hw)
      | (go_at_call 180; refine HE1.out.mono ?_; rintro e w2 ⟨rfl, j, hw⟩; have hw := hw.symm; subst hw))
    go_ret
    exact ⟨rfl, HB1.out⟩
  · have d1 : decide (x < (G.da : Int)) = false := by simp; omega
    have d2 : decide ((G.n : Int) ≤ x) = true := by simp [g2]
    clear g1 g2
    go_wp2_with (first
      | (go_at_call 178; refine (HNu.out _ _).mono ?_; rintro e w2 ⟨rfl, hw⟩; have hw := hw.symm; subst hw)
      | (go_at_call 180; refine HE1.out.mono ?_; rintro e w2 ⟨rfl, j, hw⟩; have hw := hw.symm; subst hw))
    go_ret
    exact ⟨rfl, HB1.out.dN _⟩
  · have d1 : decide (y < (G.da : Int)) = false := by simp; omega
    have d2 : decide ((G.n : Int) ≤ y) = false := by simp; omega
    clear g1 g2
    go_wp2_with (first
      | (go_at_call 178; refine (HNu.out _ _).mono ?_; rintro e w2 ⟨rfl, hw⟩; have hw := hw.symm; subst hw)
      | (go_at_call 180; refine HE1.out.mono ?_; rintro e w2 ⟨rfl, j, hw⟩; have hw := hw.symm; subst hw))
    go_ret
    exact ⟨rfl, HB1.out.dN _⟩
set_option maxRecDepth 100000 in
set_option maxHeartbeats 2000000 in
theorem named_out {G : Geo} {p q cap m : Nat} {w : World} {F B : List ByteArray} (n : Ino) (inn pl : Nat) (hi0 : inn ≠ 0) (hi : inn < G.n) (h : VI G p q cap m w F B) : Calls Tryz.prog 156 #[.pointer (some ⟨p, 0, none⟩), n.v, .agg #[.int .i64 (inn : Int), .int .i64 (pl : Int)]] w fun e w' => e = .returned (.int .i64 (datN G (namV (bk B inn) (pl : Int)))) ∧ Below w.heap.size w w' := by
  have HV := hid h
  have HK := hid (fun w' (hv : VI G p q cap m w' F B) => block_any (w := w') inn hi hv)
  have HN := hid (name_any (bk B inn) (pl : Int))
  have HE := hid (fun w' (hv : VI G p q cap m w' F B) => end_any (w := w') hv)
  obtain ⟨x, hx⟩ : ∃ x, x = namV (bk B inn) (pl : Int) := ⟨_, rfl⟩
  obtain ⟨pe, hpe⟩ : ∃ x, x = parE (bk B inn) (pl : Int) 64 := ⟨_, rfl⟩
  rw [← hx, ← hpe] at HN
  rw [← hx]
  have HD := hid (datN_cases G x)
  obtain ⟨y, hy⟩ : ∃ y, y = datN G x := ⟨_, rfl⟩
  rw [← hy] at HD ⊢
  obtain ⟨kb, hkb⟩ : ∃ kb, kb = bk B inn := ⟨_, rfl⟩
  rw [← hkb] at HK HN
  have hi0' : ¬ ((inn : Int) = 0) := by omega
  clear h hx hy hpe hkb hi hi0
  obtain ⟨k, l, z, a, b, c, d, e, f, s, t⟩ := n
  simp only [Ino.v]
  go_enter Tryz.func156, Tryz.ntmps156
  go_wp2_with (go_at_call 89; fail)
  obtain ⟨w1, hw1⟩ : ∃ w1, w1 = (w.alloc (.cells #[.int .i64 k, .int .i64 l, .int .i64 z, .int .i64 a, .int .i64 b, .int .i64 c, .int .i64 d, .int .i64 e, .int .i64 f, .int .i64 s, .int .i64 t] 36)).alloc (.cells #[.int .i64 (inn : Int), .int .i64 (pl : Int)] 211) := ⟨_, rfl⟩
  have HB1 : Hid (Below w.heap.size w w1) := by rw [hw1]; exact (below_alloc w _).next (below_alloc _ _)
  have hS1 : Spt (w.heap.size + 1) w1 (inn : Int) (pl : Int) := by rw [hw1]; exact (show _ = _ by have := box_at (w.alloc (.cells #[.int .i64 k, .int .i64 l, .int .i64 z, .int .i64 a, .int .i64 b, .int .i64 c, .int .i64 d, .int .i64 e, .int .i64 f, .int .i64 s, .int .i64 t] 36)) (.cells #[.int .i64 (inn : Int), .int .i64 (pl : Int)] 211); simpa using this)
  rw [← hw1]
  clear hw1
  have hc1 := hS1.cells
  have HS1 := hid hS1
  have HV1 := hid (HV.out.below HB1.out)
  clear hS1 HV
  go_region_held3 (fun w' => w'.cell? ⟨w.heap.size + 1, 0, none⟩ = some (.int .i64 (inn : Int)) ∧ w'.cell? ⟨w.heap.size + 1, 1, none⟩ = some (.int .i64 (pl : Int))) (first | exact hc1 | exact hc6 | exact hc5 | go_keep) (first
    | (go_at_call 89; refine (HK.out _ (by exact HV1.out.below ⟨rfl, rfl, rfl, Nat.le_refl _, fun _ _ => rfl⟩)).mono ?_; rintro e w5 ⟨rfl, hb5⟩
       have HB5 : Hid (Below w1.heap.size w1 w5) := hid ⟨hb5.os, hb5.tape, hb5.output, hb5.size, hb5.block⟩
       have hc5 := (HS1.out.below HB5.out).cells
       clear hb5)
    | (go_at_call 179; refine (HN.out _).mono ?_; rintro e w6 ⟨rfl, hb6⟩
       have HB6 : Hid (Below w5.heap.size w5 w6) := hid ⟨hb6.os, hb6.tape, hb6.output, hb6.size, hb6.block⟩
       have hc6 := (HS1.out.below (HB5.out.next HB6.out)).cells
       have HV6 := hid (HV1.out.below (HB5.out.next HB6.out))
       have c3 : w6.cell? ⟨p, 3, none⟩ = some (.int .i64 (G.da : Int)) := (HV6.out.cell 3).trans rfl
       clear hb6))
  all_goals
    rcases HD.out with ⟨g1, e0⟩ | ⟨g1, g2, e0⟩ | ⟨g1, g2, e0⟩
    all_goals subst e0; clear HD
    · have d1 : decide (x < (G.da : Int)) = true := by simp [g1]
      clear g1
      go_wp2_with (first
        | (go_at_call 180; refine (HE.out _ (by exact HV6.out.below ⟨rfl, rfl, rfl, Nat.le_refl _, fun _ _ => rfl⟩)).mono ?_; rintro e w2 ⟨rfl, j, hw⟩; have hw := hw.symm; subst hw))
      go_ret
      exact ⟨rfl, by first | exact (HB1.out.next HB5.out).next HB6.out | exact ((HB1.out.next HB5.out).next HB6.out).dN _⟩
    · have d1 : decide (x < (G.da : Int)) = false := by simp; omega
      have d2 : decide ((G.n : Int) ≤ x) = true := by simp [g2]
      clear g1 g2
      go_wp2_with (first
        | (go_at_call 180; refine (HE.out _ (by exact HV6.out.below ⟨rfl, rfl, rfl, Nat.le_refl _, fun _ _ => rfl⟩)).mono ?_; rintro e w2 ⟨rfl, j, hw⟩; have hw := hw.symm; subst hw))
      go_ret
      exact ⟨rfl, by first | exact (HB1.out.next HB5.out).next HB6.out | exact ((HB1.out.next HB5.out).next HB6.out).dN _⟩
    · have d1 : decide (y < (G.da : Int)) = false := by simp; omega
      have d2 : decide ((G.n : Int) ≤ y) = false := by simp; omega
      clear g1 g2
      go_wp2_with (first
        | (go_at_call 180; refine (HE.out _ (by exact HV6.out.below ⟨rfl, rfl, rfl, Nat.le_refl _, fun _ _ => rfl⟩)).mono ?_; rintro e w2 ⟨rfl, j, hw⟩; have hw := hw.symm; subst hw))
      go_ret
      exact ⟨rfl, by first | exact (HB1.out.next HB5.out).next HB6.out | exact ((HB1.out.next HB5.out).next HB6.out).dN _⟩
set_option maxRecDepth 100000 in
theorem named_any {G : Geo} {p q cap m : Nat} {w : World} {F B : List ByteArray} (n : Ino) (inn pl : Nat) (hi : inn < G.n) (hp : inn = 0 → pl < 8) (h : VI G p q cap m w F B) : Calls Tryz.prog 156 #[.pointer (some ⟨p, 0, none⟩), n.v, .agg #[.int .i64 (inn : Int), .int .i64 (pl : Int)]] w fun e w' => e = .returned (.int .i64 (nmd G B n inn pl)) ∧ Below w.heap.size w w' := by
  unfold nmd nmx
  by_cases e : inn = 0
  · subst e
    rw [if_pos rfl]
    exact named_in n pl (hp rfl) h
  · rw [if_neg e]
    exact named_out n inn pl e hi h
end Go.Proofs.YtokjlgebkihimaaGreat
