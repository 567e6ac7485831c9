import Derived.Test.YtjnhibpebikkmaaGreatFd
namespace Go.Proofs.YtjnhibpebikkmaaGreat
open Go.RowKit Go.Maps

/-- what 'used' answers -/
def usdE (G : Geo) (B : List ByteArray) (i : Int) : Int := if nodeE G B i = 0 ∧ (nodeI G B i).k = 0 then 7 else nodeE G B i
def usdI (G : Geo) (B : List ByteArray) (i : Int) : Ino := if nodeE G B i = 0 ∧ (nodeI G B i).k = 0 then Ino.zero else nodeI G B i
theorem ret29 {a : Act} {w : World} {R : Nat} {m : Ino} {e : Int} {post : Ending → World → Prop} (hb : Box R w m) (h2 : a.tmps.getD 4 undef = .pointer (some ⟨R, 0, none⟩)) (h3 : a.tmps.getD 5 undef = .int .i64 e) (hd : a.defers = []) (hp : post (.returned (.tuple #[m.v, .int .i64 e])) w) : bodyPost Tryz.prog Tryz.f29 post .ret a w := by
  refine bodyPost_ret (v := .tuple #[m.v, .int .i64 e]) ?_ hd hp
  rw [results_cell_tmp (p := 4) (u := 5) (ty := 33) rfl, h2, h3]
  simp [asAddr, Result.andThen, load24 hb]
def Z11 : Obj := .cells #[.int .i64 0, .int .i64 0, .int .i64 0, .int .i64 0, .int .i64 0, .int .i64 0, .int .i64 0, .int .i64 0, .int .i64 0, .int .i64 0, .int .i64 0] 33
theorem Kept.bel {base g : Nat} {w w' : World} (h : Kept base g w w') (_hb : base ≤ w.heap.size) (hg : base ≤ g) : Below base w w' := ⟨h.os, h.tape, h.output, h.size, fun k hk => h.block k hk (by omega)⟩
theorem Box.keep1 {q : Nat} {w1 w4 : World} {n : Ino} {o : Obj} (h : Box q w1 n) (k : Kept (w1.alloc o).heap.size w1.heap.size (w1.alloc o) w4) : Box q w4 n := by
  have hq := lt_of_block h
  have h1 : (w1.alloc o).heap[q]? = w1.heap[q]? := Below.heap_alloc _ _ _ hq
  exact (k.block q (by simp; omega) (by omega)).trans (h1.trans h)
theorem _root_.Go.RowKit.Below.keep2 {w w1 w4 : World} {o : Obj} (h : Below w.heap.size w w1) (k : Kept (w1.alloc o).heap.size w1.heap.size (w1.alloc o) w4) : Below w.heap.size w w4 := by
  have hs := h.size
  refine h.next ((below_alloc w1 o).trans ⟨k.os, k.tape, k.output, k.size, fun j hj => k.block j (by simp; omega) (by omega)⟩)
set_option maxRecDepth 100000 in
set_option maxHeartbeats 1000000 in
theorem used_any {G : Geo} {p q cap m : Nat} {w : World} {F B : List ByteArray} (i : Int) (h : VI G p q cap m w F B) : Calls Tryz.prog 29 #[.pointer (some ⟨p, 0, none⟩), .int .i64 i] w fun e w' => e = .returned (.tuple #[(usdI G B i).v, .int .i64 (usdE G B i)]) ∧ Below w.heap.size w w' := by
  have HB0 : Hid (Box w.heap.size (w.alloc (.cells #[.int .i64 0, .int .i64 0, .int .i64 0, .int .i64 0, .int .i64 0, .int .i64 0, .int .i64 0, .int .i64 0, .int .i64 0, .int .i64 0, .int .i64 0] 33)) Ino.zero) := box_at _ _
  have HN := hid (node_any i (h.below (below_alloc w (.cells #[.int .i64 0, .int .i64 0, .int .i64 0, .int .i64 0, .int .i64 0, .int .i64 0, .int .i64 0, .int .i64 0, .int .i64 0, .int .i64 0, .int .i64 0] 33))))
  clear h
  unfold usdE usdI
  obtain ⟨n, hn⟩ : ∃ n, n = nodeI G B i := ⟨_, rfl⟩
  obtain ⟨x, hx⟩ : ∃ x, x = nodeE G B i := ⟨_, rfl⟩
  rw [← hn, ← hx] at HN ⊢
  clear hn hx
  obtain ⟨k, l, z, a, b, c, d, e, f, s, t⟩ := n
  have ev : ∀ k l z a b c d e f s t : Int, Ino.v ⟨k, l, z, a, b, c, d, e, f, s, t⟩ = .agg #[.int .i64 k, .int .i64 l, .int .i64 z, .int .i64 a, .int .i64 b, .int .i64 c, .int .i64 d, .int .i64 e, .int .i64 f, .int .i64 s, .int .i64 t] := fun _ _ _ _ _ _ _ _ _ _ _ => rfl
  have hv := ev k l z a b c d e f s t
  by_cases hx : x = 0
  · subst hx
    by_cases hk : k = 0
    · subst hk
      rw [if_pos ⟨rfl, rfl⟩, if_pos ⟨rfl, rfl⟩]
      clear hv ev
      go_enter Tryz.func29, Tryz.ntmps29
      go_wp2_with (first
        | (go_at_call 20; refine HN.out.mono ?_; rintro e w1 ⟨rfl, hb1⟩
           replace HB0 := hid (HB0.out.below hb1)
           have HW : Hid (Below w.heap.size w w1) := hid ((below_alloc w _).next hb1)
           have HB1 : Hid (Box w1.heap.size (w1.alloc (.cells #[.int .i64 0, .int .i64 0, .int .i64 0, .int .i64 0, .int .i64 0, .int .i64 0, .int .i64 0, .int .i64 0, .int .i64 0, .int .i64 0, .int .i64 0] 33)) Ino.zero) := hid (box_at _ _)
           clear hb1)
        | ((with_reducible refine at_store24 w1.heap.size Ino.zero ⟨0, l, z, a, b, c, d, e, f, s, t⟩ ?_ ?_ HB1.out ?_); rfl; rfl; intro w4 hB4 hk4
           have HB4 := hid (HB0.out.keep1 hk4)
           have HW4 := hid (HW.out.keep2 hk4)
           obtain ⟨c0, c1, c2, c3, c4, c5, c6, c7, c8, c9, c10⟩ := hB4.cells
           clear hB4 hk4 HB1 HB0 HW)
        | ((with_reducible refine at_store24 w.heap.size Ino.zero Ino.zero ?_ ?_ HB4.out ?_); rfl; rfl; intro w5 hB5 hk5))
      exact ret29 hB5 rfl rfl rfl ⟨rfl, HW4.out.trans (hk5.below HW4.out.size (Nat.le_refl _))⟩
    · rw [if_neg (fun h => hk h.2), if_neg (fun h => hk h.2)]
      clear hv ev
      go_enter Tryz.func29, Tryz.ntmps29
      go_wp2_with (first
        | (go_at_call 20; refine HN.out.mono ?_; rintro e w1 ⟨rfl, hb1⟩
           replace HB0 := hid (HB0.out.below hb1)
           have HW : Hid (Below w.heap.size w w1) := hid ((below_alloc w _).next hb1)
           have HB1 : Hid (Box w1.heap.size (w1.alloc (.cells #[.int .i64 0, .int .i64 0, .int .i64 0, .int .i64 0, .int .i64 0, .int .i64 0, .int .i64 0, .int .i64 0, .int .i64 0, .int .i64 0, .int .i64 0] 33)) Ino.zero) := hid (box_at _ _)
           clear hb1)
        | ((with_reducible refine at_store24 w1.heap.size Ino.zero ⟨k, l, z, a, b, c, d, e, f, s, t⟩ ?_ ?_ HB1.out ?_); rfl; rfl; intro w4 hB4 hk4
           have HB4 := hid (HB0.out.keep1 hk4)
           have HW4 := hid (HW.out.keep2 hk4)
           obtain ⟨c0, c1, c2, c3, c4, c5, c6, c7, c8, c9, c10⟩ := hB4.cells
           clear hB4 hk4 HB1 HB0 HW)
        | ((with_reducible refine at_store24 w.heap.size Ino.zero ⟨k, l, z, a, b, c, d, e, f, s, t⟩ ?_ ?_ HB4.out ?_); rfl; rfl; intro w5 hB5 hk5))
      exact ret29 hB5 rfl rfl rfl ⟨rfl, HW4.out.trans (hk5.below HW4.out.size (Nat.le_refl _))⟩
  · rw [if_neg (fun h => hx h.1), if_neg (fun h => hx h.1)]
    clear hv ev
    go_enter Tryz.func29, Tryz.ntmps29
    go_wp2_with (first
      | (go_at_call 20; refine HN.out.mono ?_; rintro e w1 ⟨rfl, hb1⟩
         replace HB0 := hid (HB0.out.below hb1)
         have HW : Hid (Below w.heap.size w w1) := hid ((below_alloc w _).next hb1)
         have HB1 : Hid (Box w1.heap.size (w1.alloc (.cells #[.int .i64 0, .int .i64 0, .int .i64 0, .int .i64 0, .int .i64 0, .int .i64 0, .int .i64 0, .int .i64 0, .int .i64 0, .int .i64 0, .int .i64 0] 33)) Ino.zero) := hid (box_at _ _)
         clear hb1)
      | ((with_reducible refine at_store24 w1.heap.size Ino.zero ⟨k, l, z, a, b, c, d, e, f, s, t⟩ ?_ ?_ HB1.out ?_); rfl; rfl; intro w4 hB4 hk4
         have HB4 := hid (HB0.out.keep1 hk4)
         have HW4 := hid (HW.out.keep2 hk4)
         obtain ⟨c0, c1, c2, c3, c4, c5, c6, c7, c8, c9, c10⟩ := hB4.cells
         clear hB4 hk4 HB1 HB0 HW)
      | ((with_reducible refine at_store24 w.heap.size Ino.zero ⟨k, l, z, a, b, c, d, e, f, s, t⟩ ?_ ?_ HB4.out ?_); rfl; rfl; intro w5 hB5 hk5))
    exact ret29 hB5 rfl rfl rfl ⟨rfl, HW4.out.trans (hk5.below HW4.out.size (Nat.le_refl _))⟩
set_option maxRecDepth 100000 in
set_option maxHeartbeats 1000000 in
/-- Set of an inode that is right -/
theorem vset_ok {G : Geo} {p q cap m : Nat} {w : World} {F B : List ByteArray} (i : Nat) (hi : i < G.z) (n : Ino) (hn : chkE n = 0) (h : VI G p q cap m w F B) : Calls Tryz.prog 13 #[.pointer (some ⟨p, 0, none⟩), .int .i64 (i : Int), n.v] w fun e w' => e = .returned (.int .i64 0) ∧ VI G p q cap m w' F (putB G B i n) ∧ Only [m] w w' := by
  have HN := hid (fun w' (hv : VI G p q cap m w' F B) => vnone_any (w := w') hv)
  have HC := hid (check_any n)
  rw [hn] at HC
  have HI := hid (fun w' (hv : VI G p q cap m w' F B) => hasInode_any (w := w') (i : Int) hv)
  rw [show decide ((0 : Int) ≤ (i : Int) ∧ (i : Int) < G.z) = true by simp; omega] at HI
  have HP := hid (fun w' (hv : VI G p q cap m w' F B) => vput_any (w := w') i hi n hn hv)
  have HV := hid h
  clear h hn hi
  obtain ⟨B', hB'⟩ : ∃ B', B' = putB G B i n := ⟨_, rfl⟩
  rw [← hB'] at HP ⊢
  clear hB'
  obtain ⟨k, l, z, a, b, c, d, e, f, s, t⟩ := n
  simp only [Ino.v] at HC HP ⊢
  go_enter Tryz.func13, Tryz.ntmps13
  go_wp2_with (go_at_call 26; fail)
  obtain ⟨w1, hw1⟩ : ∃ w1, w1 = w.alloc (.cells #[.int .i64 k, .int .i64 l, .int .i64 z, .int .i64 a, .int .i64 b, .int .i64 c, .int .i64 d, .int .i64 e, .int .i64 f, .int .i64 s, .int .i64 t] 33) := ⟨_, rfl⟩
  have hX1 : Box w.heap.size w1 ⟨k, l, z, a, b, c, d, e, f, s, t⟩ := by rw [hw1]; exact box_at _ _
  have HB1 : Hid (Below w.heap.size w w1) := by rw [hw1]; exact below_alloc w _
  rw [← hw1]
  clear hw1
  have HV1 := hid (HV.out.below HB1.out)
  have HX1 := hid hX1
  obtain ⟨c0, c1, c2, c3, c4, c5, c6, c7, c8, c9, c10⟩ := hX1.cells
  clear hX1
  go_wp2_with (first
    | (go_at_call 26; refine (HN.out _ HV1.out).mono ?_; rintro e w2 ⟨rfl, hw⟩; have hw := hw.symm; subst hw)
    | (go_at_call 36; refine (HC.out _).mono ?_; rintro e w2 ⟨rfl, hb2⟩
       have HB2 := hid hb2
       clear c0 c1 c2 c3 c4 c5 c6 c7 c8 c9 c10
       obtain ⟨c0, c1, c2, c3, c4, c5, c6, c7, c8, c9, c10⟩ := (HX1.out.below hb2).cells
       clear hb2)
    | (go_at_call 37; refine (HI.out _ (HV1.out.below HB2.out)).mono ?_; rintro e w3 ⟨rfl, hw⟩; have hw := hw.symm; subst hw)
    | (go_at_call 32; refine (HP.out _ (HV1.out.below HB2.out)).mono ?_; rintro e w3 ⟨rfl, hv3, ho3⟩))
  go_ret
  exact ⟨rfl, hv3, (Only.of_below (HB1.out.next HB2.out)).trans ho3⟩
end Go.Proofs.YtjnhibpebikkmaaGreat
