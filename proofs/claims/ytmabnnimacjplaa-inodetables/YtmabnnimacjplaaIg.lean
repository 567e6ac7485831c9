import Derived.Test.YtmabnnimacjplaaIj
namespace Go.Proofs.Ytmabnnimacjplaa
open Go.RowKit

theorem getD_strW (s : ByteArray) (i : Nat) (h : i < s.size) : s.data.toList.getD i 0 = s[i] := by
  have h' : i < s.data.toList.length := by rw [len_list]; exact h
  rw [List.getD_eq_getElem?_getD, List.getElem?_eq_getElem h']
  rfl
set_option maxRecDepth 100000 in
theorem two_d (s : ByteArray) (i j : Nat) (hj : IntKind.i64.wrap ((i : Int) + 1) = (j : Int)) (h1 : i < s.size) (h2 : j < s.size) (w : World) : Calls Try.prog 40 #[.string s, .int .i64 i] w fun e w' => e = .returned (.int .i64 ((s[i].toNat : Int) + 256 * (s[j].toNat : Int))) ∧ w' = w.drew := by
  have h1' : (i : Int) < s.size := by omega
  have h2' : (j : Int) < s.size := by omega
  have b1 := s[i].toNat_lt
  have b2 := s[j].toNat_lt
  have e1 : IntKind.i64.wrap (s[i].toNat : Int) = (s[i].toNat : Int) := by rw [IntKind.wrap_i64]; omega
  have e2 : IntKind.i64.wrap (s[j].toNat : Int) = (s[j].toNat : Int) := by rw [IntKind.wrap_i64]; omega
  have e3 : IntKind.i64.wrap (256 * (s[j].toNat : Int)) = 256 * (s[j].toNat : Int) := by rw [IntKind.wrap_i64]; omega
  have e4 : IntKind.i64.wrap ((s[i].toNat : Int) + 256 * (s[j].toNat : Int)) = (s[i].toNat : Int) + 256 * (s[j].toNat : Int) := by rw [IntKind.wrap_i64]; omega
  go_enter Try.func40, Try.ntmps40
  go_wp2
  go_region
  all_goals
    go_wp2
    go_ret
    exact ⟨rfl, rfl⟩
theorem two_w (s : ByteArray) (i : Nat) (h : i + 1 < s.size) (hs : s.size ≤ 1000) (w : World) : Calls Try.prog 40 #[.string s, .int .i64 i] w fun e w' => e = .returned (.int .i64 (twoN s.data.toList i)) ∧ w' = w.drew := by
  unfold twoN
  rw [getD_strW s i (by omega), getD_strW s (i + 1) h]
  exact two_d s i (i + 1) (by rw [IntKind.wrap_i64]; omega) (by omega) h w
theorem twoN_leW (l : List UInt8) (i : Nat) : 0 ≤ twoN l i ∧ twoN l i < 65536 := by
  unfold twoN
  have h1 := (l.getD i 0).toNat_lt
  have h2 := (l.getD (i + 1) 0).toNat_lt
  omega
theorem chain11 {W : World} {q R : Nat} (hq : Box q W Ino.zero) (hR : Box R W Ino.zero) (hne : R ≠ q) (k l z : Int) :
    Box q ((((((((((((W.setCell ⟨q, 0, none⟩ (.int .i64 k)).setCell ⟨q, 1, none⟩ (.int .i64 l)).setCell ⟨q, 2, none⟩ (.int .i64 z)).setCell ⟨q, 3, none⟩ (.int .i64 0)).setCell ⟨q, 4, none⟩ (.int .i64 0)).setCell ⟨q, 5, none⟩ (.int .i64 0)).setCell ⟨q, 6, none⟩ (.int .i64 0)).setCell ⟨q, 7, none⟩ (.int .i64 0)).setCell ⟨q, 8, none⟩ (.int .i64 0)).setCell ⟨q, 9, none⟩ (.int .i64 0)).setCell ⟨q, 10, none⟩ (.int .i64 0))) ⟨k, l, z, 0, 0, 0, 0, 0, 0, 0, 0⟩ ∧ Box R ((((((((((((W.setCell ⟨q, 0, none⟩ (.int .i64 k)).setCell ⟨q, 1, none⟩ (.int .i64 l)).setCell ⟨q, 2, none⟩ (.int .i64 z)).setCell ⟨q, 3, none⟩ (.int .i64 0)).setCell ⟨q, 4, none⟩ (.int .i64 0)).setCell ⟨q, 5, none⟩ (.int .i64 0)).setCell ⟨q, 6, none⟩ (.int .i64 0)).setCell ⟨q, 7, none⟩ (.int .i64 0)).setCell ⟨q, 8, none⟩ (.int .i64 0)).setCell ⟨q, 9, none⟩ (.int .i64 0)).setCell ⟨q, 10, none⟩ (.int .i64 0))) Ino.zero := by
  refine ⟨?_, ?_⟩
  · have hq' : Box q W ⟨0, 0, 0, 0, 0, 0, 0, 0, 0, 0, 0⟩ := hq
    exact ((((((((((hq'.set0 _).set1 _).set2 _).set3 _).set4 _).set5 _).set6 _).set7 _).set8 _).set9 _).set10 _
  · unfold Box
    rw [set_off _ _ hne, set_off _ _ hne, set_off _ _ hne, set_off _ _ hne, set_off _ _ hne, set_off _ _ hne, set_off _ _ hne, set_off _ _ hne, set_off _ _ hne, set_off _ _ hne, set_off _ _ hne]
    exact hR
theorem box_two (w : World) (o : Obj) (c : Array Value) : ((w.alloc o).alloc (.cells c 24)).heap[w.heap.size + 1]? = some (.cells c 24 (0, 0)) := by
  have := box_at (w.alloc o) (.cells c 24)
  rw [World.size_alloc] at this
  exact this
theorem box_one (w : World) (o p : Obj) : ((w.alloc o).alloc p).heap[w.heap.size]? = some o := by
  have h := (below_alloc (w.alloc o) p).block w.heap.size (by simp)
  rw [h]
  exact box_at w o
theorem bxA (w : World) (k m : Nat) (o : Obj) (c : Array Value) : ((((w.alloc o).drewN k).alloc (.cells c 24)).drewN m).heap[w.heap.size + 1]? = some (.cells c 24 (0, 0)) := box_two w o c
theorem bxA0 (w : World) (k m : Nat) (o p : Obj) : ((((w.alloc o).drewN k).alloc p).drewN m).heap[w.heap.size]? = some o := box_one w o p
theorem blA (w : World) (k m : Nat) (o p : Obj) : Below w.heap.size w ((((w.alloc o).drewN k).alloc p).drewN m) := ((((below_alloc w o).dN k).next (below_alloc _ p)).dN m)
theorem bl11 {W w : World} {q : Nat} (h : Below w.heap.size w W) (hq : w.heap.size ≤ q) (v0 v1 v2 v3 v4 v5 v6 v7 v8 v9 v10 : Value) : Below w.heap.size w (((((((((((W.setCell ⟨q, 0, none⟩ v0).setCell ⟨q, 1, none⟩ v1).setCell ⟨q, 2, none⟩ v2).setCell ⟨q, 3, none⟩ v3).setCell ⟨q, 4, none⟩ v4).setCell ⟨q, 5, none⟩ v5).setCell ⟨q, 6, none⟩ v6).setCell ⟨q, 7, none⟩ v7).setCell ⟨q, 8, none⟩ v8).setCell ⟨q, 9, none⟩ v9).setCell ⟨q, 10, none⟩ v10) :=
  ((((((((((h.setCell hq _).setCell hq _).setCell hq _).setCell hq _).setCell hq _).setCell hq _).setCell hq _).setCell hq _).setCell hq _).setCell hq _).setCell hq _
structure DX (w0 : World) (R q : Nat) (w : World) (n : Ino) : Prop where
  box : Box q w n
  res : Box R w Ino.zero
  ne : R ≠ q
  lR : w0.heap.size ≤ R
  lq : w0.heap.size ≤ q
  bel : Below w0.heap.size w0 w
theorem DX.drew {w0 w : World} {R q : Nat} {n : Ino} (h : DX w0 R q w n) (m : Nat) : DX w0 R q (w.drewN m) n := ⟨h.box, h.res, h.ne, h.lR, h.lq, h.bel.dN m⟩
theorem DX.below {w0 w w' : World} {R q : Nat} {n : Ino} (h : DX w0 R q w n) (k : Below w.heap.size w w') : DX w0 R q w' n := ⟨h.box.below k, h.res.below k, h.ne, h.lR, h.lq, h.bel.next k⟩
theorem DX.set3 {w0 w : World} {R q : Nat} {k l z a b c d e f s t : Int} (h : DX w0 R q w ⟨k, l, z, a, b, c, d, e, f, s, t⟩) (v : Int) : DX w0 R q (w.setCell ⟨q, 3, none⟩ (.int .i64 v)) ⟨k, l, z, v, b, c, d, e, f, s, t⟩ := ⟨h.box.set3 v, (set_off _ _ h.ne).trans h.res, h.ne, h.lR, h.lq, h.bel.setCell h.lq _⟩
theorem DX.set4 {w0 w : World} {R q : Nat} {k l z a b c d e f s t : Int} (h : DX w0 R q w ⟨k, l, z, a, b, c, d, e, f, s, t⟩) (v : Int) : DX w0 R q (w.setCell ⟨q, 4, none⟩ (.int .i64 v)) ⟨k, l, z, a, v, c, d, e, f, s, t⟩ := ⟨h.box.set4 v, (set_off _ _ h.ne).trans h.res, h.ne, h.lR, h.lq, h.bel.setCell h.lq _⟩
theorem DX.set5 {w0 w : World} {R q : Nat} {k l z a b c d e f s t : Int} (h : DX w0 R q w ⟨k, l, z, a, b, c, d, e, f, s, t⟩) (v : Int) : DX w0 R q (w.setCell ⟨q, 5, none⟩ (.int .i64 v)) ⟨k, l, z, a, b, v, d, e, f, s, t⟩ := ⟨h.box.set5 v, (set_off _ _ h.ne).trans h.res, h.ne, h.lR, h.lq, h.bel.setCell h.lq _⟩
theorem DX.set6 {w0 w : World} {R q : Nat} {k l z a b c d e f s t : Int} (h : DX w0 R q w ⟨k, l, z, a, b, c, d, e, f, s, t⟩) (v : Int) : DX w0 R q (w.setCell ⟨q, 6, none⟩ (.int .i64 v)) ⟨k, l, z, a, b, c, v, e, f, s, t⟩ := ⟨h.box.set6 v, (set_off _ _ h.ne).trans h.res, h.ne, h.lR, h.lq, h.bel.setCell h.lq _⟩
theorem DX.set7 {w0 w : World} {R q : Nat} {k l z a b c d e f s t : Int} (h : DX w0 R q w ⟨k, l, z, a, b, c, d, e, f, s, t⟩) (v : Int) : DX w0 R q (w.setCell ⟨q, 7, none⟩ (.int .i64 v)) ⟨k, l, z, a, b, c, d, v, f, s, t⟩ := ⟨h.box.set7 v, (set_off _ _ h.ne).trans h.res, h.ne, h.lR, h.lq, h.bel.setCell h.lq _⟩
theorem DX.set8 {w0 w : World} {R q : Nat} {k l z a b c d e f s t : Int} (h : DX w0 R q w ⟨k, l, z, a, b, c, d, e, f, s, t⟩) (v : Int) : DX w0 R q (w.setCell ⟨q, 8, none⟩ (.int .i64 v)) ⟨k, l, z, a, b, c, d, e, v, s, t⟩ := ⟨h.box.set8 v, (set_off _ _ h.ne).trans h.res, h.ne, h.lR, h.lq, h.bel.setCell h.lq _⟩
theorem DX.set9 {w0 w : World} {R q : Nat} {k l z a b c d e f s t : Int} (h : DX w0 R q w ⟨k, l, z, a, b, c, d, e, f, s, t⟩) (v : Int) : DX w0 R q (w.setCell ⟨q, 9, none⟩ (.int .i64 v)) ⟨k, l, z, a, b, c, d, e, f, v, t⟩ := ⟨h.box.set9 v, (set_off _ _ h.ne).trans h.res, h.ne, h.lR, h.lq, h.bel.setCell h.lq _⟩
theorem DX.set10 {w0 w : World} {R q : Nat} {k l z a b c d e f s t : Int} (h : DX w0 R q w ⟨k, l, z, a, b, c, d, e, f, s, t⟩) (v : Int) : DX w0 R q (w.setCell ⟨q, 10, none⟩ (.int .i64 v)) ⟨k, l, z, a, b, c, d, e, f, s, v⟩ := ⟨h.box.set10 v, (set_off _ _ h.ne).trans h.res, h.ne, h.lR, h.lq, h.bel.setCell h.lq _⟩
theorem ret12 {a : Act} {w : World} {R : Nat} {m : Ino} {e : Int} {post : Ending → World → Prop} (hb : Box R w m) (h2 : a.tmps.getD 2 undef = .pointer (some ⟨R, 0, none⟩)) (h3 : a.tmps.getD 3 undef = .int .i64 e) (hd : a.defers = []) (hp : post (.returned (.tuple #[m.v, .int .i64 e])) w) : bodyPost Try.prog Try.f12 post .ret a w := by
  refine bodyPost_ret (v := .tuple #[m.v, .int .i64 e]) ?_ hd hp
  rw [results_cell_tmp (p := 2) (u := 3) (ty := 24) rfl, h2, h3]
  simp [asAddr, Result.andThen, load24 hb]
set_option maxRecDepth 100000 in
set_option maxHeartbeats 2000000 in
theorem rdecode_not (y : ByteArray) (h : y.size ≠ 32) (w : World) : Calls Try.prog 12 #[.string y] w fun x w' => x = .returned (.tuple #[Ino.zero.v, .int .i64 120]) ∧ Below w.heap.size w w' := by
  have hn : ¬ (y.size : Int) = 32 := by omega
  clear h
  have hB0 : Box w.heap.size (w.alloc (.cells #[.int .i64 0, .int .i64 0, .int .i64 0, .int .i64 0, .int .i64 0, .int .i64 0, .int .i64 0, .int .i64 0, .int .i64 0, .int .i64 0, .int .i64 0] 24)) Ino.zero := box_at _ _
  have HB0 := hid hB0
  have HW : Hid (Below w.heap.size w (w.alloc (.cells #[.int .i64 0, .int .i64 0, .int .i64 0, .int .i64 0, .int .i64 0, .int .i64 0, .int .i64 0, .int .i64 0, .int .i64 0, .int .i64 0, .int .i64 0] 24))) := below_alloc w _
  clear hB0
  go_enter Try.func12, Try.ntmps12
  go_wp2_with ((with_reducible refine at_store24 w.heap.size Ino.zero Ino.zero ?_ ?_ HB0.out ?_); rfl; rfl; intro w3 hB3 hk3)
  exact ret12 hB3 rfl rfl rfl ⟨rfl, HW.out.trans (hk3.below HW.out.size (Nat.le_refl _))⟩
theorem shA (w : World) (m2 m4 : Nat) (k l z : Int) : Box (w.heap.size + 1) (((w.alloc (.cells #[.int .i64 0, .int .i64 0, .int .i64 0, .int .i64 0, .int .i64 0, .int .i64 0, .int .i64 0, .int .i64 0, .int .i64 0, .int .i64 0, .int .i64 0] 24)).drewN (1 + m2 + m4)).alloc (.cells #[.int .i64 k, .int .i64 l, .int .i64 z, .int .i64 0, .int .i64 0, .int .i64 0, .int .i64 0, .int .i64 0, .int .i64 0, .int .i64 0, .int .i64 0] 24)) ⟨k, l, z, 0, 0, 0, 0, 0, 0, 0, 0⟩ ∧ Box w.heap.size (((w.alloc (.cells #[.int .i64 0, .int .i64 0, .int .i64 0, .int .i64 0, .int .i64 0, .int .i64 0, .int .i64 0, .int .i64 0, .int .i64 0, .int .i64 0, .int .i64 0] 24)).drewN (1 + m2 + m4)).alloc (.cells #[.int .i64 k, .int .i64 l, .int .i64 z, .int .i64 0, .int .i64 0, .int .i64 0, .int .i64 0, .int .i64 0, .int .i64 0, .int .i64 0, .int .i64 0] 24)) Ino.zero ∧ Below w.heap.size w (((w.alloc (.cells #[.int .i64 0, .int .i64 0, .int .i64 0, .int .i64 0, .int .i64 0, .int .i64 0, .int .i64 0, .int .i64 0, .int .i64 0, .int .i64 0, .int .i64 0] 24)).drewN (1 + m2 + m4)).alloc (.cells #[.int .i64 k, .int .i64 l, .int .i64 z, .int .i64 0, .int .i64 0, .int .i64 0, .int .i64 0, .int .i64 0, .int .i64 0, .int .i64 0, .int .i64 0] 24)) :=
  ⟨bxA w (1 + m2 + m4) 0 _ _, bxA0 w (1 + m2 + m4) 0 _ _, blA w (1 + m2 + m4) 0 _ _⟩
theorem shB (w : World) (m2 m4 : Nat) (k l z : Int) : Box (w.heap.size + 1) (((((((((((((((w.alloc (.cells #[.int .i64 0, .int .i64 0, .int .i64 0, .int .i64 0, .int .i64 0, .int .i64 0, .int .i64 0, .int .i64 0, .int .i64 0, .int .i64 0, .int .i64 0] 24)).drewN (1 + m2)).alloc (.cells #[.int .i64 0, .int .i64 0, .int .i64 0, .int .i64 0, .int .i64 0, .int .i64 0, .int .i64 0, .int .i64 0, .int .i64 0, .int .i64 0, .int .i64 0] 24)).drewN m4).setCell ⟨w.heap.size + 1, 0, none⟩ (.int .i64 k)).setCell ⟨w.heap.size + 1, 1, none⟩ (.int .i64 l)).setCell ⟨w.heap.size + 1, 2, none⟩ (.int .i64 z)).setCell ⟨w.heap.size + 1, 3, none⟩ (.int .i64 0)).setCell ⟨w.heap.size + 1, 4, none⟩ (.int .i64 0)).setCell ⟨w.heap.size + 1, 5, none⟩ (.int .i64 0)).setCell ⟨w.heap.size + 1, 6, none⟩ (.int .i64 0)).setCell ⟨w.heap.size + 1, 7, none⟩ (.int .i64 0)).setCell ⟨w.heap.size + 1, 8, none⟩ (.int .i64 0)).setCell ⟨w.heap.size + 1, 9, none⟩ (.int .i64 0)).setCell ⟨w.heap.size + 1, 10, none⟩ (.int .i64 0)) ⟨k, l, z, 0, 0, 0, 0, 0, 0, 0, 0⟩ ∧ Box w.heap.size (((((((((((((((w.alloc (.cells #[.int .i64 0, .int .i64 0, .int .i64 0, .int .i64 0, .int .i64 0, .int .i64 0, .int .i64 0, .int .i64 0, .int .i64 0, .int .i64 0, .int .i64 0] 24)).drewN (1 + m2)).alloc (.cells #[.int .i64 0, .int .i64 0, .int .i64 0, .int .i64 0, .int .i64 0, .int .i64 0, .int .i64 0, .int .i64 0, .int .i64 0, .int .i64 0, .int .i64 0] 24)).drewN m4).setCell ⟨w.heap.size + 1, 0, none⟩ (.int .i64 k)).setCell ⟨w.heap.size + 1, 1, none⟩ (.int .i64 l)).setCell ⟨w.heap.size + 1, 2, none⟩ (.int .i64 z)).setCell ⟨w.heap.size + 1, 3, none⟩ (.int .i64 0)).setCell ⟨w.heap.size + 1, 4, none⟩ (.int .i64 0)).setCell ⟨w.heap.size + 1, 5, none⟩ (.int .i64 0)).setCell ⟨w.heap.size + 1, 6, none⟩ (.int .i64 0)).setCell ⟨w.heap.size + 1, 7, none⟩ (.int .i64 0)).setCell ⟨w.heap.size + 1, 8, none⟩ (.int .i64 0)).setCell ⟨w.heap.size + 1, 9, none⟩ (.int .i64 0)).setCell ⟨w.heap.size + 1, 10, none⟩ (.int .i64 0)) Ino.zero ∧ Below w.heap.size w (((((((((((((((w.alloc (.cells #[.int .i64 0, .int .i64 0, .int .i64 0, .int .i64 0, .int .i64 0, .int .i64 0, .int .i64 0, .int .i64 0, .int .i64 0, .int .i64 0, .int .i64 0] 24)).drewN (1 + m2)).alloc (.cells #[.int .i64 0, .int .i64 0, .int .i64 0, .int .i64 0, .int .i64 0, .int .i64 0, .int .i64 0, .int .i64 0, .int .i64 0, .int .i64 0, .int .i64 0] 24)).drewN m4).setCell ⟨w.heap.size + 1, 0, none⟩ (.int .i64 k)).setCell ⟨w.heap.size + 1, 1, none⟩ (.int .i64 l)).setCell ⟨w.heap.size + 1, 2, none⟩ (.int .i64 z)).setCell ⟨w.heap.size + 1, 3, none⟩ (.int .i64 0)).setCell ⟨w.heap.size + 1, 4, none⟩ (.int .i64 0)).setCell ⟨w.heap.size + 1, 5, none⟩ (.int .i64 0)).setCell ⟨w.heap.size + 1, 6, none⟩ (.int .i64 0)).setCell ⟨w.heap.size + 1, 7, none⟩ (.int .i64 0)).setCell ⟨w.heap.size + 1, 8, none⟩ (.int .i64 0)).setCell ⟨w.heap.size + 1, 9, none⟩ (.int .i64 0)).setCell ⟨w.heap.size + 1, 10, none⟩ (.int .i64 0)) :=
  ⟨(chain11 (W := ((((w.alloc (.cells #[.int .i64 0, .int .i64 0, .int .i64 0, .int .i64 0, .int .i64 0, .int .i64 0, .int .i64 0, .int .i64 0, .int .i64 0, .int .i64 0, .int .i64 0] 24)).drewN (1 + m2)).alloc (.cells #[.int .i64 0, .int .i64 0, .int .i64 0, .int .i64 0, .int .i64 0, .int .i64 0, .int .i64 0, .int .i64 0, .int .i64 0, .int .i64 0, .int .i64 0] 24)).drewN m4)) (bxA w (1 + m2) m4 _ _) (bxA0 w (1 + m2) m4 _ _) (by omega) _ _ _).1, (chain11 (W := ((((w.alloc (.cells #[.int .i64 0, .int .i64 0, .int .i64 0, .int .i64 0, .int .i64 0, .int .i64 0, .int .i64 0, .int .i64 0, .int .i64 0, .int .i64 0, .int .i64 0] 24)).drewN (1 + m2)).alloc (.cells #[.int .i64 0, .int .i64 0, .int .i64 0, .int .i64 0, .int .i64 0, .int .i64 0, .int .i64 0, .int .i64 0, .int .i64 0, .int .i64 0, .int .i64 0] 24)).drewN m4)) (bxA w (1 + m2) m4 _ _) (bxA0 w (1 + m2) m4 _ _) (by omega) _ _ _).2, bl11 (blA w (1 + m2) m4 _ _) (Nat.le_succ _) _ _ _ _ _ _ _ _ _ _ _⟩
theorem shC (w : World) (m2 m4 : Nat) (k l z : Int) : Box (w.heap.size + 1) ((((((((((((((w.alloc (.cells #[.int .i64 0, .int .i64 0, .int .i64 0, .int .i64 0, .int .i64 0, .int .i64 0, .int .i64 0, .int .i64 0, .int .i64 0, .int .i64 0, .int .i64 0] 24)).alloc (.cells #[.int .i64 0, .int .i64 0, .int .i64 0, .int .i64 0, .int .i64 0, .int .i64 0, .int .i64 0, .int .i64 0, .int .i64 0, .int .i64 0, .int .i64 0] 24)).drewN (1 + m2 + m4)).setCell ⟨w.heap.size + 1, 0, none⟩ (.int .i64 k)).setCell ⟨w.heap.size + 1, 1, none⟩ (.int .i64 l)).setCell ⟨w.heap.size + 1, 2, none⟩ (.int .i64 z)).setCell ⟨w.heap.size + 1, 3, none⟩ (.int .i64 0)).setCell ⟨w.heap.size + 1, 4, none⟩ (.int .i64 0)).setCell ⟨w.heap.size + 1, 5, none⟩ (.int .i64 0)).setCell ⟨w.heap.size + 1, 6, none⟩ (.int .i64 0)).setCell ⟨w.heap.size + 1, 7, none⟩ (.int .i64 0)).setCell ⟨w.heap.size + 1, 8, none⟩ (.int .i64 0)).setCell ⟨w.heap.size + 1, 9, none⟩ (.int .i64 0)).setCell ⟨w.heap.size + 1, 10, none⟩ (.int .i64 0)) ⟨k, l, z, 0, 0, 0, 0, 0, 0, 0, 0⟩ ∧ Box w.heap.size ((((((((((((((w.alloc (.cells #[.int .i64 0, .int .i64 0, .int .i64 0, .int .i64 0, .int .i64 0, .int .i64 0, .int .i64 0, .int .i64 0, .int .i64 0, .int .i64 0, .int .i64 0] 24)).alloc (.cells #[.int .i64 0, .int .i64 0, .int .i64 0, .int .i64 0, .int .i64 0, .int .i64 0, .int .i64 0, .int .i64 0, .int .i64 0, .int .i64 0, .int .i64 0] 24)).drewN (1 + m2 + m4)).setCell ⟨w.heap.size + 1, 0, none⟩ (.int .i64 k)).setCell ⟨w.heap.size + 1, 1, none⟩ (.int .i64 l)).setCell ⟨w.heap.size + 1, 2, none⟩ (.int .i64 z)).setCell ⟨w.heap.size + 1, 3, none⟩ (.int .i64 0)).setCell ⟨w.heap.size + 1, 4, none⟩ (.int .i64 0)).setCell ⟨w.heap.size + 1, 5, none⟩ (.int .i64 0)).setCell ⟨w.heap.size + 1, 6, none⟩ (.int .i64 0)).setCell ⟨w.heap.size + 1, 7, none⟩ (.int .i64 0)).setCell ⟨w.heap.size + 1, 8, none⟩ (.int .i64 0)).setCell ⟨w.heap.size + 1, 9, none⟩ (.int .i64 0)).setCell ⟨w.heap.size + 1, 10, none⟩ (.int .i64 0)) Ino.zero ∧ Below w.heap.size w ((((((((((((((w.alloc (.cells #[.int .i64 0, .int .i64 0, .int .i64 0, .int .i64 0, .int .i64 0, .int .i64 0, .int .i64 0, .int .i64 0, .int .i64 0, .int .i64 0, .int .i64 0] 24)).alloc (.cells #[.int .i64 0, .int .i64 0, .int .i64 0, .int .i64 0, .int .i64 0, .int .i64 0, .int .i64 0, .int .i64 0, .int .i64 0, .int .i64 0, .int .i64 0] 24)).drewN (1 + m2 + m4)).setCell ⟨w.heap.size + 1, 0, none⟩ (.int .i64 k)).setCell ⟨w.heap.size + 1, 1, none⟩ (.int .i64 l)).setCell ⟨w.heap.size + 1, 2, none⟩ (.int .i64 z)).setCell ⟨w.heap.size + 1, 3, none⟩ (.int .i64 0)).setCell ⟨w.heap.size + 1, 4, none⟩ (.int .i64 0)).setCell ⟨w.heap.size + 1, 5, none⟩ (.int .i64 0)).setCell ⟨w.heap.size + 1, 6, none⟩ (.int .i64 0)).setCell ⟨w.heap.size + 1, 7, none⟩ (.int .i64 0)).setCell ⟨w.heap.size + 1, 8, none⟩ (.int .i64 0)).setCell ⟨w.heap.size + 1, 9, none⟩ (.int .i64 0)).setCell ⟨w.heap.size + 1, 10, none⟩ (.int .i64 0)) :=
  ⟨(chain11 (W := (((w.alloc (.cells #[.int .i64 0, .int .i64 0, .int .i64 0, .int .i64 0, .int .i64 0, .int .i64 0, .int .i64 0, .int .i64 0, .int .i64 0, .int .i64 0, .int .i64 0] 24)).alloc (.cells #[.int .i64 0, .int .i64 0, .int .i64 0, .int .i64 0, .int .i64 0, .int .i64 0, .int .i64 0, .int .i64 0, .int .i64 0, .int .i64 0, .int .i64 0] 24)).drewN (1 + m2 + m4))) (bxA w 0 (1 + m2 + m4) _ _) (bxA0 w 0 (1 + m2 + m4) _ _) (by omega) _ _ _).1, (chain11 (W := (((w.alloc (.cells #[.int .i64 0, .int .i64 0, .int .i64 0, .int .i64 0, .int .i64 0, .int .i64 0, .int .i64 0, .int .i64 0, .int .i64 0, .int .i64 0, .int .i64 0] 24)).alloc (.cells #[.int .i64 0, .int .i64 0, .int .i64 0, .int .i64 0, .int .i64 0, .int .i64 0, .int .i64 0, .int .i64 0, .int .i64 0, .int .i64 0, .int .i64 0] 24)).drewN (1 + m2 + m4))) (bxA w 0 (1 + m2 + m4) _ _) (bxA0 w 0 (1 + m2 + m4) _ _) (by omega) _ _ _).2, bl11 (blA w 0 (1 + m2 + m4) _ _) (Nat.le_succ _) _ _ _ _ _ _ _ _ _ _ _⟩
theorem dec_str (y : ByteArray) (N : Ino) (hN : nOf y.data.toList = N) : (rightI N = true → encV N = y → decI y.data.toList = N ∧ decE y.data.toList = 0) ∧ (¬ (rightI N = true ∧ encV N = y) → decI y.data.toList = Ino.zero ∧ decE y.data.toList = 120) := by
  refine ⟨fun hr he => ?_, fun hno => dec_no fun n hr he => hno ?_⟩
  · have : y.data.toList = encL N := by rw [← he]; unfold encV; rw [if_pos hr, st_list]
    rw [this]
    exact dec_yes hr
  · have hn : N = n := by rw [← hN, he]; exact nOf_right hr
    subst hn
    refine ⟨hr, ?_⟩
    unfold encV
    rw [if_pos hr, ← he]
    exact ByteArray.ext (Array.toList_inj.1 (st_list _))
set_option maxRecDepth 100000 in
set_option maxHeartbeats 16000000 in
theorem rdecode_32 (y : ByteArray) (h32 : y.size = 32) (w : World) : Calls Try.prog 12 #[.string y] w fun x w' => x = .returned (.tuple #[(decI y.data.toList).v, .int .i64 (decE y.data.toList)]) ∧ Below w.heap.size w w' := by
  have HE := hid (rencode_any (nOf y.data.toList))
  have h0 : 0 < y.size := by omega
  have h1 : 1 < y.size := by omega
  have HT : Hid (∀ i (h : i + 1 < y.size) (w : World), Calls Try.prog 40 #[.string y, .int .i64 i] w fun e w' => e = .returned (.int .i64 (twoN y.data.toList i)) ∧ ∃ m, w' = w.drewN m) := fun i h w => (two_w y i h (by omega) w).mono fun _ _ ⟨a, b⟩ => ⟨a, 1, b⟩
  have hnv : Hid (nOf y.data.toList = ⟨(y[0].toNat : Int), (y[1].toNat : Int), twoN y.data.toList 2 + 65536 * twoN y.data.toList 4, twoN y.data.toList 6, twoN y.data.toList 8, twoN y.data.toList 10, twoN y.data.toList 12, twoN y.data.toList 14, twoN y.data.toList 16, twoN y.data.toList 18, twoN y.data.toList 20⟩) := by
    show _ = _
    unfold nOf
    rw [getD_strW y 0 h0, getD_strW y 1 h1]
  have B := twoN_leW y.data.toList
  have HY : Hid (∀ N, nOf y.data.toList = N → (rightI N = true → encV N = y → decI y.data.toList = N ∧ decE y.data.toList = 0) ∧ (¬ (rightI N = true ∧ encV N = y) → decI y.data.toList = Ino.zero ∧ decE y.data.toList = 120)) := fun N hN => dec_str y N hN
  obtain ⟨D, hD⟩ : ∃ D, D = decI y.data.toList := ⟨_, rfl⟩
  obtain ⟨E, hE⟩ : ∃ E, E = decE y.data.toList := ⟨_, rfl⟩
  rw [← hD, ← hE] at HY ⊢
  clear hD hE
  obtain ⟨T, hT⟩ : ∃ T, T = twoN y.data.toList := ⟨_, rfl⟩
  rw [← hT] at hnv HT B
  clear hT
  rw [hnv.out] at HE
  have b0 := y[0].toNat_lt
  have b1 := y[1].toNat_lt
  have b2 := B 2
  have b4 := B 4
  clear B
  replace HY := hid (HY.out _ hnv.out)
  obtain ⟨N, hN⟩ : ∃ N : Ino, N = ⟨(y[0].toNat : Int), (y[1].toNat : Int), T 2 + 65536 * T 4, T 6, T 8, T 10, T 12, T 14, T 16, T 18, T 20⟩ := ⟨_, rfl⟩
  have HNE := hid hN
  rw [← hN] at HY HE
  rw [show N.v = Ino.v ⟨(y[0].toNat : Int), (y[1].toNat : Int), T 2 + 65536 * T 4, T 6, T 8, T 10, T 12, T 14, T 16, T 18, T 20⟩ by rw [← hN]] at HE
  clear hN
  simp only [Ino.v] at HE
  obtain ⟨V, hV⟩ : ∃ V, V = encV N := ⟨_, rfl⟩
  rw [← hV] at HE HY
  clear hV
  have e0 : IntKind.i64.wrap (y[0].toNat : Int) = (y[0].toNat : Int) := by rw [IntKind.wrap_i64]; omega
  have e1 : IntKind.i64.wrap (y[1].toNat : Int) = (y[1].toNat : Int) := by rw [IntKind.wrap_i64]; omega
  have e4 : IntKind.i64.wrap (65536 * T 4) = 65536 * T 4 := by rw [IntKind.wrap_i64]; omega
  have e5 : IntKind.i64.wrap (T 2 + 65536 * T 4) = T 2 + 65536 * T 4 := by rw [IntKind.wrap_i64]; omega
  clear b0 b1 b2 b4
  have H2 : Hid (∀ w, Calls Try.prog 40 #[.string y, .int .i64 2] w fun e w' => e = .returned (.int .i64 (T 2)) ∧ ∃ m, w' = w.drewN m) := HT.out 2 (by omega)
  have H4 : Hid (∀ w, Calls Try.prog 40 #[.string y, .int .i64 4] w fun e w' => e = .returned (.int .i64 (T 4)) ∧ ∃ m, w' = w.drewN m) := HT.out 4 (by omega)
  have H6 : Hid (∀ w, Calls Try.prog 40 #[.string y, .int .i64 6] w fun e w' => e = .returned (.int .i64 (T 6)) ∧ ∃ m, w' = w.drewN m) := HT.out 6 (by omega)
  have H8 : Hid (∀ w, Calls Try.prog 40 #[.string y, .int .i64 8] w fun e w' => e = .returned (.int .i64 (T 8)) ∧ ∃ m, w' = w.drewN m) := HT.out 8 (by omega)
  have H10 : Hid (∀ w, Calls Try.prog 40 #[.string y, .int .i64 10] w fun e w' => e = .returned (.int .i64 (T 10)) ∧ ∃ m, w' = w.drewN m) := HT.out 10 (by omega)
  have H12 : Hid (∀ w, Calls Try.prog 40 #[.string y, .int .i64 12] w fun e w' => e = .returned (.int .i64 (T 12)) ∧ ∃ m, w' = w.drewN m) := HT.out 12 (by omega)
  have H14 : Hid (∀ w, Calls Try.prog 40 #[.string y, .int .i64 14] w fun e w' => e = .returned (.int .i64 (T 14)) ∧ ∃ m, w' = w.drewN m) := HT.out 14 (by omega)
  have H16 : Hid (∀ w, Calls Try.prog 40 #[.string y, .int .i64 16] w fun e w' => e = .returned (.int .i64 (T 16)) ∧ ∃ m, w' = w.drewN m) := HT.out 16 (by omega)
  have H18 : Hid (∀ w, Calls Try.prog 40 #[.string y, .int .i64 18] w fun e w' => e = .returned (.int .i64 (T 18)) ∧ ∃ m, w' = w.drewN m) := HT.out 18 (by omega)
  have H20 : Hid (∀ w, Calls Try.prog 40 #[.string y, .int .i64 20] w fun e w' => e = .returned (.int .i64 (T 20)) ∧ ∃ m, w' = w.drewN m) := HT.out 20 (by omega)
  clear HT
  go_enter Try.func12, Try.ntmps12
  go_upto_region 3 with fail
  go_cut [4] (fun s4 wx => s4 = .pointer (some ⟨w.heap.size + 1, 0, none⟩) ∧ Box (w.heap.size + 1) wx ⟨(y[0].toNat : Int), (y[1].toNat : Int), T 2 + 65536 * T 4, 0, 0, 0, 0, 0, 0, 0, 0⟩ ∧ Box w.heap.size wx Ino.zero ∧ Below w.heap.size w wx)
  case first =>
    clear HE HY HNE H6 H8 H10 H12 H14 H16 H18 H20 hnv
    go_region_with (first
    | (go_at_call 40; refine (H2.out _).mono ?_; rintro x w2 ⟨rfl, m2, rfl⟩; clear H2)
    | (go_at_call 40; refine (H4.out _).mono ?_; rintro x w4 ⟨rfl, m4, rfl⟩; clear H4))
    all_goals go_wp2
    all_goals go_meet
    all_goals first
      | with_reducible exact ⟨rfl, shA w m2 m4 _ _ _⟩
      | with_reducible exact ⟨rfl, shB w m2 m4 _ _ _⟩
      | with_reducible exact ⟨rfl, shC w m2 m4 _ _ _⟩
      | exact ⟨rfl, shA w m2 m4 _ _ _⟩
      | exact ⟨rfl, shB w m2 m4 _ _ _⟩
      | exact ⟨rfl, shC w m2 m4 _ _ _⟩
  case rest =>
    obtain ⟨rfl, hq, hR, hb⟩ := hcut
    rename World => wx
    have hD := hid (DX.mk (w0 := w) hq hR (Nat.ne_of_lt (Nat.lt_succ_self _)) (Nat.le_refl _) (Nat.le_succ _) hb)
    clear hq hR hb H2 H4 e0 e1 e4 e5
    obtain ⟨k, hk⟩ : ∃ k : Int, k = (y[0].toNat : Int) := ⟨_, rfl⟩
    obtain ⟨l, hl⟩ : ∃ k : Int, k = (y[1].toNat : Int) := ⟨_, rfl⟩
    obtain ⟨z, hz⟩ : ∃ k : Int, k = T 2 + 65536 * T 4 := ⟨_, rfl⟩
    rw [← hk, ← hl, ← hz] at hD HE HNE
    clear hk hl hz hnv h0 h1 h32
    obtain ⟨q, hqe⟩ : ∃ q, q = w.heap.size + 1 := ⟨_, rfl⟩
    obtain ⟨R, hRe⟩ : ∃ R, R = w.heap.size := ⟨_, rfl⟩
    rw [← hqe, ← hRe] at hD ⊢
    clear hqe hRe
    go_wp2
    refine wp_loop_rounds 7 ?_
    rw [rounds_succ]
    go_upto_region 10 with (first
      | (go_at_call 40; refine (H6.out _).mono ?_; rintro v w3 ⟨rfl, m3, hw3⟩; replace hD := hid (hD.out.drew m3); rw [← hw3] at hD; clear hw3; have f := hD.out.box.free 3; have c := hD.out.box.cells.2.2.2.1; clear H6))
    rw [rounds_succ]
    go_upto_region 10 with (first
      | (go_at_call 40; refine (H8.out _).mono ?_; clear c f; rintro v w4 ⟨rfl, m4, hw4⟩; replace hD := hid ((hD.out.set3 (T 6)).drew m4); rw [← hw4] at hD; clear hw4; have f := hD.out.box.free 4; have c := hD.out.box.cells.2.2.2.2.1; clear H8))
    rw [rounds_succ]
    go_upto_region 10 with (first
      | (go_at_call 40; refine (H10.out _).mono ?_; clear c f; rintro v w5 ⟨rfl, m5, hw5⟩; replace hD := hid ((hD.out.set4 (T 8)).drew m5); rw [← hw5] at hD; clear hw5; have f := hD.out.box.free 5; have c := hD.out.box.cells.2.2.2.2.2.1; clear H10))
    rw [rounds_succ]
    go_upto_region 10 with (first
      | (go_at_call 40; refine (H12.out _).mono ?_; clear c f; rintro v w6 ⟨rfl, m6, hw6⟩; replace hD := hid ((hD.out.set5 (T 10)).drew m6); rw [← hw6] at hD; clear hw6; have f := hD.out.box.free 6; have c := hD.out.box.cells.2.2.2.2.2.2.1; clear H12))
    rw [rounds_succ]
    go_upto_region 10 with (first
      | (go_at_call 40; refine (H14.out _).mono ?_; clear c f; rintro v w7 ⟨rfl, m7, hw7⟩; replace hD := hid ((hD.out.set6 (T 12)).drew m7); rw [← hw7] at hD; clear hw7; have f := hD.out.box.free 7; have c := hD.out.box.cells.2.2.2.2.2.2.2.1; clear H14))
    rw [rounds_succ]
    go_upto_region 10 with (first
      | (go_at_call 40; refine (H16.out _).mono ?_; clear c f; rintro v w8 ⟨rfl, m8, hw8⟩; replace hD := hid ((hD.out.set7 (T 14)).drew m8); rw [← hw8] at hD; clear hw8; have f := hD.out.box.free 8; have c := hD.out.box.cells.2.2.2.2.2.2.2.2.1; clear H16))
    rw [rounds_succ]
    go_upto_region 10 with (first
      | (go_at_call 40; refine (H18.out _).mono ?_; clear c f; rintro v w9 ⟨rfl, m9, hw9⟩; replace hD := hid ((hD.out.set8 (T 16)).drew m9); rw [← hw9] at hD; clear hw9; have f := hD.out.box.free 9; have c := hD.out.box.cells.2.2.2.2.2.2.2.2.2.1; clear H18)
      | (go_at_call 40; refine (H20.out _).mono ?_; clear c f; rintro v w10 ⟨rfl, m10, hw10⟩; replace hD := hid ((hD.out.set9 (T 18)).drew m10); rw [← hw10] at hD; clear hw10; have f := hD.out.box.free 10; have c := hD.out.box.cells.2.2.2.2.2.2.2.2.2.2; clear H20))
    replace hD := hid (hD.out.set10 (T 20))
    clear c f
    obtain ⟨wM, hM⟩ : ∃ wM, wM = w10.setCell ⟨q, 10, none⟩ (.int .i64 (T 20)) := ⟨_, rfl⟩
    rw [← hM] at hD ⊢
    clear hM
    obtain ⟨c0, c1, c2, c3, c4, c5, c6, c7, c8, c9, c10⟩ := hD.out.box.cells
    cases hri : rightI N with
    | true =>
      rw [rightE hri] at HE
      by_cases hVy : V = y
      · obtain ⟨rfl, rfl⟩ := (HY.out.1 hri hVy)
        subst hVy
        clear HY hri
        go_wp2_with (first
          | (go_at_call 10; refine (HE.out _).mono ?_; rintro v wc ⟨rfl, hbc⟩; replace hD := hid (hD.out.below hbc); clear hbc c0 c1 c2 c3 c4 c5 c6 c7 c8 c9 c10; obtain ⟨c0, c1, c2, c3, c4, c5, c6, c7, c8, c9, c10⟩ := hD.out.box.cells)
          | ((with_reducible refine at_store24 R Ino.zero ⟨k, l, z, T 6, T 8, T 10, T 12, T 14, T 16, T 18, T 20⟩ ?_ ?_ hD.out.res ?_); rfl; rfl; intro wr hBr hkr))
        exact ret12 hBr rfl rfl rfl ⟨by rw [HNE.out], hD.out.bel.trans (hkr.below hD.out.bel.size hD.out.lR)⟩
      · obtain ⟨rfl, rfl⟩ := HY.out.2 (fun h => hVy h.2)
        have hne := str_ne hVy
        clear HY hri hVy
        go_wp2_with (first
          | (go_at_call 10; refine (HE.out _).mono ?_; rintro v wc ⟨rfl, hbc⟩; replace hD := hid (hD.out.below hbc); clear hbc c0 c1 c2 c3 c4 c5 c6 c7 c8 c9 c10)
          | ((with_reducible refine at_store24 R Ino.zero Ino.zero ?_ ?_ hD.out.res ?_); rfl; rfl; intro wr hBr hkr))
        exact ret12 hBr rfl rfl rfl ⟨rfl, hD.out.bel.trans (hkr.below hD.out.bel.size hD.out.lR)⟩
    | false =>
      rw [rightF hri] at HE
      obtain ⟨rfl, rfl⟩ := HY.out.2 (fun h => by rw [hri] at h; cases h.1)
      clear HY hri
      go_wp2_with (first
        | (go_at_call 10; refine (HE.out _).mono ?_; rintro v wc ⟨rfl, hbc⟩; replace hD := hid (hD.out.below hbc); clear hbc)
        | ((with_reducible refine at_store24 R Ino.zero Ino.zero ?_ ?_ hD.out.res ?_); rfl; rfl; intro wr hBr hkr))
      exact ret12 hBr rfl rfl rfl ⟨rfl, hD.out.bel.trans (hkr.below hD.out.bel.size hD.out.lR)⟩
theorem rdecode_any (y : ByteArray) (w : World) : Calls Try.prog 12 #[.string y] w fun x w' => x = .returned (.tuple #[(decI y.data.toList).v, .int .i64 (decE y.data.toList)]) ∧ Below w.heap.size w w' := by
  by_cases h : y.size = 32
  · exact rdecode_32 y h w
  · have := dec_no (l := y.data.toList) fun n _ he => h (by rw [← len_list, he, encL_len])
    rw [this.1, this.2]
    exact rdecode_not y h w
end Go.Proofs.Ytmabnnimacjplaa
