import Derived.Test.YtjnhibpebikkmaaGreatIh
namespace Go.Proofs.YtjnhibpebikkmaaGreat
open Go.RowKit

/-- does a text end with ten zeros? -/
def sfx (y : ByteArray) : Prop := 10 ≤ y.size ∧ y.extract (y.size - 10) y.size = Z10
set_option maxRecDepth 100000 in
theorem hasS_short (y v : ByteArray) (hv : v.size = 10) (h : y.size < 10) (w : World) : Calls Tryz.prog 129 #[.string y, .string v] w fun e w' => e = .returned (.bool false) ∧ w' = w := by
  go_enter Tryz.func129, Tryz.ntmps129
  go_wp2
  go_ret
  exact ⟨rfl, rfl⟩
set_option maxRecDepth 100000 in
theorem hasS_long (y v : ByteArray) (hv : v.size = 10) (h : 10 ≤ y.size) (hs : y.size < 140737488355328) (r : Bool) (hr : ((y.extract (y.size - 10) y.size).toList == v.toList) = r) (w : World) : Calls Tryz.prog 129 #[.string y, .string v] w fun e w' => e = .returned (.bool r) ∧ w' = w := by
  have hn : ((y.size : Int) - 10).toNat = y.size - 10 := by omega
  go_enter Tryz.func129, Tryz.ntmps129
  go_wp2
  go_ret
  exact ⟨by first | rfl | (rw [← hr]; rfl), rfl⟩
set_option maxRecDepth 100000 in
theorem cutS_no (y v : ByteArray) (H : ∀ w, Calls Tryz.prog 129 #[.string y, .string v] w fun e w' => e = .returned (.bool false) ∧ w' = w) (w : World) : Calls Tryz.prog 89 #[.string y, .string v] w fun e w' => e = .returned (.tuple #[.string y, .bool false]) ∧ w' = w := by
  have HH := hid H
  have H2 : Hid (∀ w, Calls Tryz.prog 114 #[.string y, .string v] w fun e w' => e = .returned (.tuple #[.string y, .bool false]) ∧ w' = w) := by
    intro w
    clear H
    go_enter Tryz.func114, Tryz.ntmps114
    go_wp2_with (first | (go_at_call 129; refine (HH.out _).mono ?_; rintro e w1 ⟨rfl, rfl⟩))
    go_ret2
    exact ⟨rfl, rfl⟩
  clear H HH
  go_enter Tryz.func89, Tryz.ntmps89
  go_wp2_with (first | (go_at_call 114; refine (H2.out _).mono ?_; rintro e w1 ⟨rfl, rfl⟩))
  go_ret2
  exact ⟨rfl, rfl⟩
set_option maxRecDepth 100000 in
theorem cutS_yes (y v : ByteArray) (hv : v.size = 10) (h : 10 ≤ y.size) (hs : y.size < 140737488355328) (H : ∀ w, Calls Tryz.prog 129 #[.string y, .string v] w fun e w' => e = .returned (.bool true) ∧ w' = w) (w : World) : Calls Tryz.prog 89 #[.string y, .string v] w fun e w' => e = .returned (.tuple #[.string (y.extract 0 (y.size - 10)), .bool true]) ∧ w' = w := by
  have HH := hid H
  have hn : ((y.size : Int) - 10).toNat = y.size - 10 := by omega
  have H2 : Hid (∀ w, Calls Tryz.prog 114 #[.string y, .string v] w fun e w' => e = .returned (.tuple #[.string (y.extract 0 (y.size - 10)), .bool true]) ∧ w' = w) := by
    intro w
    clear H
    go_enter Tryz.func114, Tryz.ntmps114
    go_wp2_with (first | (go_at_call 129; refine (HH.out _).mono ?_; rintro e w1 ⟨rfl, rfl⟩))
    go_ret2
    exact ⟨by first | rfl | (rw [hn]; rfl), rfl⟩
  clear H HH
  go_enter Tryz.func89, Tryz.ntmps89
  go_wp2_with (first | (go_at_call 114; refine (H2.out _).mono ?_; rintro e w1 ⟨rfl, rfl⟩))
  go_ret2
  exact ⟨rfl, rfl⟩
theorem cut_any (y : ByteArray) (hs : y.size < 140737488355328) : (sfx y ∧ ∀ w, Calls Tryz.prog 89 #[.string y, .string Z10] w fun e w' => e = .returned (.tuple #[.string (y.extract 0 (y.size - 10)), .bool true]) ∧ w' = w) ∨ (¬ sfx y ∧ ∀ w, Calls Tryz.prog 89 #[.string y, .string Z10] w fun e w' => e = .returned (.tuple #[.string y, .bool false]) ∧ w' = w) := by
  by_cases h : 10 ≤ y.size
  · by_cases h2 : y.extract (y.size - 10) y.size = Z10
    · exact .inl ⟨⟨h, h2⟩, cutS_yes y Z10 z10_size h hs (hasS_long y Z10 z10_size h hs true (str_eq h2))⟩
    · exact .inr ⟨fun h3 => h2 h3.2, cutS_no y Z10 (hasS_long y Z10 z10_size h hs false (str_ne h2))⟩
  · exact .inr ⟨fun h3 => h h3.1, cutS_no y Z10 (hasS_short y Z10 z10_size (by omega))⟩
/-- what a number read says -/
structure RD (k : Nat) (s : ByteArray) (e : Int) (x : Nat) (s' : ByteArray) (e' : Int) : Prop where
  back : e' = 0 → e = 0 ∧ s.data.toList = fEnc x k ++ s'.data.toList ∧ x < 256 ^ k
  ahead : ∀ n r, n < 256 ^ k → n < 9223372036854775808 → e = 0 → s.data.toList = fEnc n k ++ r → e' = 0 ∧ s'.data.toList = r ∧ x = n
  size : s'.size ≤ s.size
  lt : x < 9223372036854775808
theorem rd_fx (k : Nat) (s : ByteArray) (e : Int) : RD k s e (fxN k s e) (fxS k s e) (fxE k s e) := by
  refine ⟨fun h => ?_, fun n r h1 h2 he hs => ?_, fxS_size k s e, ?_⟩
  · obtain ⟨h1, h2, h3, _⟩ := fx_back k h
    exact ⟨h1, h2, h3⟩
  · subst he
    exact fx_of k h1 h2 hs
  · unfold fxN
    split
    · decide
    · split
      · decide
      · split
        · assumption
        · decide
/-- while an inode is read: the answer's block, the reader's, the inode's -/
structure DSt (w0 : World) (R r q : Nat) (w : World) (s : ByteArray) (e : Int) (n : Ino) : Prop where
  rd : RIs r w s e
  res : Box R w Ino.zero
  box : Box q w n
  rR : R ≠ r
  rq : q ≠ r
  Rq : R ≠ q
  lR : w0.heap.size ≤ R
  lr : w0.heap.size ≤ r
  lq : w0.heap.size ≤ q
  sz : s.size ≤ maxLen
  bel : Below w0.heap.size w0 w
theorem DSt.below {w0 : World} {R r q : Nat} {w w' : World} {s : ByteArray} {e : Int} {n : Ino} (h : DSt w0 R r q w s e n) (k : Below w.heap.size w w') : DSt w0 R r q w' s e n :=
  ⟨h.rd.below k, h.res.below k, h.box.below k, h.rR, h.rq, h.Rq, h.lR, h.lr, h.lq, h.sz, h.bel.next k⟩
theorem DSt.read {w0 : World} {R r q : Nat} {w : World} {s : ByteArray} {e : Int} {n : Ino} (h : DSt w0 R r q w s e n) (k : Nat) (hk : sized k = true) (hk8 : k ≤ 8) :
    Calls Tryz.prog 92 #[.pointer (some ⟨r, 0, none⟩), .int .i64 k] w fun v w' => ∃ (x : Nat) (y : Int) (s' : ByteArray) (e' : Int), v = .returned (.tuple #[.int .i64 x, .int .i64 y]) ∧ RD k s e x s' e' ∧ DSt w0 R r q w' s' e' n ∧ Kept w.heap.size r w w' :=
  (fix_r k hk hk8 r s e h.sz w h.rd).mono fun _ _ ⟨⟨y, hv⟩, hr, hkp⟩ =>
    ⟨fxN k s e, y, fxS k s e, fxE k s e, hv, rd_fx k s e,
      ⟨hr, h.res.kept hkp h.res.lt h.rR, h.box.kept hkp h.box.lt h.rq, h.rR, h.rq, h.Rq, h.lR, h.lr, h.lq, Nat.le_trans (fxS_size k s e) h.sz, h.bel.trans (hkp.below h.bel.size h.lr)⟩, hkp⟩
theorem DSt.keptq {w0 : World} {R r q : Nat} {w w' : World} {s : ByteArray} {e : Int} {n m : Ino} (h : DSt w0 R r q w s e n) (k : Kept w.heap.size q w w') (hb : Box q w' m) : DSt w0 R r q w' s e m :=
  ⟨h.rd.kept k h.rd.lt (fun e => h.rq e.symm), h.res.kept k h.res.lt h.Rq, hb, h.rR, h.rq, h.Rq, h.lR, h.lr, h.lq, h.sz, h.bel.trans (k.below h.bel.size h.lq)⟩
theorem DSt.set0 {w0 : World} {R r q : Nat} {w : World} {sx : ByteArray} {ex : Int} {k l z a b c d e f s t : Int} (h : DSt w0 R r q w sx ex ⟨k, l, z, a, b, c, d, e, f, s, t⟩) (v : Int) : DSt w0 R r q (w.setCell ⟨q, 0, none⟩ (.int .i64 v)) sx ex ⟨v, l, z, a, b, c, d, e, f, s, t⟩ := h.keptq (kept_set w q 0 _) (h.box.set0 v)
theorem DSt.set1 {w0 : World} {R r q : Nat} {w : World} {sx : ByteArray} {ex : Int} {k l z a b c d e f s t : Int} (h : DSt w0 R r q w sx ex ⟨k, l, z, a, b, c, d, e, f, s, t⟩) (v : Int) : DSt w0 R r q (w.setCell ⟨q, 1, none⟩ (.int .i64 v)) sx ex ⟨k, v, z, a, b, c, d, e, f, s, t⟩ := h.keptq (kept_set w q 1 _) (h.box.set1 v)
theorem DSt.set2 {w0 : World} {R r q : Nat} {w : World} {sx : ByteArray} {ex : Int} {k l z a b c d e f s t : Int} (h : DSt w0 R r q w sx ex ⟨k, l, z, a, b, c, d, e, f, s, t⟩) (v : Int) : DSt w0 R r q (w.setCell ⟨q, 2, none⟩ (.int .i64 v)) sx ex ⟨k, l, v, a, b, c, d, e, f, s, t⟩ := h.keptq (kept_set w q 2 _) (h.box.set2 v)
/-- and the names' block -/
structure DSn (w0 : World) (R r q p : Nat) (w : World) (s : ByteArray) (e : Int) (n : Ino) (a1 b1 c1 d1 e1 f1 s1 t1 : Int) : Prop where
  d : DSt w0 R r q w s e n
  nb : Nbx p w a1 b1 c1 d1 e1 f1 s1 t1
  pR : R ≠ p
  pr : r ≠ p
  pq : q ≠ p
  lp : w0.heap.size ≤ p
theorem Nbx.lt {p : Nat} {w : World} {a b c d e f s t : Int} (h : Nbx p w a b c d e f s t) : p < w.heap.size := lt_of_block h
theorem DSn.read {w0 : World} {R r q p : Nat} {w : World} {s : ByteArray} {e : Int} {n : Ino} {a1 b1 c1 d1 e1 f1 s1 t1 : Int} (h : DSn w0 R r q p w s e n a1 b1 c1 d1 e1 f1 s1 t1) (k : Nat) (hk : sized k = true) (hk8 : k ≤ 8) :
    Calls Tryz.prog 92 #[.pointer (some ⟨r, 0, none⟩), .int .i64 k] w fun v w' => ∃ (x : Nat) (y : Int) (s' : ByteArray) (e' : Int), v = .returned (.tuple #[.int .i64 x, .int .i64 y]) ∧ RD k s e x s' e' ∧ DSn w0 R r q p w' s' e' n a1 b1 c1 d1 e1 f1 s1 t1 :=
  (h.d.read k hk hk8).mono fun _ _ ⟨x, y, s', e', hv, hr, hd, hkp⟩ =>
    ⟨x, y, s', e', hv, hr, hd, (hkp.block p h.nb.lt (fun e => h.pr e.symm)).trans h.nb, h.pR, h.pr, h.pq, h.lp⟩
theorem DSt.keptp {w0 : World} {R r q p : Nat} {w w' : World} {s : ByteArray} {e : Int} {n : Ino} (h : DSt w0 R r q w s e n) (k : Kept w.heap.size p w w') (h1 : R ≠ p) (h2 : r ≠ p) (h3 : q ≠ p) (h4 : w0.heap.size ≤ p) : DSt w0 R r q w' s e n :=
  ⟨h.rd.kept k h.rd.lt h2, h.res.kept k h.res.lt h1, h.box.kept k h.box.lt h3, h.rR, h.rq, h.Rq, h.lR, h.lr, h.lq, h.sz, h.bel.trans (k.below h.bel.size h4)⟩
theorem DSn.new {w0 : World} {R r q : Nat} {w : World} {s : ByteArray} {e : Int} {n : Ino} (h : DSt w0 R r q w s e n) : DSn w0 R r q w.heap.size (w.alloc (.cells #[.int .i64 0, .int .i64 0, .int .i64 0, .int .i64 0, .int .i64 0, .int .i64 0, .int .i64 0, .int .i64 0] 110)) s e n 0 0 0 0 0 0 0 0 :=
  ⟨h.below (below_alloc w _), box_at _ _, fun e => by have := h.res.lt; omega, fun e => by have := h.rd.lt; omega, fun e => by have := h.box.lt; omega, h.bel.size⟩
theorem DSn.set0 {w0 : World} {R r q p : Nat} {w : World} {s : ByteArray} {e : Int} {n : Ino} {a1 b1 c1 d1 e1 f1 s1 t1 : Int} (h : DSn w0 R r q p w s e n a1 b1 c1 d1 e1 f1 s1 t1) (v : Int) : DSn w0 R r q p (w.setCell ⟨p, 0, none⟩ (.int .i64 v)) s e n v b1 c1 d1 e1 f1 s1 t1 := ⟨h.d.keptp (kept_set w p 0 _) h.pR h.pr h.pq h.lp, h.nb.set0 v, h.pR, h.pr, h.pq, h.lp⟩
theorem DSn.set1 {w0 : World} {R r q p : Nat} {w : World} {s : ByteArray} {e : Int} {n : Ino} {a1 b1 c1 d1 e1 f1 s1 t1 : Int} (h : DSn w0 R r q p w s e n a1 b1 c1 d1 e1 f1 s1 t1) (v : Int) : DSn w0 R r q p (w.setCell ⟨p, 1, none⟩ (.int .i64 v)) s e n a1 v c1 d1 e1 f1 s1 t1 := ⟨h.d.keptp (kept_set w p 1 _) h.pR h.pr h.pq h.lp, h.nb.set1 v, h.pR, h.pr, h.pq, h.lp⟩
theorem DSn.set2 {w0 : World} {R r q p : Nat} {w : World} {s : ByteArray} {e : Int} {n : Ino} {a1 b1 c1 d1 e1 f1 s1 t1 : Int} (h : DSn w0 R r q p w s e n a1 b1 c1 d1 e1 f1 s1 t1) (v : Int) : DSn w0 R r q p (w.setCell ⟨p, 2, none⟩ (.int .i64 v)) s e n a1 b1 v d1 e1 f1 s1 t1 := ⟨h.d.keptp (kept_set w p 2 _) h.pR h.pr h.pq h.lp, h.nb.set2 v, h.pR, h.pr, h.pq, h.lp⟩
theorem DSn.set3 {w0 : World} {R r q p : Nat} {w : World} {s : ByteArray} {e : Int} {n : Ino} {a1 b1 c1 d1 e1 f1 s1 t1 : Int} (h : DSn w0 R r q p w s e n a1 b1 c1 d1 e1 f1 s1 t1) (v : Int) : DSn w0 R r q p (w.setCell ⟨p, 3, none⟩ (.int .i64 v)) s e n a1 b1 c1 v e1 f1 s1 t1 := ⟨h.d.keptp (kept_set w p 3 _) h.pR h.pr h.pq h.lp, h.nb.set3 v, h.pR, h.pr, h.pq, h.lp⟩
theorem DSn.set4 {w0 : World} {R r q p : Nat} {w : World} {s : ByteArray} {e : Int} {n : Ino} {a1 b1 c1 d1 e1 f1 s1 t1 : Int} (h : DSn w0 R r q p w s e n a1 b1 c1 d1 e1 f1 s1 t1) (v : Int) : DSn w0 R r q p (w.setCell ⟨p, 4, none⟩ (.int .i64 v)) s e n a1 b1 c1 d1 v f1 s1 t1 := ⟨h.d.keptp (kept_set w p 4 _) h.pR h.pr h.pq h.lp, h.nb.set4 v, h.pR, h.pr, h.pq, h.lp⟩
theorem DSn.set5 {w0 : World} {R r q p : Nat} {w : World} {s : ByteArray} {e : Int} {n : Ino} {a1 b1 c1 d1 e1 f1 s1 t1 : Int} (h : DSn w0 R r q p w s e n a1 b1 c1 d1 e1 f1 s1 t1) (v : Int) : DSn w0 R r q p (w.setCell ⟨p, 5, none⟩ (.int .i64 v)) s e n a1 b1 c1 d1 e1 v s1 t1 := ⟨h.d.keptp (kept_set w p 5 _) h.pR h.pr h.pq h.lp, h.nb.set5 v, h.pR, h.pr, h.pq, h.lp⟩
theorem DSn.set6 {w0 : World} {R r q p : Nat} {w : World} {s : ByteArray} {e : Int} {n : Ino} {a1 b1 c1 d1 e1 f1 s1 t1 : Int} (h : DSn w0 R r q p w s e n a1 b1 c1 d1 e1 f1 s1 t1) (v : Int) : DSn w0 R r q p (w.setCell ⟨p, 6, none⟩ (.int .i64 v)) s e n a1 b1 c1 d1 e1 f1 v t1 := ⟨h.d.keptp (kept_set w p 6 _) h.pR h.pr h.pq h.lp, h.nb.set6 v, h.pR, h.pr, h.pq, h.lp⟩
theorem DSn.set7 {w0 : World} {R r q p : Nat} {w : World} {s : ByteArray} {e : Int} {n : Ino} {a1 b1 c1 d1 e1 f1 s1 t1 : Int} (h : DSn w0 R r q p w s e n a1 b1 c1 d1 e1 f1 s1 t1) (v : Int) : DSn w0 R r q p (w.setCell ⟨p, 7, none⟩ (.int .i64 v)) s e n a1 b1 c1 d1 e1 f1 s1 v := ⟨h.d.keptp (kept_set w p 7 _) h.pR h.pr h.pq h.lp, h.nb.set7 v, h.pR, h.pr, h.pq, h.lp⟩
end Go.Proofs.YtjnhibpebikkmaaGreat
