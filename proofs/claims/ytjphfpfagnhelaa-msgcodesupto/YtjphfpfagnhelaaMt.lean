import Derived.Test.YtjphfpfagnhelaaMr
import Derived.Test.YtjphfpfagnhelaaMj
namespace Go.Proofs.Ytjphfpfagnhelaa
open Go.RowKit Go.Maps Go.Shelf

theorem ret11r {a : Act} {w : World} {R : Nat} {K V N A C e : Int} {sl : Value} {post : Ending → World → Prop} (hb : NBox R w K V N A C sl) (h2 : a.tmps.getD 2 undef = .pointer (some ⟨R, 0, none⟩)) (h3 : a.tmps.getD 3 undef = .int .i64 e) (hd : a.defers = []) (hp : post (.returned (.tuple #[.agg #[.int .i64 K, .int .i64 V, .int .i64 N, .int .i64 A, .int .i64 C, sl], .int .i64 e])) w) : bodyPost Try.prog Try.f11 post .ret a w := by
  refine bodyPost_ret (v := .tuple #[.agg #[.int .i64 K, .int .i64 V, .int .i64 N, .int .i64 A, .int .i64 C, sl], .int .i64 e]) ?_ hd hp
  simp only [results, show Try.f11.results = #[.cell 2 30, .tmp 3] from rfl]
  rw [Array.getD_eq_getD_getElem?] at h2 h3
  simp [h2, h3, asAddr, load30 hb]
/-- what the reference's reader tells, and what is left -/
def QC (z : ByteArray) (e n r : Int) (z' : ByteArray) : Prop := ∀ g w, QIs g w z e → Calls Try.prog 26 #[.pointer (some ⟨g, 0, none⟩)] w fun x w' => x = .returned (.tuple #[.int .i64 n, .int .i64 r]) ∧ QIs g w' z' r ∧ Kept w.heap.size g w w'
theorem qc_ok (n : Nat) (hn : n < 9223372036854775808) (rest : List UInt8) (hs : (st (uEnc n ++ rest)).size ≤ maxLen) : QC (st (uEnc n ++ rest)) 0 n 0 (st rest) := fun g w h => by
  have hsc := scan_uEnc 9 127 (by decide) n 0 rest (by decide) (by omega) (fun h => absurd h (by decide))
  have := quint_ok g (st (uEnc n ++ rest)) (uEnc n).length hs (by rw [st_list, hsc, Nat.zero_add]) w h
  rw [st_take, val_uEnc, st_rest] at this
  exact this
theorem qc_bad (s : ByteArray) (er : Int) (k : Nat) (hs : s.size ≤ maxLen) (hsc : scan 9 127 s.data.toList 0 = (er, k)) (he : er ≠ 0) : QC s 0 0 er s := fun g w h => quint_bad g s er k hs hsc he w h
theorem qc_err (s : ByteArray) (e : Int) (he : e ≠ 0) : QC s e 0 e s := fun g w h => (quint_err g s e w h he).mono fun x w' ⟨a, q, b⟩ => ⟨a, by rw [b]; exact h, by rw [b]; exact (Kept.refl _ _ _).drewN _⟩
/-- while the reference reads a message -/
structure QSt (w0 : World) (R g : Nat) (w : World) (z : ByteArray) (e : Int) : Prop where
  rd : QIs g w z e
  res : NBox R w 0 0 0 0 0 (.slice none 0 0)
  Rg : R ≠ g
  lR : w0.heap.size ≤ R
  lg : w0.heap.size ≤ g
  bel : Below w0.heap.size w0 w
theorem QSt.step {w0 w w' : World} {R g : Nat} {z z' : ByteArray} {e e' : Int} (h : QSt w0 R g w z e) (hr : QIs g w' z' e') (k : Kept w.heap.size g w w') : QSt w0 R g w' z' e' :=
  ⟨hr, (k.block R (lt_of_block h.res) h.Rg).trans h.res, h.Rg, h.lR, h.lg, h.bel.trans (k.below h.bel.size h.lg)⟩
theorem QSt.go {w0 w : World} {R g : Nat} {z z' : ByteArray} {e n r : Int} (h : QSt w0 R g w z e) (c : QC z e n r z') : Calls Try.prog 26 #[.pointer (some ⟨g, 0, none⟩)] w fun x w' => x = .returned (.tuple #[.int .i64 n, .int .i64 r]) ∧ QSt w0 R g w' z' r :=
  (c g w h.rd).mono fun _ _ ⟨a, b, c⟩ => ⟨a, h.step b c⟩
theorem QSt.alloc {w0 w : World} {R g : Nat} {z : ByteArray} {e : Int} (h : QSt w0 R g w z e) (o : Obj) : QSt w0 R g (w.alloc o) z e :=
  ⟨(alloc_past _ _ h.rd.lt).trans h.rd, (alloc_past _ _ (lt_of_block h.res)).trans h.res, h.Rg, h.lR, h.lg, h.bel.trans ((below_alloc w o).mono h.bel.size)⟩
theorem qst_new {w w1 W0 : World} (t : ByteArray) (hW : NBox w.heap.size W0 0 0 0 0 0 (.slice none 0 0)) (sW : W0.heap.size = w.heap.size + 1) (b0 : Below w.heap.size w W0) (b1 : Below W0.heap.size W0 w1) : QSt w w.heap.size w1.heap.size (w1.alloc (.cells #[.string t, .int .i64 0] 61)) t 0 := by
  have l1 := b1.size
  rw [sW] at l1
  have e1 : NBox w.heap.size w1 0 0 0 0 0 (.slice none 0 0) := (b1.block _ (by omega)).trans hW
  have e2 : NBox w.heap.size (w1.alloc (.cells #[.string t, .int .i64 0] 61)) 0 0 0 0 0 (.slice none 0 0) := (alloc_past _ _ (by omega)).trans e1
  have b2 : Below w.heap.size W0 w1 := b1.mono (by omega)
  have b3 : Below w.heap.size w1 (w1.alloc (.cells #[.string t, .int .i64 0] 61)) := (below_alloc w1 _).mono (by omega)
  exact ⟨QIs.new t w1, e2, by omega, Nat.le_refl _, by omega, (b0.trans b2).trans b3⟩
theorem nbox_new (w : World) : NBox w.heap.size (w.alloc (.cells #[.int .i64 0, .int .i64 0, .int .i64 0, .int .i64 0, .int .i64 0, .slice none 0 0] 30)) 0 0 0 0 0 (.slice none 0 0) := box_at _ _
set_option maxRecDepth 100000 in
theorem rdec_long (s : ByteArray) (hs : 60000 < s.size) (w : World) : Calls Try.prog 11 #[.string s] w fun e w' => e = .returned (.tuple #[(.agg #[.int .i64 0, .int .i64 0, .int .i64 0, .int .i64 0, .int .i64 0, .slice none 0 0]), .int .i64 2]) ∧ Below w.heap.size w w' := by
  have hf : (60000 : Int) < (s.size : Int) := by omega
  have HN := hid (nbox_new w)
  go_enter Try.func11, Try.ntmps11
  go_wp2_with ((with_reducible refine at_store30 w.heap.size ?k1 ?k2 ?k3 ?k4 ?k5 ?k6 ?h1 ?h2 HN.out ?h4 ?hk); (case h1 => first | rfl | simp | go_simp); (case h2 => first | rfl | simp | go_simp); (case h4 => rfl); intro w9 m9 k9)
  exact ret11r m9 rfl rfl rfl ⟨rfl, (below_alloc _ _).trans (k9.below (below_alloc _ _).size (Nat.le_refl _))⟩
set_option maxRecDepth 100000 in
theorem rdec_sum (s t : ByteArray) (er : Int) (hs : s.size ≤ 60000) (he : er ≠ 0) (HO : ∀ w, Calls Try.prog 25 #[.string s] w fun e w' => e = .returned (.tuple #[.string t, .int .i64 er]) ∧ Below w.heap.size w w') (w : World) : Calls Try.prog 11 #[.string s] w fun e w' => e = .returned (.tuple #[(.agg #[.int .i64 0, .int .i64 0, .int .i64 0, .int .i64 0, .int .i64 0, .slice none 0 0]), .int .i64 4]) ∧ Below w.heap.size w w' := by
  have hf : ¬ (60000 : Int) < (s.size : Int) := by omega
  have hf2 : (er != 0) = true := by simp [he]
  have HH := hid HO
  have HN := hid (nbox_new w)
  clear HO he
  go_enter Try.func11, Try.ntmps11
  go_wp2_with (first | (go_at_call 25; refine (HH.out _).mono ?_; rintro e w1 ⟨rfl, b1⟩; have B1 := hid ((below_alloc w (.cells #[.int .i64 0, .int .i64 0, .int .i64 0, .int .i64 0, .int .i64 0, .slice none 0 0] 30)).next b1); have HN1 := hid (show NBox w.heap.size w1 0 0 0 0 0 (.slice none 0 0) from (b1.block _ (lt_of_block HN.out)).trans HN.out); clear b1) | ((with_reducible refine at_store30 w.heap.size ?k1 ?k2 ?k3 ?k4 ?k5 ?k6 ?h1 ?h2 HN1.out ?h4 ?hk); (case h1 => first | rfl | simp | go_simp); (case h2 => first | rfl | simp | go_simp); (case h4 => rfl); intro w9 m9 k9))
  exact ret11r m9 rfl rfl rfl ⟨rfl, B1.out.trans (k9.below B1.out.size (Nat.le_refl _))⟩
set_option maxRecDepth 100000 in
set_option maxHeartbeats 2000000 in
theorem rdec_bad6 (s : ByteArray) (z0 z1 z2 z3 z4 z5 z6 : ByteArray) (n1 n2 n3 n4 n5 n6 r1 r2 r3 r4 r5 r6 : Int) (hs : s.size ≤ 60000) (Q1 : QC z0 0 n1 r1 z1) (Q2 : QC z1 r1 n2 r2 z2) (Q3 : QC z2 r2 n3 r3 z3) (Q4 : QC z3 r3 n4 r4 z4) (Q5 : QC z4 r4 n5 r5 z5) (Q6 : QC z5 r5 n6 r6 z6) (HO : ∀ w, Calls Try.prog 25 #[.string s] w fun e w' => e = .returned (.tuple #[.string z0, .int .i64 0]) ∧ Below w.heap.size w w') (he : r6 ≠ 0) (w : World) : Calls Try.prog 11 #[.string s] w fun e w' => e = .returned (.tuple #[(.agg #[.int .i64 0, .int .i64 0, .int .i64 0, .int .i64 0, .int .i64 0, .slice none 0 0]), .int .i64 4]) ∧ Below w.heap.size w w' := by
  have hf : ¬ (60000 : Int) < (s.size : Int) := by omega
  have HH := hid HO
  have hx : (r6 != 0) = true := by simp [he]
  clear he
  have K1 := hid Q1
  have K2 := hid Q2
  have K3 := hid Q3
  have K4 := hid Q4
  have K5 := hid Q5
  have K6 := hid Q6
  clear HO Q1 Q2 Q3 Q4 Q5 Q6
  go_enter Try.func11, Try.ntmps11
  go_upto_region 14 with (first | (go_at_call 25; refine (HH.out _).mono ?_; rintro e w1 ⟨rfl, b1⟩; have hr := hid (qst_new z0 (nbox_new w) (alloc_size _ _) (below_alloc _ _) b1); clear b1) | (go_at_call 26; first | ((with_reducible refine (hr.out.go K1.out).mono ?_); rintro e wa ⟨rfl, r3⟩; have hr3 := hid r3; clear r3 hr K1; have hr := hr3; clear hr3) | ((with_reducible refine (hr.out.go K2.out).mono ?_); rintro e wb ⟨rfl, r3⟩; have hr3 := hid r3; clear r3 hr K2; have hr := hr3; clear hr3) | ((with_reducible refine (hr.out.go K3.out).mono ?_); rintro e wc ⟨rfl, r3⟩; have hr3 := hid r3; clear r3 hr K3; have hr := hr3; clear hr3) | ((with_reducible refine (hr.out.go K4.out).mono ?_); rintro e wd ⟨rfl, r3⟩; have hr3 := hid r3; clear r3 hr K4; have hr := hr3; clear hr3) | ((with_reducible refine (hr.out.go K5.out).mono ?_); rintro e we ⟨rfl, r3⟩; have hr3 := hid r3; clear r3 hr K5; have hr := hr3; clear hr3) | ((with_reducible refine (hr.out.go K6.out).mono ?_); rintro e wf ⟨rfl, r3⟩; have hr3 := hid r3; clear r3 hr K6; have hr := hr3; clear hr3)))
  have hq := hr.out.alloc (.cells #[.int .i64 n1, .int .i64 n2, .int .i64 n3, .int .i64 n4, .int .i64 n5, .slice none 0 0] 30)
  have c1 := hq.rd.c1
  have HRS := hid hq.res
  have HBL := hid hq.bel
  clear hr hq
  go_wp2_with ((with_reducible refine at_store30 w.heap.size ?k1 ?k2 ?k3 ?k4 ?k5 ?k6 ?h1 ?h2 HRS.out ?h4 ?hk); (case h1 => first | rfl | simp | go_simp); (case h2 => first | rfl | simp | go_simp); (case h4 => rfl); intro w9 m9 k9)
  exact ret11r m9 rfl rfl rfl ⟨rfl, HBL.out.trans (k9.below HBL.out.size (Nat.le_refl _))⟩
set_option maxRecDepth 100000 in
set_option maxHeartbeats 2000000 in
theorem rdec_many (s : ByteArray) (z0 z1 z2 z3 z4 z5 z6 : ByteArray) (n1 n2 n3 n4 n5 n6 r1 r2 r3 r4 r5 r6 : Int) (hs : s.size ≤ 60000) (Q1 : QC z0 0 n1 r1 z1) (Q2 : QC z1 r1 n2 r2 z2) (Q3 : QC z2 r2 n3 r3 z3) (Q4 : QC z3 r3 n4 r4 z4) (Q5 : QC z4 r4 n5 r5 z5) (Q6 : QC z5 r5 n6 r6 z6) (HO : ∀ w, Calls Try.prog 25 #[.string s] w fun e w' => e = .returned (.tuple #[.string z0, .int .i64 0]) ∧ Below w.heap.size w w') (he : r6 = 0) (hm : (s.size : Int) < n6) (w : World) : Calls Try.prog 11 #[.string s] w fun e w' => e = .returned (.tuple #[(.agg #[.int .i64 0, .int .i64 0, .int .i64 0, .int .i64 0, .int .i64 0, .slice none 0 0]), .int .i64 4]) ∧ Below w.heap.size w w' := by
  have hf : ¬ (60000 : Int) < (s.size : Int) := by omega
  have HH := hid HO
  subst he
  have K1 := hid Q1
  have K2 := hid Q2
  have K3 := hid Q3
  have K4 := hid Q4
  have K5 := hid Q5
  have K6 := hid Q6
  clear HO Q1 Q2 Q3 Q4 Q5 Q6
  go_enter Try.func11, Try.ntmps11
  go_upto_region 14 with (first | (go_at_call 25; refine (HH.out _).mono ?_; rintro e w1 ⟨rfl, b1⟩; have hr := hid (qst_new z0 (nbox_new w) (alloc_size _ _) (below_alloc _ _) b1); clear b1) | (go_at_call 26; first | ((with_reducible refine (hr.out.go K1.out).mono ?_); rintro e wa ⟨rfl, r3⟩; have hr3 := hid r3; clear r3 hr K1; have hr := hr3; clear hr3) | ((with_reducible refine (hr.out.go K2.out).mono ?_); rintro e wb ⟨rfl, r3⟩; have hr3 := hid r3; clear r3 hr K2; have hr := hr3; clear hr3) | ((with_reducible refine (hr.out.go K3.out).mono ?_); rintro e wc ⟨rfl, r3⟩; have hr3 := hid r3; clear r3 hr K3; have hr := hr3; clear hr3) | ((with_reducible refine (hr.out.go K4.out).mono ?_); rintro e wd ⟨rfl, r3⟩; have hr3 := hid r3; clear r3 hr K4; have hr := hr3; clear hr3) | ((with_reducible refine (hr.out.go K5.out).mono ?_); rintro e we ⟨rfl, r3⟩; have hr3 := hid r3; clear r3 hr K5; have hr := hr3; clear hr3) | ((with_reducible refine (hr.out.go K6.out).mono ?_); rintro e wf ⟨rfl, r3⟩; have hr3 := hid r3; clear r3 hr K6; have hr := hr3; clear hr3)))
  have hq := hr.out.alloc (.cells #[.int .i64 n1, .int .i64 n2, .int .i64 n3, .int .i64 n4, .int .i64 n5, .slice none 0 0] 30)
  have c1 := hq.rd.c1
  have HRS := hid hq.res
  have HBL := hid hq.bel
  clear hr hq
  go_wp2_with ((with_reducible refine at_store30 w.heap.size ?k1 ?k2 ?k3 ?k4 ?k5 ?k6 ?h1 ?h2 HRS.out ?h4 ?hk); (case h1 => first | rfl | simp | go_simp); (case h2 => first | rfl | simp | go_simp); (case h4 => rfl); intro w9 m9 k9)
  exact ret11r m9 rfl rfl rfl ⟨rfl, HBL.out.trans (k9.below HBL.out.size (Nat.le_refl _))⟩
end Go.Proofs.Ytjphfpfagnhelaa
