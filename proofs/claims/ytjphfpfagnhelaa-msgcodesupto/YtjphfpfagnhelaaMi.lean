import Derived.Test.YtjphfpfagnhelaaMh
namespace Go.Proofs.Ytjphfpfagnhelaa
open Go.RowKit Go.Maps Go.Shelf

theorem one_lie (w : World) (x : Ent) : ELie (w.alloc (.cells x.cs.toArray 54)) (.slice (some ⟨w.heap.size, 0, none⟩) 1 1) [x] := by
  refine ⟨_, 1, rfl, Nat.le_refl _, by decide, fun i hi => ⟨w.heap.size, 0, rfl, by simp, ?_⟩⟩
  have hi0 : i = 0 := by simpa using hi
  subst hi0
  have hb : Box w.heap.size (w.alloc (.cells x.cs.toArray 54)) x := box_at w _
  obtain ⟨V, C, R, K, A, N, p, t, d⟩ := x
  exact hb.cells
theorem numL_cons (x : Nat) (l : List Nat) : numL (x :: l) = uEnc x ++ numL l := by simp [numL]
/-- bytes begin with so many numbers, or with fewer, and then with none -/
theorem nums_chain : ∀ (i : Nat) (r : List UInt8), ∃ L tail, r = numL L ++ tail ∧ (∀ x ∈ L, x < 9223372036854775808) ∧ (L.length = i ∨ (L.length < i ∧ ∃ er k, er ≠ 0 ∧ scan 9 127 tail 0 = (er, k)))
  | 0, r => ⟨[], r, by simp [numL], fun x hx => by simp at hx, .inl rfl⟩
  | i + 1, r => by
    obtain ⟨er, k, hsc⟩ : ∃ er k, scan 9 127 r 0 = (er, k) := ⟨_, _, rfl⟩
    by_cases h : er = 0
    · subst h
      have hu := scan_u (st r) k (by rw [st_list]; exact hsc)
      rw [st_list] at hu
      obtain ⟨L, tail, e1, e2, e3⟩ := nums_chain i ((st r).extract k (st r).size).data.toList
      refine ⟨val (r.take k) :: L, tail, ?_, ?_, ?_⟩
      · rw [numL_cons, List.append_assoc, ← e1]; exact hu.2
      · intro x hx
        rcases List.mem_cons.1 hx with rfl | hx
        · exact hu.1
        · exact e2 x hx
      · rcases e3 with e3 | ⟨e3, e4⟩
        · exact .inl (by rw [List.length_cons, e3])
        · exact .inr ⟨by rw [List.length_cons]; omega, e4⟩
    · exact ⟨[], r, by simp [numL], fun x hx => by simp at hx, .inr ⟨by simp, er, k, h, hsc⟩⟩
/-- bytes begin with so many entries, or with fewer, and then with none -/
theorem ents_chain : ∀ (many : Nat) (r : List UInt8), r.length ≤ maxLen → ∃ es tail, r = encs es ++ tail ∧ es.all rgt = true ∧ (∀ y ∈ es, y.Ok) ∧ (∀ j (hj : j < es.length), Dec (st (encs (es.drop j) ++ tail)) es[j] ((encE es[j]).length : Nat) 0) ∧ (es.length = many ∨ (es.length < many ∧ ∃ x n e, Dec (st tail) x n e ∧ e ≠ 0))
  | 0, r, _ => ⟨[], r, by simp [encs], rfl, fun x hx => by simp at hx, fun j hj => by simp at hj, .inl rfl⟩
  | many + 1, r, hr => by
    obtain ⟨x, n, e, hd⟩ := dec_all (st r) (by rw [st_size]; exact hr)
    by_cases h : e = 0
    · subst h
      obtain ⟨y1, y2, more, y3, y4⟩ := hd.yes rfl
      rw [st_list] at y3
      subst y4
      have hm : more.length ≤ maxLen := by rw [y3, List.length_append] at hr; omega
      obtain ⟨es, tail, e1, e2, e3, e4, e5⟩ := ents_chain many more hm
      refine ⟨x :: es, tail, ?_, ?_, ?_, ?_, ?_⟩
      · rw [encs_cons, List.append_assoc, ← e1, y3]
      · rw [List.all_cons, y1, e2]; rfl
      · intro y hy
        rcases List.mem_cons.1 hy with rfl | hy
        · exact y2
        · exact e3 y hy
      · intro j hj
        cases j with
        | zero =>
          have : encs ((x :: es).drop 0) ++ tail = r := by rw [List.drop_zero, encs_cons, List.append_assoc, ← e1, y3]
          rw [this]
          exact hd
        | succ j => exact e4 j (by simpa using hj)
      · rcases e5 with e5 | ⟨e5, e6⟩
        · exact .inl (by rw [List.length_cons, e5])
        · exact .inr ⟨by rw [List.length_cons]; omega, e6⟩
    · exact ⟨[], r, by simp [encs], rfl, fun x hx => by simp at hx, fun j hj => by simp at hj, .inr ⟨by simp, x, n, e, hd, h⟩⟩
theorem encs_many : ∀ l : List Ent, l.all rgt = true → (∀ y ∈ l, y.Ok) → 9 * l.length ≤ (encs l).length
  | [], _, _ => by simp [encs]
  | x :: l, h, hk => by
    rw [List.all_cons, Bool.and_eq_true] at h
    have a := encE_len x h.1 (hk x List.mem_cons_self)
    have b := encs_many l h.2 fun y hy => hk y (List.mem_cons_of_mem _ hy)
    rw [encs_cons, List.length_append, List.length_cons]
    omega
theorem number_ok (n : Nat) (hn : n < 9223372036854775808) (rest : List UInt8) (hs : (st (uEnc n ++ rest)).size ≤ maxLen) (g : Nat) (w : World) (h : RIs g w (st (uEnc n ++ rest)) 0) :
    Calls Try.prog 46 #[.pointer (some ⟨g, 0, none⟩)] w fun x w' => x = .returned (.int .i64 n) ∧ RIs g w' (st rest) 0 ∧ Kept w.heap.size g w w' := by
  have HR := hid (rd_uint n hn rest hs g w h)
  have NO := hid need_ok
  clear h hs hn
  go_enter Try.func46, Try.ntmps46
  go_wp2_with (first | (go_at_call 61; refine HR.out.mono ?_; rintro e w1 ⟨rfl, r1, k1⟩) | (go_at_call 32; refine (NO.out _ _).mono ?_; rintro e w2 ⟨rfl, rfl⟩))
  go_ret
  exact ⟨rfl, r1, k1⟩
theorem number_bad (s : ByteArray) (er : Int) (k : Nat) (hs : s.size ≤ maxLen) (hsc : scan 9 127 s.data.toList 0 = (er, k)) (he : er ≠ 0) (g : Nat) (w : World) (h : RIs g w s 0) :
    Calls Try.prog 46 #[.pointer (some ⟨g, 0, none⟩)] w fun x w' => x = .panicked [brk 4] ∧ Kept w.heap.size g w w' := by
  have HR := hid (uint_bad g s er k hs hsc he w h)
  have NN := hid need_no
  have hf : (er == 0) = false := by simp [he]
  clear h hs hsc he
  go_enter Try.func46, Try.ntmps46
  go_wp2_with (first | (go_at_call 61; refine HR.out.mono ?_; rintro e w1 ⟨rfl, r1, k1⟩) | (go_at_call 32; refine (NN.out _ _).mono ?_; rintro e w2 ⟨rfl, rfl⟩))
  exact ⟨rfl, rfl, k1⟩
/-- while a message is read: the result's variable R, the reader g -/
structure RSt (w0 : World) (R g : Nat) (w : World) (z : ByteArray) : Prop where
  rd : RIs g w z 0
  res : MBox R w 0 0 0 0 0 (.slice none 0 0)
  Rg : R ≠ g
  lR : w0.heap.size ≤ R
  lg : w0.heap.size ≤ g
  bel : Below w0.heap.size w0 w
theorem RSt.step {w0 w w' : World} {R g : Nat} {z z' : ByteArray} (h : RSt w0 R g w z) (hr : RIs g w' z' 0) (k : Kept w.heap.size g w w') : RSt w0 R g w' z' :=
  ⟨hr, (k.block R (lt_of_block h.res) h.Rg).trans h.res, h.Rg, h.lR, h.lg, h.bel.trans (k.below h.bel.size h.lg)⟩
theorem RSt.num {w0 w : World} {R g : Nat} {n : Nat} {rest : List UInt8} (h : RSt w0 R g w (st (uEnc n ++ rest))) (hn : n < 9223372036854775808) (hs : (st (uEnc n ++ rest)).size ≤ maxLen) :
    Calls Try.prog 46 #[.pointer (some ⟨g, 0, none⟩)] w fun x w' => x = .returned (.int .i64 n) ∧ RSt w0 R g w' (st rest) :=
  (number_ok n hn rest hs g w h.rd).mono fun _ _ ⟨a, b, c⟩ => ⟨a, h.step b c⟩
theorem RSt.bad {w0 w : World} {R g : Nat} {s : ByteArray} (h : RSt w0 R g w s) {er : Int} {k : Nat} (hs : s.size ≤ maxLen) (hsc : scan 9 127 s.data.toList 0 = (er, k)) (he : er ≠ 0) :
    Calls Try.prog 46 #[.pointer (some ⟨g, 0, none⟩)] w fun x w' => x = .panicked [brk 4] ∧ Below w0.heap.size w0 w' :=
  (number_bad s er k hs hsc he g w h.rd).mono fun _ _ ⟨a, b⟩ => ⟨a, h.bel.trans (b.below h.bel.size h.lg)⟩
theorem rst_new {w w1 W0 : World} (t : ByteArray) (hW : W0.heap[w.heap.size]? = some (.cells #[.int .i64 0, .int .i64 0, .int .i64 0, .int .i64 0, .int .i64 0, .slice none 0 0] 24 (0, 0))) (sW : W0.heap.size = w.heap.size + 1) (b0 : Below w.heap.size w W0) (b1 : Below W0.heap.size W0 w1) : RSt w w.heap.size w1.heap.size (w1.alloc (.cells #[.string t, .int .i64 0] 105)) t := by
  have l1 := b1.size
  rw [sW] at l1
  have e1 : MBox w.heap.size w1 0 0 0 0 0 (.slice none 0 0) := (b1.block _ (by omega)).trans hW
  have e2 : MBox w.heap.size (w1.alloc (.cells #[.string t, .int .i64 0] 105)) 0 0 0 0 0 (.slice none 0 0) := (alloc_past _ _ (by omega)).trans e1
  have b2 : Below w.heap.size W0 w1 := b1.mono (by omega)
  have b3 : Below w.heap.size w1 (w1.alloc (.cells #[.string t, .int .i64 0] 105)) := (below_alloc w1 _).mono (by omega)
  exact ⟨RIs.new t w1, e2, by omega, Nat.le_refl _, by omega, (b0.trans b2).trans b3⟩
theorem RSt.alloc {w0 w : World} {R g : Nat} {z : ByteArray} (h : RSt w0 R g w z) (o : Obj) : RSt w0 R g (w.alloc o) z :=
  ⟨(alloc_past _ _ h.rd.lt).trans h.rd, (alloc_past _ _ (lt_of_block h.res)).trans h.res, h.Rg, h.lR, h.lg, h.bel.trans ((below_alloc w o).mono h.bel.size)⟩
set_option maxRecDepth 100000 in
theorem read_long (s : ByteArray) (hs : 60000 < s.size) (w : World) : Calls Try.prog 24 #[.string s] w fun e w' => e = .panicked [brk 2] ∧ Below w.heap.size w w' := by
  have NN := hid need_no
  have hf : ¬ (s.size : Int) ≤ 60000 := by omega
  go_enter Try.func24, Try.ntmps24
  go_wp2_with (first | (go_at_call 32; refine (NN.out _ _).mono ?_; rintro e w2 ⟨rfl, rfl⟩))
  exact ⟨rfl, rfl, below_alloc _ _⟩
set_option maxRecDepth 100000 in
theorem read_sum (s t : ByteArray) (er : Int) (hs : s.size ≤ 60000) (he : er ≠ 0) (HO : ∀ w, Calls Try.prog 44 #[.string s] w fun e w' => e = .returned (.tuple #[.string t, .int .i64 er]) ∧ Below w.heap.size w w') (w : World) : Calls Try.prog 24 #[.string s] w fun e w' => e = .panicked [brk 4] ∧ Below w.heap.size w w' := by
  have NN := hid need_no
  have NO := hid need_ok
  have HH := hid HO
  have hf : (s.size : Int) ≤ 60000 := by omega
  have hf2 : (er == 0) = false := by simp [he]
  clear HO he
  go_enter Try.func24, Try.ntmps24
  go_wp2_with (first | (go_at_call 32; refine (NO.out _ _).mono ?_; rintro e w2 ⟨rfl, rfl⟩; clear NO) | (go_at_call 44; refine (HH.out _).mono ?_; rintro e w1 ⟨rfl, b1⟩))
  refine (NN.out _ _).mono ?_
  rintro e w2 ⟨rfl, rfl⟩
  go_wp2
  exact ⟨rfl, rfl, (below_alloc _ _).next b1⟩
set_option maxRecDepth 100000 in
set_option maxHeartbeats 1000000 in
theorem read_num0 (s : ByteArray) (tail : List UInt8) (er : Int) (kk : Nat) (hs : s.size ≤ 60000) (hT : (numL [] ++ tail).length ≤ 60000) (he : er ≠ 0) (hsc : scan 9 127 tail 0 = (er, kk)) (HO : ∀ w, Calls Try.prog 44 #[.string s] w fun e w' => e = .returned (.tuple #[.string (st (numL [] ++ tail)), .int .i64 0]) ∧ Below w.heap.size w w') (w : World) : Calls Try.prog 24 #[.string s] w fun e w' => e = .panicked [brk 4] ∧ Below w.heap.size w w' := by
  have NO := hid need_ok
  have HH := hid HO
  have hf : (s.size : Int) ≤ 60000 := by omega
  obtain ⟨z0, hz0⟩ : ∃ z, z = st (numL [] ++ tail) := ⟨_, rfl⟩
  have NB : Hid (∀ w0 R g w, RSt w0 R g w z0 → Calls Try.prog 46 #[.pointer (some ⟨g, 0, none⟩)] w fun x w' => x = .panicked [brk 4] ∧ Below w0.heap.size w0 w') := hid (fun w0 R g w h => by
    rw [hz0] at h
    refine h.bad ?_ (by rw [st_list]; simpa [numL] using hsc) he
    rw [st_size]
    simp only [List.length_append] at hT ⊢
    unfold maxLen
    omega)
  rw [← hz0] at HH
  clear HO he hsc hT hz0
  go_enter Try.func24, Try.ntmps24
  go_wp2_with (first | (go_at_call 32; refine (NO.out _ _).mono ?_; rintro e w2 ⟨rfl, rfl⟩) | (go_at_call 44; refine (HH.out _).mono ?_; rintro e w1 ⟨rfl, b1⟩) | (go_at_call 45; refine (of_any _ _).mono ?_; rintro e w2 ⟨rfl, rfl⟩; have hr := hid (rst_new z0 (box_at _ _) (alloc_size _ _) (below_alloc _ _) b1)) | (go_at_call 46; first | (refine (NB.out _ _ _ _ (by with_reducible first | exact hr.out | exact hr.out.alloc _)).mono ?_; rintro e w3 ⟨rfl, b3⟩)))
  exact ⟨rfl, rfl, b3⟩
set_option maxRecDepth 100000 in
set_option maxHeartbeats 1000000 in
theorem read_num1 (s : ByteArray) (n0 : Nat) (tail : List UInt8) (er : Int) (kk : Nat) (hs : s.size ≤ 60000) (hT : (numL [n0] ++ tail).length ≤ 60000) (h0 : n0 < 9223372036854775808) (he : er ≠ 0) (hsc : scan 9 127 tail 0 = (er, kk)) (HO : ∀ w, Calls Try.prog 44 #[.string s] w fun e w' => e = .returned (.tuple #[.string (st (numL [n0] ++ tail)), .int .i64 0]) ∧ Below w.heap.size w w') (w : World) : Calls Try.prog 24 #[.string s] w fun e w' => e = .panicked [brk 4] ∧ Below w.heap.size w w' := by
  have NO := hid need_ok
  have HH := hid HO
  have hf : (s.size : Int) ≤ 60000 := by omega
  obtain ⟨z0, hz0⟩ : ∃ z, z = st (numL [n0] ++ tail) := ⟨_, rfl⟩
  obtain ⟨z1, hz1⟩ : ∃ z, z = st (numL [] ++ tail) := ⟨_, rfl⟩
  have N0 : Hid (∀ w0 R g w, RSt w0 R g w z0 → Calls Try.prog 46 #[.pointer (some ⟨g, 0, none⟩)] w fun x w' => x = .returned (.int .i64 n0) ∧ RSt w0 R g w' z1) := hid (fun w0 R g w h => by
    rw [hz0, numL_cons, List.append_assoc] at h
    rw [hz1]
    refine h.num h0 ?_
    rw [st_size]
    simp only [numL_cons, List.length_append] at hT ⊢
    unfold maxLen
    omega)
  have NB : Hid (∀ w0 R g w, RSt w0 R g w z1 → Calls Try.prog 46 #[.pointer (some ⟨g, 0, none⟩)] w fun x w' => x = .panicked [brk 4] ∧ Below w0.heap.size w0 w') := hid (fun w0 R g w h => by
    rw [hz1] at h
    refine h.bad ?_ (by rw [st_list]; simpa [numL] using hsc) he
    rw [st_size]
    simp only [numL_cons, List.length_append] at hT ⊢
    unfold maxLen
    omega)
  rw [← hz0] at HH
  clear HO he hsc hT hz0 hz1 h0
  go_enter Try.func24, Try.ntmps24
  go_wp2_with (first | (go_at_call 32; refine (NO.out _ _).mono ?_; rintro e w2 ⟨rfl, rfl⟩) | (go_at_call 44; refine (HH.out _).mono ?_; rintro e w1 ⟨rfl, b1⟩) | (go_at_call 45; refine (of_any _ _).mono ?_; rintro e w2 ⟨rfl, rfl⟩; have hr := hid (rst_new z0 (box_at _ _) (alloc_size _ _) (below_alloc _ _) b1)) | (go_at_call 46; first | (refine (N0.out _ _ _ _ (by with_reducible first | exact hr.out | exact hr.out.alloc _)).mono ?_; rintro e w3 ⟨rfl, r3⟩; have hr3 := hid r3; clear r3 hr; have hr := hr3; clear hr3) | (refine (NB.out _ _ _ _ (by with_reducible first | exact hr.out | exact hr.out.alloc _)).mono ?_; rintro e w3 ⟨rfl, b3⟩)))
  exact ⟨rfl, rfl, b3⟩
set_option maxRecDepth 100000 in
set_option maxHeartbeats 1000000 in
theorem read_num2 (s : ByteArray) (n0 n1 : Nat) (tail : List UInt8) (er : Int) (kk : Nat) (hs : s.size ≤ 60000) (hT : (numL [n0, n1] ++ tail).length ≤ 60000) (h0 : n0 < 9223372036854775808) (h1 : n1 < 9223372036854775808) (he : er ≠ 0) (hsc : scan 9 127 tail 0 = (er, kk)) (HO : ∀ w, Calls Try.prog 44 #[.string s] w fun e w' => e = .returned (.tuple #[.string (st (numL [n0, n1] ++ tail)), .int .i64 0]) ∧ Below w.heap.size w w') (w : World) : Calls Try.prog 24 #[.string s] w fun e w' => e = .panicked [brk 4] ∧ Below w.heap.size w w' := by
  have NO := hid need_ok
  have HH := hid HO
  have hf : (s.size : Int) ≤ 60000 := by omega
  obtain ⟨z0, hz0⟩ : ∃ z, z = st (numL [n0, n1] ++ tail) := ⟨_, rfl⟩
  obtain ⟨z1, hz1⟩ : ∃ z, z = st (numL [n1] ++ tail) := ⟨_, rfl⟩
  obtain ⟨z2, hz2⟩ : ∃ z, z = st (numL [] ++ tail) := ⟨_, rfl⟩
  have N0 : Hid (∀ w0 R g w, RSt w0 R g w z0 → Calls Try.prog 46 #[.pointer (some ⟨g, 0, none⟩)] w fun x w' => x = .returned (.int .i64 n0) ∧ RSt w0 R g w' z1) := hid (fun w0 R g w h => by
    rw [hz0, numL_cons, List.append_assoc] at h
    rw [hz1]
    refine h.num h0 ?_
    rw [st_size]
    simp only [numL_cons, List.length_append] at hT ⊢
    unfold maxLen
    omega)
  have N1 : Hid (∀ w0 R g w, RSt w0 R g w z1 → Calls Try.prog 46 #[.pointer (some ⟨g, 0, none⟩)] w fun x w' => x = .returned (.int .i64 n1) ∧ RSt w0 R g w' z2) := hid (fun w0 R g w h => by
    rw [hz1, numL_cons, List.append_assoc] at h
    rw [hz2]
    refine h.num h1 ?_
    rw [st_size]
    simp only [numL_cons, List.length_append] at hT ⊢
    unfold maxLen
    omega)
  have NB : Hid (∀ w0 R g w, RSt w0 R g w z2 → Calls Try.prog 46 #[.pointer (some ⟨g, 0, none⟩)] w fun x w' => x = .panicked [brk 4] ∧ Below w0.heap.size w0 w') := hid (fun w0 R g w h => by
    rw [hz2] at h
    refine h.bad ?_ (by rw [st_list]; simpa [numL] using hsc) he
    rw [st_size]
    simp only [numL_cons, List.length_append] at hT ⊢
    unfold maxLen
    omega)
  rw [← hz0] at HH
  clear HO he hsc hT hz0 hz1 hz2 h0 h1
  go_enter Try.func24, Try.ntmps24
  go_wp2_with (first | (go_at_call 32; refine (NO.out _ _).mono ?_; rintro e w2 ⟨rfl, rfl⟩) | (go_at_call 44; refine (HH.out _).mono ?_; rintro e w1 ⟨rfl, b1⟩) | (go_at_call 45; refine (of_any _ _).mono ?_; rintro e w2 ⟨rfl, rfl⟩; have hr := hid (rst_new z0 (box_at _ _) (alloc_size _ _) (below_alloc _ _) b1)) | (go_at_call 46; first | (refine (N0.out _ _ _ _ (by with_reducible first | exact hr.out | exact hr.out.alloc _)).mono ?_; rintro e w3 ⟨rfl, r3⟩; have hr3 := hid r3; clear r3 hr; have hr := hr3; clear hr3) | (refine (N1.out _ _ _ _ (by with_reducible first | exact hr.out | exact hr.out.alloc _)).mono ?_; rintro e w3 ⟨rfl, r3⟩; have hr3 := hid r3; clear r3 hr; have hr := hr3; clear hr3) | (refine (NB.out _ _ _ _ (by with_reducible first | exact hr.out | exact hr.out.alloc _)).mono ?_; rintro e w3 ⟨rfl, b3⟩)))
  exact ⟨rfl, rfl, b3⟩
set_option maxRecDepth 100000 in
set_option maxHeartbeats 1000000 in
theorem read_num3 (s : ByteArray) (n0 n1 n2 : Nat) (tail : List UInt8) (er : Int) (kk : Nat) (hs : s.size ≤ 60000) (hT : (numL [n0, n1, n2] ++ tail).length ≤ 60000) (h0 : n0 < 9223372036854775808) (h1 : n1 < 9223372036854775808) (h2 : n2 < 9223372036854775808) (he : er ≠ 0) (hsc : scan 9 127 tail 0 = (er, kk)) (HO : ∀ w, Calls Try.prog 44 #[.string s] w fun e w' => e = .returned (.tuple #[.string (st (numL [n0, n1, n2] ++ tail)), .int .i64 0]) ∧ Below w.heap.size w w') (w : World) : Calls Try.prog 24 #[.string s] w fun e w' => e = .panicked [brk 4] ∧ Below w.heap.size w w' := by
  have NO := hid need_ok
  have HH := hid HO
  have hf : (s.size : Int) ≤ 60000 := by omega
  obtain ⟨z0, hz0⟩ : ∃ z, z = st (numL [n0, n1, n2] ++ tail) := ⟨_, rfl⟩
  obtain ⟨z1, hz1⟩ : ∃ z, z = st (numL [n1, n2] ++ tail) := ⟨_, rfl⟩
  obtain ⟨z2, hz2⟩ : ∃ z, z = st (numL [n2] ++ tail) := ⟨_, rfl⟩
  obtain ⟨z3, hz3⟩ : ∃ z, z = st (numL [] ++ tail) := ⟨_, rfl⟩
  have N0 : Hid (∀ w0 R g w, RSt w0 R g w z0 → Calls Try.prog 46 #[.pointer (some ⟨g, 0, none⟩)] w fun x w' => x = .returned (.int .i64 n0) ∧ RSt w0 R g w' z1) := hid (fun w0 R g w h => by
    rw [hz0, numL_cons, List.append_assoc] at h
    rw [hz1]
    refine h.num h0 ?_
    rw [st_size]
    simp only [numL_cons, List.length_append] at hT ⊢
    unfold maxLen
    omega)
  have N1 : Hid (∀ w0 R g w, RSt w0 R g w z1 → Calls Try.prog 46 #[.pointer (some ⟨g, 0, none⟩)] w fun x w' => x = .returned (.int .i64 n1) ∧ RSt w0 R g w' z2) := hid (fun w0 R g w h => by
    rw [hz1, numL_cons, List.append_assoc] at h
    rw [hz2]
    refine h.num h1 ?_
    rw [st_size]
    simp only [numL_cons, List.length_append] at hT ⊢
    unfold maxLen
    omega)
  have N2 : Hid (∀ w0 R g w, RSt w0 R g w z2 → Calls Try.prog 46 #[.pointer (some ⟨g, 0, none⟩)] w fun x w' => x = .returned (.int .i64 n2) ∧ RSt w0 R g w' z3) := hid (fun w0 R g w h => by
    rw [hz2, numL_cons, List.append_assoc] at h
    rw [hz3]
    refine h.num h2 ?_
    rw [st_size]
    simp only [numL_cons, List.length_append] at hT ⊢
    unfold maxLen
    omega)
  have NB : Hid (∀ w0 R g w, RSt w0 R g w z3 → Calls Try.prog 46 #[.pointer (some ⟨g, 0, none⟩)] w fun x w' => x = .panicked [brk 4] ∧ Below w0.heap.size w0 w') := hid (fun w0 R g w h => by
    rw [hz3] at h
    refine h.bad ?_ (by rw [st_list]; simpa [numL] using hsc) he
    rw [st_size]
    simp only [numL_cons, List.length_append] at hT ⊢
    unfold maxLen
    omega)
  rw [← hz0] at HH
  clear HO he hsc hT hz0 hz1 hz2 hz3 h0 h1 h2
  go_enter Try.func24, Try.ntmps24
  go_wp2_with (first | (go_at_call 32; refine (NO.out _ _).mono ?_; rintro e w2 ⟨rfl, rfl⟩) | (go_at_call 44; refine (HH.out _).mono ?_; rintro e w1 ⟨rfl, b1⟩) | (go_at_call 45; refine (of_any _ _).mono ?_; rintro e w2 ⟨rfl, rfl⟩; have hr := hid (rst_new z0 (box_at _ _) (alloc_size _ _) (below_alloc _ _) b1)) | (go_at_call 46; first | (refine (N0.out _ _ _ _ (by with_reducible first | exact hr.out | exact hr.out.alloc _)).mono ?_; rintro e w3 ⟨rfl, r3⟩; have hr3 := hid r3; clear r3 hr; have hr := hr3; clear hr3) | (refine (N1.out _ _ _ _ (by with_reducible first | exact hr.out | exact hr.out.alloc _)).mono ?_; rintro e w3 ⟨rfl, r3⟩; have hr3 := hid r3; clear r3 hr; have hr := hr3; clear hr3) | (refine (N2.out _ _ _ _ (by with_reducible first | exact hr.out | exact hr.out.alloc _)).mono ?_; rintro e w3 ⟨rfl, r3⟩; have hr3 := hid r3; clear r3 hr; have hr := hr3; clear hr3) | (refine (NB.out _ _ _ _ (by with_reducible first | exact hr.out | exact hr.out.alloc _)).mono ?_; rintro e w3 ⟨rfl, b3⟩)))
  exact ⟨rfl, rfl, b3⟩
set_option maxRecDepth 100000 in
set_option maxHeartbeats 1000000 in
theorem read_num4 (s : ByteArray) (n0 n1 n2 n3 : Nat) (tail : List UInt8) (er : Int) (kk : Nat) (hs : s.size ≤ 60000) (hT : (numL [n0, n1, n2, n3] ++ tail).length ≤ 60000) (h0 : n0 < 9223372036854775808) (h1 : n1 < 9223372036854775808) (h2 : n2 < 9223372036854775808) (h3 : n3 < 9223372036854775808) (he : er ≠ 0) (hsc : scan 9 127 tail 0 = (er, kk)) (HO : ∀ w, Calls Try.prog 44 #[.string s] w fun e w' => e = .returned (.tuple #[.string (st (numL [n0, n1, n2, n3] ++ tail)), .int .i64 0]) ∧ Below w.heap.size w w') (w : World) : Calls Try.prog 24 #[.string s] w fun e w' => e = .panicked [brk 4] ∧ Below w.heap.size w w' := by
  have NO := hid need_ok
  have HH := hid HO
  have hf : (s.size : Int) ≤ 60000 := by omega
  obtain ⟨z0, hz0⟩ : ∃ z, z = st (numL [n0, n1, n2, n3] ++ tail) := ⟨_, rfl⟩
  obtain ⟨z1, hz1⟩ : ∃ z, z = st (numL [n1, n2, n3] ++ tail) := ⟨_, rfl⟩
  obtain ⟨z2, hz2⟩ : ∃ z, z = st (numL [n2, n3] ++ tail) := ⟨_, rfl⟩
  obtain ⟨z3, hz3⟩ : ∃ z, z = st (numL [n3] ++ tail) := ⟨_, rfl⟩
  obtain ⟨z4, hz4⟩ : ∃ z, z = st (numL [] ++ tail) := ⟨_, rfl⟩
  have N0 : Hid (∀ w0 R g w, RSt w0 R g w z0 → Calls Try.prog 46 #[.pointer (some ⟨g, 0, none⟩)] w fun x w' => x = .returned (.int .i64 n0) ∧ RSt w0 R g w' z1) := hid (fun w0 R g w h => by
    rw [hz0, numL_cons, List.append_assoc] at h
    rw [hz1]
    refine h.num h0 ?_
    rw [st_size]
    simp only [numL_cons, List.length_append] at hT ⊢
    unfold maxLen
    omega)
  have N1 : Hid (∀ w0 R g w, RSt w0 R g w z1 → Calls Try.prog 46 #[.pointer (some ⟨g, 0, none⟩)] w fun x w' => x = .returned (.int .i64 n1) ∧ RSt w0 R g w' z2) := hid (fun w0 R g w h => by
    rw [hz1, numL_cons, List.append_assoc] at h
    rw [hz2]
    refine h.num h1 ?_
    rw [st_size]
    simp only [numL_cons, List.length_append] at hT ⊢
    unfold maxLen
    omega)
  have N2 : Hid (∀ w0 R g w, RSt w0 R g w z2 → Calls Try.prog 46 #[.pointer (some ⟨g, 0, none⟩)] w fun x w' => x = .returned (.int .i64 n2) ∧ RSt w0 R g w' z3) := hid (fun w0 R g w h => by
    rw [hz2, numL_cons, List.append_assoc] at h
    rw [hz3]
    refine h.num h2 ?_
    rw [st_size]
    simp only [numL_cons, List.length_append] at hT ⊢
    unfold maxLen
    omega)
  have N3 : Hid (∀ w0 R g w, RSt w0 R g w z3 → Calls Try.prog 46 #[.pointer (some ⟨g, 0, none⟩)] w fun x w' => x = .returned (.int .i64 n3) ∧ RSt w0 R g w' z4) := hid (fun w0 R g w h => by
    rw [hz3, numL_cons, List.append_assoc] at h
    rw [hz4]
    refine h.num h3 ?_
    rw [st_size]
    simp only [numL_cons, List.length_append] at hT ⊢
    unfold maxLen
    omega)
  have NB : Hid (∀ w0 R g w, RSt w0 R g w z4 → Calls Try.prog 46 #[.pointer (some ⟨g, 0, none⟩)] w fun x w' => x = .panicked [brk 4] ∧ Below w0.heap.size w0 w') := hid (fun w0 R g w h => by
    rw [hz4] at h
    refine h.bad ?_ (by rw [st_list]; simpa [numL] using hsc) he
    rw [st_size]
    simp only [numL_cons, List.length_append] at hT ⊢
    unfold maxLen
    omega)
  rw [← hz0] at HH
  clear HO he hsc hT hz0 hz1 hz2 hz3 hz4 h0 h1 h2 h3
  go_enter Try.func24, Try.ntmps24
  go_wp2_with (first | (go_at_call 32; refine (NO.out _ _).mono ?_; rintro e w2 ⟨rfl, rfl⟩) | (go_at_call 44; refine (HH.out _).mono ?_; rintro e w1 ⟨rfl, b1⟩) | (go_at_call 45; refine (of_any _ _).mono ?_; rintro e w2 ⟨rfl, rfl⟩; have hr := hid (rst_new z0 (box_at _ _) (alloc_size _ _) (below_alloc _ _) b1)) | (go_at_call 46; first | (refine (N0.out _ _ _ _ (by with_reducible first | exact hr.out | exact hr.out.alloc _)).mono ?_; rintro e w3 ⟨rfl, r3⟩; have hr3 := hid r3; clear r3 hr; have hr := hr3; clear hr3) | (refine (N1.out _ _ _ _ (by with_reducible first | exact hr.out | exact hr.out.alloc _)).mono ?_; rintro e w3 ⟨rfl, r3⟩; have hr3 := hid r3; clear r3 hr; have hr := hr3; clear hr3) | (refine (N2.out _ _ _ _ (by with_reducible first | exact hr.out | exact hr.out.alloc _)).mono ?_; rintro e w3 ⟨rfl, r3⟩; have hr3 := hid r3; clear r3 hr; have hr := hr3; clear hr3) | (refine (N3.out _ _ _ _ (by with_reducible first | exact hr.out | exact hr.out.alloc _)).mono ?_; rintro e w3 ⟨rfl, r3⟩; have hr3 := hid r3; clear r3 hr; have hr := hr3; clear hr3) | (refine (NB.out _ _ _ _ (by with_reducible first | exact hr.out | exact hr.out.alloc _)).mono ?_; rintro e w3 ⟨rfl, b3⟩)))
  exact ⟨rfl, rfl, b3⟩
set_option maxRecDepth 100000 in
set_option maxHeartbeats 1000000 in
theorem read_num5 (s : ByteArray) (n0 n1 n2 n3 n4 : Nat) (tail : List UInt8) (er : Int) (kk : Nat) (hs : s.size ≤ 60000) (hT : (numL [n0, n1, n2, n3, n4] ++ tail).length ≤ 60000) (h0 : n0 < 9223372036854775808) (h1 : n1 < 9223372036854775808) (h2 : n2 < 9223372036854775808) (h3 : n3 < 9223372036854775808) (h4 : n4 < 9223372036854775808) (he : er ≠ 0) (hsc : scan 9 127 tail 0 = (er, kk)) (HO : ∀ w, Calls Try.prog 44 #[.string s] w fun e w' => e = .returned (.tuple #[.string (st (numL [n0, n1, n2, n3, n4] ++ tail)), .int .i64 0]) ∧ Below w.heap.size w w') (w : World) : Calls Try.prog 24 #[.string s] w fun e w' => e = .panicked [brk 4] ∧ Below w.heap.size w w' := by
  have NO := hid need_ok
  have HH := hid HO
  have hf : (s.size : Int) ≤ 60000 := by omega
  obtain ⟨z0, hz0⟩ : ∃ z, z = st (numL [n0, n1, n2, n3, n4] ++ tail) := ⟨_, rfl⟩
  obtain ⟨z1, hz1⟩ : ∃ z, z = st (numL [n1, n2, n3, n4] ++ tail) := ⟨_, rfl⟩
  obtain ⟨z2, hz2⟩ : ∃ z, z = st (numL [n2, n3, n4] ++ tail) := ⟨_, rfl⟩
  obtain ⟨z3, hz3⟩ : ∃ z, z = st (numL [n3, n4] ++ tail) := ⟨_, rfl⟩
  obtain ⟨z4, hz4⟩ : ∃ z, z = st (numL [n4] ++ tail) := ⟨_, rfl⟩
  obtain ⟨z5, hz5⟩ : ∃ z, z = st (numL [] ++ tail) := ⟨_, rfl⟩
  have N0 : Hid (∀ w0 R g w, RSt w0 R g w z0 → Calls Try.prog 46 #[.pointer (some ⟨g, 0, none⟩)] w fun x w' => x = .returned (.int .i64 n0) ∧ RSt w0 R g w' z1) := hid (fun w0 R g w h => by
    rw [hz0, numL_cons, List.append_assoc] at h
    rw [hz1]
    refine h.num h0 ?_
    rw [st_size]
    simp only [numL_cons, List.length_append] at hT ⊢
    unfold maxLen
    omega)
  have N1 : Hid (∀ w0 R g w, RSt w0 R g w z1 → Calls Try.prog 46 #[.pointer (some ⟨g, 0, none⟩)] w fun x w' => x = .returned (.int .i64 n1) ∧ RSt w0 R g w' z2) := hid (fun w0 R g w h => by
    rw [hz1, numL_cons, List.append_assoc] at h
    rw [hz2]
    refine h.num h1 ?_
    rw [st_size]
    simp only [numL_cons, List.length_append] at hT ⊢
    unfold maxLen
    omega)
  have N2 : Hid (∀ w0 R g w, RSt w0 R g w z2 → Calls Try.prog 46 #[.pointer (some ⟨g, 0, none⟩)] w fun x w' => x = .returned (.int .i64 n2) ∧ RSt w0 R g w' z3) := hid (fun w0 R g w h => by
    rw [hz2, numL_cons, List.append_assoc] at h
    rw [hz3]
    refine h.num h2 ?_
    rw [st_size]
    simp only [numL_cons, List.length_append] at hT ⊢
    unfold maxLen
    omega)
  have N3 : Hid (∀ w0 R g w, RSt w0 R g w z3 → Calls Try.prog 46 #[.pointer (some ⟨g, 0, none⟩)] w fun x w' => x = .returned (.int .i64 n3) ∧ RSt w0 R g w' z4) := hid (fun w0 R g w h => by
    rw [hz3, numL_cons, List.append_assoc] at h
    rw [hz4]
    refine h.num h3 ?_
    rw [st_size]
    simp only [numL_cons, List.length_append] at hT ⊢
    unfold maxLen
    omega)
  have N4 : Hid (∀ w0 R g w, RSt w0 R g w z4 → Calls Try.prog 46 #[.pointer (some ⟨g, 0, none⟩)] w fun x w' => x = .returned (.int .i64 n4) ∧ RSt w0 R g w' z5) := hid (fun w0 R g w h => by
    rw [hz4, numL_cons, List.append_assoc] at h
    rw [hz5]
    refine h.num h4 ?_
    rw [st_size]
    simp only [numL_cons, List.length_append] at hT ⊢
    unfold maxLen
    omega)
  have NB : Hid (∀ w0 R g w, RSt w0 R g w z5 → Calls Try.prog 46 #[.pointer (some ⟨g, 0, none⟩)] w fun x w' => x = .panicked [brk 4] ∧ Below w0.heap.size w0 w') := hid (fun w0 R g w h => by
    rw [hz5] at h
    refine h.bad ?_ (by rw [st_list]; simpa [numL] using hsc) he
    rw [st_size]
    simp only [numL_cons, List.length_append] at hT ⊢
    unfold maxLen
    omega)
  rw [← hz0] at HH
  clear HO he hsc hT hz0 hz1 hz2 hz3 hz4 hz5 h0 h1 h2 h3 h4
  go_enter Try.func24, Try.ntmps24
  go_wp2_with (first | (go_at_call 32; refine (NO.out _ _).mono ?_; rintro e w2 ⟨rfl, rfl⟩) | (go_at_call 44; refine (HH.out _).mono ?_; rintro e w1 ⟨rfl, b1⟩) | (go_at_call 45; refine (of_any _ _).mono ?_; rintro e w2 ⟨rfl, rfl⟩; have hr := hid (rst_new z0 (box_at _ _) (alloc_size _ _) (below_alloc _ _) b1)) | (go_at_call 46; first | (refine (N0.out _ _ _ _ (by with_reducible first | exact hr.out | exact hr.out.alloc _)).mono ?_; rintro e w3 ⟨rfl, r3⟩; have hr3 := hid r3; clear r3 hr; have hr := hr3; clear hr3) | (refine (N1.out _ _ _ _ (by with_reducible first | exact hr.out | exact hr.out.alloc _)).mono ?_; rintro e w3 ⟨rfl, r3⟩; have hr3 := hid r3; clear r3 hr; have hr := hr3; clear hr3) | (refine (N2.out _ _ _ _ (by with_reducible first | exact hr.out | exact hr.out.alloc _)).mono ?_; rintro e w3 ⟨rfl, r3⟩; have hr3 := hid r3; clear r3 hr; have hr := hr3; clear hr3) | (refine (N3.out _ _ _ _ (by with_reducible first | exact hr.out | exact hr.out.alloc _)).mono ?_; rintro e w3 ⟨rfl, r3⟩; have hr3 := hid r3; clear r3 hr; have hr := hr3; clear hr3) | (refine (N4.out _ _ _ _ (by with_reducible first | exact hr.out | exact hr.out.alloc _)).mono ?_; rintro e w3 ⟨rfl, r3⟩; have hr3 := hid r3; clear r3 hr; have hr := hr3; clear hr3) | (refine (NB.out _ _ _ _ (by with_reducible first | exact hr.out | exact hr.out.alloc _)).mono ?_; rintro e w3 ⟨rfl, b3⟩)))
  exact ⟨rfl, rfl, b3⟩
end Go.Proofs.Ytjphfpfagnhelaa
