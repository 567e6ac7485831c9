import Derived.Test.YtglhibmfbbbdiaaDo
import Derived.Laws.MakeOwn
namespace Go.Proofs.Ytglhibmfbbbdiaa
open Go.RowKit Go.Maps

theorem has_any {base g N : Nat} {S : DS} {fp : List Nat} (a : Int) (w : World) (h : DIs base g w N S fp) : Calls Try.prog 30 #[.pointer (some ⟨g, 0, none⟩), .int .i64 a] w fun e w' => e = .returned (.bool (decide (0 ≤ a ∧ a < S.n))) ∧ w' = w := by
  have HB := hid (blocks_any w h)
  clear h
  by_cases h1 : 0 ≤ a
  · by_cases h2 : a < S.n
    · rw [decide_eq_true ⟨h1, h2⟩]
      go_enter Try.func30, Try.ntmps30
      go_wp2_with (first | (go_at_call 19; refine HB.out.mono ?_; rintro e w1 ⟨rfl, rfl⟩))
      go_ret
      exact ⟨rfl, rfl⟩
    · rw [decide_eq_false (fun h => h2 h.2)]
      have h3 : decide (a < (S.n : Int)) = false := decide_eq_false h2
      go_enter Try.func30, Try.ntmps30
      go_wp2_with (first | (go_at_call 19; refine HB.out.mono ?_; rintro e w1 ⟨rfl, rfl⟩))
      go_ret
      exact ⟨rfl, rfl⟩
  · rw [decide_eq_false (fun h => h1 h.1)]
    go_enter Try.func30, Try.ntmps30
    go_wp2
    go_ret
    exact ⟨rfl, rfl⟩
theorem has_nil (a : Int) (w : World) : Calls Try.prog 30 #[.pointer none, .int .i64 a] w fun e w' => e = .returned (.bool false) ∧ w' = w := by
  by_cases h1 : 0 ≤ a
  · have h3 : decide (a < 0) = false := decide_eq_false (by omega)
    go_enter Try.func30, Try.ntmps30
    go_wp2_with (first | (go_at_call 19; refine (blocks_nil _).mono ?_; rintro e w1 ⟨rfl, rfl⟩))
    go_ret
    exact ⟨rfl, rfl⟩
  · go_enter Try.func30, Try.ntmps30
    go_wp2
    go_ret
    exact ⟨rfl, rfl⟩
theorem read_nil (a : Int) (w : World) : Calls Try.prog 22 #[.pointer none, .int .i64 a] w fun e w' => e = .returned (.tuple #[.string ByteArray.empty, .int .i64 6]) ∧ w' = w := by
  go_enter Try.func22, Try.ntmps22
  go_wp2_with (first | (go_at_call 30; refine (has_nil _ _).mono ?_; rintro e w1 ⟨rfl, rfl⟩))
  go_ret2
  exact ⟨rfl, rfl⟩
theorem lasts_nil (a : Int) (w : World) : Calls Try.prog 23 #[.pointer none, .int .i64 a] w fun e w' => e = .returned (.tuple #[.string ByteArray.empty, .int .i64 6]) ∧ w' = w := by
  go_enter Try.func23, Try.ntmps23
  go_wp2_with (first | (go_at_call 30; refine (has_nil _ _).mono ?_; rintro e w1 ⟨rfl, rfl⟩))
  go_ret2
  exact ⟨rfl, rfl⟩
theorem lasts_none {base g N : Nat} {S : DS} {fp : List Nat} (a : Int) (ha : ¬ (0 ≤ a ∧ a < S.n)) (w : World) (h : DIs base g w N S fp) : Calls Try.prog 23 #[.pointer (some ⟨g, 0, none⟩), .int .i64 a] w fun e w' => e = .returned (.tuple #[.string ByteArray.empty, .int .i64 6]) ∧ w' = w := by
  have HB := hid (has_any a w h)
  rw [decide_eq_false ha] at HB
  clear h
  go_enter Try.func23, Try.ntmps23
  go_wp2_with (first | (go_at_call 30; refine HB.out.mono ?_; rintro e w1 ⟨rfl, rfl⟩))
  go_ret2
  exact ⟨rfl, rfl⟩
theorem read_none {base g N : Nat} {S : DS} {fp : List Nat} (a : Int) (ha : ¬ (0 ≤ a ∧ a < S.n)) (w : World) (h : DIs base g w N S fp) : Calls Try.prog 22 #[.pointer (some ⟨g, 0, none⟩), .int .i64 a] w fun e w' => e = .returned (.tuple #[.string ByteArray.empty, .int .i64 6]) ∧ w' = w := by
  have HB := hid (has_any a w h)
  rw [decide_eq_false ha] at HB
  clear h
  go_enter Try.func22, Try.ntmps22
  go_wp2_with (first | (go_at_call 30; refine HB.out.mono ?_; rintro e w1 ⟨rfl, rfl⟩))
  go_ret2
  exact ⟨rfl, rfl⟩
/-- bytes in a row of their own -/
def CIs (g : Nat) (w : World) (l : List UInt8) : Prop := w.heap[g]? = some (.cells (bc l).toArray 5 (0, 0))
theorem CIs.get {g : Nat} {w : World} {l : List UInt8} (h : CIs g w l) (j : Nat) (hj : j < l.length) : w.cell? ⟨g, j, none⟩ = some (.int .u8 ((l[j]).toNat : Int)) := by
  unfold CIs at h
  simp [World.cell?, h, bc, hj]
theorem CIs.free {g : Nat} {w : World} {l : List UInt8} (h : CIs g w l) (j : Nat) : w.frozen? ⟨g, j, none⟩ = false := by
  unfold CIs at h
  simp [World.frozen?, h]
theorem CIs.set {g : Nat} {w : World} {l : List UInt8} (h : CIs g w l) (j : Nat) (b : UInt8) (x : Int) (hx : x = (b.toNat : Int)) : CIs g (w.setCell ⟨g, j, none⟩ (.int .u8 x)) (l.set j b) := by
  unfold CIs at *
  have hlt := lt_of_block h
  have h' : w.heap[g] = .cells (bc l).toArray 5 (0, 0) := by simpa [Array.getElem?_eq_getElem hlt] using h
  subst hx
  show (w.heap.modify g _)[g]? = _
  rw [Array.getElem?_eq_getElem (by simpa using hlt), Array.getElem_modify_self, h']
  simp [bc, List.map_set]
theorem CIs.conv {g : Nat} {w : World} {l : List UInt8} (h : CIs g w l) (cap : Nat) : (convert 60 9 (.slice (some ⟨g, 0, none⟩) l.length cap)).run Try.prog w = .ok (.string (st l)) w := by
  rw [← strOf_bytes]
  refine run_convert_bytes_arg w 60 5 Try.underlying60 Try.underlying5 g 0 l.length cap _ (by simp) (fun i hi => ?_) 9 Try.underlying9
  have hi' : i < l.length := by simpa using hi
  rw [Nat.zero_add, h.get i hi']
  simp [List.getElem?_eq_getElem hi']
theorem Try.info5 : (Try.prog.info? 5).map (fun i => (i.zero, i.size, i.bytes)) = some (some (.int .u8 0), 1, 1) := by kernel_rfl
theorem made128 : madeCells (Value.int .u8 0).cells 128 = (bc (List.replicate 128 0)).toArray := by kernel_rfl
theorem mk128 (w : World) : (Instr.makeSlice 60 (.int .i64 128) (.int .i64 128)).run Try.prog w = .ok (.slice (some ⟨w.heap.size, 0, none⟩) 128 128) (w.alloc (.cells (bc (List.replicate 128 0)).toArray 5)) := by
  obtain ⟨i0, hi, hz0, hz1, hz2⟩ := info_parts Try.info5
  have := run_makeSlice (P := Try.prog) w 60 5 i0 (.int .u8 0) Try.underlying60 hi hz0 .i64 .i64 128 128 (by decide) (by decide) (by rw [hz1]; decide) (by rw [hz2]; decide) (by decide)
  rw [hz1] at this
  have e : (128 : Int).toNat * 1 = 128 := rfl
  rw [e, made128] at this
  exact this
theorem CIs.made (w : World) (l : List UInt8) : CIs w.heap.size (w.alloc (.cells (bc l).toArray 5)) l := by
  show (w.heap.push _)[w.heap.size]? = _
  simp
/-- a block of bytes 0 -/
def Z : ByteArray := st (List.replicate 128 0)
set_option maxRecDepth 100000 in
theorem lasts_any {base g N : Nat} {S : DS} {fp : List Nat} (k : Nat) (hk : k < S.n) (w : World) (h : DIs base g w N S fp) : Calls Try.prog 23 #[.pointer (some ⟨g, 0, none⟩), .int .i64 k] w fun e w' => e = .returned (.tuple #[.string ((S.L k).getD Z), .int .i64 0]) ∧ Below w.heap.size w w' := by
  have HB := hid (has_any k w h)
  rw [decide_eq_true (show (0 : Int) ≤ k ∧ (k : Int) < S.n by omega)] at HB
  have hn := h.n2
  obtain ⟨⟨bl, bf, wv, h1, _, h3, _⟩, _⟩ := h
  obtain ⟨c0, c1, c2, c3⟩ := four_cells h1
  have hl := h3.look k (by omega)
  unfold keyV blk at hl
  clear h1 h3 c0 c2 c3
  cases hL : S.L k with
  | some s =>
    rw [hL] at hl
    simp only [Option.getD_some, Option.isSome_some] at hl ⊢
    go_enter Try.func23, Try.ntmps23
    go_wp2_with (first | (go_at_call 30; refine HB.out.mono ?_; rintro e w1 ⟨rfl, rfl⟩))
    go_ret2
    exact ⟨rfl, below_alloc _ _⟩
  | none =>
    rw [hL] at hl
    simp only [Option.getD_none, Option.isSome_none] at hl ⊢
    have hmk := mk128
    have hcv : ∀ w : World, (convert 60 9 (.slice (some ⟨w.heap.size, 0, none⟩) 128 128)).run Try.prog (w.alloc (.cells (bc (List.replicate 128 0)).toArray 5)) = .ok (.string Z) (w.alloc (.cells (bc (List.replicate 128 0)).toArray 5)) := fun w => (CIs.made w (List.replicate 128 0)).conv 128
    obtain ⟨Z0, hZ0⟩ : ∃ z, z = Z := ⟨_, rfl⟩
    rw [← hZ0] at hcv ⊢
    obtain ⟨cs, hcs⟩ : ∃ cs, cs = (bc (List.replicate 128 0)).toArray := ⟨_, rfl⟩
    rw [← hcs] at hmk hcv
    clear hcs hZ0
    have hcv1 := hcv (w.alloc (.cells #[.string ByteArray.empty] 67))
    rw [show (w.alloc (.cells #[.string ByteArray.empty] 67)).heap.size = w.heap.size + 1 by simp] at hcv1
    clear hcv
    go_enter Try.func23, Try.ntmps23
    go_wp2_with (first | (go_at_call 30; refine HB.out.mono ?_; rintro e w1 ⟨rfl, rfl⟩))
    go_ret2
    exact ⟨rfl, (below_alloc _ _).next (below_alloc _ _)⟩

theorem seen_eq (Q : List (Nat × ByteArray)) : ∀ (f : Nat → Option ByteArray), seen f Q = over2 f (seen (fun _ => none) Q) := by
  have key : ∀ (Q : List (Nat × ByteArray)) (f g : Nat → Option ByteArray), seen (over2 f g) Q = over2 f (seen g Q) := by
    intro Q
    induction Q with
    | nil => intro f g; rfl
    | cons q Q ih =>
      intro f g
      show seen (over (over2 f g) q.1 q.2 (cnt q.2)) Q = over2 f (seen (over g q.1 q.2 (cnt q.2)) Q)
      rw [← ih]
      congr 1
      funext k
      unfold over over2
      by_cases h : q.1 ≤ k ∧ k < q.1 + cnt q.2
      · simp [h]
      · simp [h]
  intro f
  rw [← key]
  congr 1
set_option maxRecDepth 100000 in
theorem read_any {base g N : Nat} {S : DS} {fp : List Nat} (k : Nat) (hk : k < S.n) (w : World) (h : DIs base g w N S fp) : Calls Try.prog 22 #[.pointer (some ⟨g, 0, none⟩), .int .i64 k] w fun e w' => e = .returned (.tuple #[.string ((seen S.L S.Q k).getD Z), .int .i64 0]) ∧ Below w.heap.size w w' := by
  have HB := hid (has_any k w h)
  rw [decide_eq_true (show (0 : Int) ≤ k ∧ (k : Int) < S.n by omega)] at HB
  have HL := hid (fun w' (hb : Below w.heap.size w w') => lasts_any k hk w' (h.below hb))
  have hn := h.n2
  rw [seen_eq]
  obtain ⟨⟨bl, bf, wv, h1, _, _, h3, _⟩, _⟩ := h
  obtain ⟨c0, c1, c2, c3⟩ := four_cells h1
  have hl := h3.look k (by omega)
  unfold keyV blk at hl
  unfold over2
  clear h1 h3 c0 c1 c3
  cases hL : seen (fun _ => none) S.Q k with
  | some s =>
    rw [hL] at hl
    simp only [Option.getD_some, Option.isSome_some] at hl ⊢
    go_enter Try.func22, Try.ntmps22
    go_wp2_with (first | (go_at_call 30; refine HB.out.mono ?_; rintro e w1 ⟨rfl, rfl⟩))
    go_ret2
    exact ⟨rfl, below_alloc _ _⟩
  | none =>
    rw [hL] at hl
    simp only [Option.getD_none, Option.isSome_none] at hl ⊢
    go_enter Try.func22, Try.ntmps22
    go_wp2_with (first
      | (go_at_call 30; refine HB.out.mono ?_; rintro e w1 ⟨rfl, hw1⟩; subst hw1)
      | (go_at_call 23; refine (HL.out _ (below_alloc _ _)).mono ?_; rintro e w2 ⟨rfl, hb2⟩))
    go_ret2
    exact ⟨rfl, (below_alloc _ _).next hb2⟩

/-- a block of one byte -/
def B (c : UInt8) : ByteArray := st (List.replicate 128 c)
theorem rep_set (c : UInt8) (j : Nat) (h : j < 128) : (List.replicate j c ++ List.replicate (128 - j) 0).set j c = List.replicate (j + 1) c ++ List.replicate (128 - (j + 1)) 0 := by
  rw [List.set_append_right _ _ (by simp)]
  simp only [List.length_replicate, Nat.sub_self]
  rw [show 128 - j = (128 - (j + 1)) + 1 by omega, List.replicate_succ, List.set_cons_zero, List.replicate_succ', List.append_assoc]
  rfl
set_option maxRecDepth 100000 in
set_option maxHeartbeats 1000000 in
theorem block_any (c : UInt8) (w : World) : Calls Try.prog 21 #[.int .u8 (c.toNat : Int)] w fun e w' => e = .returned (.string (B c)) ∧ Below w.heap.size w w' := by
  have hmk := mk128 w
  obtain ⟨wm, hwm⟩ : ∃ wm, wm = w.alloc (.cells (bc (List.replicate 128 0)).toArray 5) := ⟨_, rfl⟩
  have hC : CIs w.heap.size wm (List.replicate 128 0) := by rw [hwm]; exact CIs.made w _
  have hB : Below w.heap.size w wm := by rw [hwm]; exact below_alloc w _
  rw [← hwm] at hmk
  clear hwm
  go_enter Try.func21, Try.ntmps21
  go_wp2
  go_loopw [8] (fun i wr => ∃ j : Nat, i = .int .i64 j ∧ j ≤ 128 ∧ CIs w.heap.size wr (List.replicate j c ++ List.replicate (128 - j) 0) ∧ Below w.heap.size w wr) (fun i _ => 128 - (intOf i).toNat)
  case atStart => exact ⟨0, rfl, by decide, hC, hB⟩
  case round =>
    obtain ⟨j, rfl, hj, hC2, hB2⟩ := hrel
    have HC := hid hC2
    have HB := hid hB2
    clear hC2 hB2 hC hB hmk
    by_cases hlt : j < 128
    · have hlen : (List.replicate j c ++ List.replicate (128 - j) 0).length = 128 := by simp; omega
      have hcell := HC.out.get j (by rw [hlen]; exact hlt)
      have hfree := HC.out.free j
      have HC2 := hid (HC.out.set j c _ rfl)
      rw [rep_set c j hlt] at HC2
      obtain ⟨x, hx⟩ : ∃ x, x = ((List.replicate j c ++ List.replicate (128 - j) 0)[j]'(by rw [hlen]; exact hlt)) := ⟨_, rfl⟩
      rw [← hx] at hcell
      clear hx hlen
      go_wp2
      go_roundw
      case rel => exact ⟨j + 1, by go_num, by omega, HC2.out, HB.out.setCell (Nat.le_refl _) _⟩
      case measure => simp [intOf]; omega
    · have hj2 : j = 128 := by omega
      subst hj2
      have hcv := HC.out.conv 128
      have hl2 : (List.replicate 128 c ++ List.replicate (128 - 128) (0 : UInt8)).length = 128 := by simp
      rw [hl2] at hcv
      clear hl2
      have e : st (List.replicate 128 c ++ List.replicate (128 - 128) 0) = B c := by unfold B; simp
      rw [e] at hcv
      obtain ⟨Bc, hBc⟩ : ∃ b, b = B c := ⟨_, rfl⟩
      rw [← hBc] at hcv
      have HBc := hid hBc
      clear hBc e
      go_wp2
      go_ret
      exact ⟨by rw [← HBc.out]; rfl, HB.out⟩

theorem Only.of_set3 {fp : List Nat} {w w1 : World} {g : Nat} (v : Value) (h : Only fp w w1) (hg : g ∈ fp) : Only fp w (w1.setCell ⟨g, 3, none⟩ v) :=
  h.trans (Only.setCell v hg) (fun _ hx => .inl hx)
/-- nothing waits any more -/
theorem forget_any {base g N : Nat} {S : DS} {fp : List Nat} (w : World) (h : DIs base g w N S fp) : Calls Try.prog 27 #[.pointer (some ⟨g, 0, none⟩)] w fun e w' => e = .returned (.tuple #[]) ∧ DIs base g w' N ⟨S.n, S.L, []⟩ fp ∧ Only fp w w' := by
  have HH := hid h
  obtain ⟨⟨bl, bf, wv, h1, h2, h3, h4, h5, m1, m2, m3, m4⟩, n1, n2, hok, hlo⟩ := h
  obtain ⟨c0, c1, c2, c3⟩ := four_cells h1
  obtain ⟨esf, kf1, hmf⟩ := h4.isMap
  obtain ⟨esl, kl1, hml⟩ := h3.isMap
  have hgb : g ≠ bf := fun e => by rw [e, hmf] at h1; cases h1
  have hgl : g ≠ bl := fun e => by rw [e, hml] at h1; cases h1
  obtain ⟨w1, hrun, hM1, hg1, hs1⟩ := h4.clear 0
  have hrun' : ∀ ty, (Builtin.clear_ #[53] ty #[.map (some bf)]).run Try.prog w = .ok (.tuple #[]) w1 := fun ty => by
    rw [← hrun]; rfl
  clear hrun
  have hk1 := (hg1.block g (lt_of_block h1) (fun e => hgb (Option.some.inj e))).trans h1
  obtain ⟨k0, k1, k2, k3⟩ := four_cells hk1
  have hf := four_free hk1 3
  have hfin : DIs base g (w1.setCell ⟨g, 3, none⟩ (.slice none 0 0)) N ⟨S.n, S.L, []⟩ fp := by
    refine ⟨⟨bl, bf, .slice none 0 0, four_set3 hk1, h2, h3.same ((Below.heap_setCell _ _ _ _ (fun e => hgl e.symm)).trans (hg1.block bl h3.lt (fun e => h2 (Option.some.inj e)))), (hM1.same (Below.heap_setCell _ _ _ _ (fun e => hgb e.symm))).mono (Nat.zero_le _), World.ownsRow_nil _ _ _ _, m1, m2, m3, (fun b hb => by cases hb)⟩, n1, n2, (fun q hq => by cases hq), fun k hk => ?_⟩
    have := hlo k hk
    have e9 : (w1.setCell ⟨g, 3, none⟩ (.slice none 0 0)).heap.size = w1.heap.size := by simp [World.setCell]
    rw [e9, hs1]; exact this
  have hO : Only fp w (w1.setCell ⟨g, 3, none⟩ (.slice none 0 0)) := (Only.of_grown hg1 m3).of_set3 _ m1
  have HF := hid (And.intro hfin hO)
  clear hfin hO h1 h3 h4 h5 hM1 hg1 hk1 hmf hml hlo hok m1 m2 m3 m4
  go_enter Try.func27, Try.ntmps27
  go_wp2
  go_end0
  exact ⟨rfl, HF.out.1, HF.out.2⟩
end Go.Proofs.Ytglhibmfbbbdiaa
