import Derived.Test.YtnoocgodnpjnoaaDoorSi
import Derived.Test.YtnoocgodnpjnoaaDoorSe
import Derived.Test.YtnoocgodnpjnoaaDoorSg
import Derived.Test.YtnoocgodnpjnoaaDoorQh
import Derived.Test.YtnoocgodnpjnoaaDoorRc
import Derived.Deep.RegionHeld3
namespace Go.Proofs.YtnoocgodnpjnoaaDoor
open Go.RowKit

/-- where only both tables change -/
structure JW (base top g r : Nat) (w w' : World) : Prop where
  os : w'.os = w.os
  tape : w'.tape = w.tape
  output : w'.output = w.output
  size : w.heap.size ≤ w'.heap.size
  block : ∀ k, k < w.heap.size → k ≠ g → k ≠ r → k < base ∨ top ≤ k → w'.heap[k]? = w.heap[k]?
theorem JW.kp {base top g r : Nat} {w w' : World} (h : KP g w w') : JW base top g r w w' := ⟨h.os, h.tape, h.output, h.size, fun k hk hg _ _ => h.block k hk hg⟩
theorem JW.kr {base top g r : Nat} {w w' : World} (h : KR base top r w w') : JW base top g r w w' := ⟨h.os, h.tape, h.output, h.size, fun k hk _ hr hb => h.block k hk hr hb⟩
theorem JW.of {base top g r : Nat} {w w' : World} (h : Below w.heap.size w w') : JW base top g r w w' := .kp (KP.of_below h)
theorem JW.trans {base top g r : Nat} {a b c : World} (h : JW base top g r a b) (k : JW base top g r b c) : JW base top g r a c :=
  ⟨k.os.trans h.os, k.tape.trans h.tape, k.output.trans h.output, Nat.le_trans h.size k.size, fun i hi hg hr hb => (k.block i (Nat.lt_of_lt_of_le hi h.size) hg hr hb).trans (h.block i hi hg hr hb)⟩
theorem TI.kr {base top g r : Nat} {w w' : World} {D : Nat → Dsc} (h : TI g w D) (k : KR base top r w w') (hg : g < base) (hr : r ≠ g) : TI g w' D := by
  obtain ⟨cs, h1, h2⟩ := h
  exact ⟨cs, (k.block g (lt_of_block h1) hr.symm (.inl hg)).trans h1, h2⟩
theorem SBox.kr {base top q r : Nat} {w w' : World} {n : Stp} (h : SBox q w n) (k : KR base top r w w') (hr : q ≠ r) (hq : top ≤ q) : SBox q w' n := (k.block q h.lt hr (.inr hq)).trans h
theorem SBox.below {q : Nat} {w w' : World} {n : Stp} (h : SBox q w n) (k : Below w.heap.size w w') : SBox q w' n := (k.block q h.lt).trans h
theorem nextE_no {D : Nat → Dsc} {fd n : Int} (h : opn D fd = false) : nextE D fd n = 311 ∧ nextO D fd n = Opr.zero := by
  have e : nextE D fd n = 311 := by unfold nextE; rw [h]; rfl
  refine ⟨e, ?_⟩
  unfold nextO
  rw [e]
  rfl
theorem writE_no {D : Nat → Dsc} {fd : Int} {s : ByteArray} (h : opn D fd = false) : writE D fd s = 311 ∧ writO D fd s = Opr.zero := by
  have e : writE D fd s = 311 := by unfold writE; rw [h]; rfl
  refine ⟨e, ?_⟩
  unfold writO
  rw [e]
  rfl
theorem op_nextA {base top r : Nat} {w : World} {D : Nat → Dsc} (fd n : Int) (s : ByteArray) (h : RT base top r w (fl D 16)) (htop : top ≤ w.heap.size) : Calls Tryd.prog 24 #[.pointer (some ⟨r, 0, none⟩), .int .i64 fd, .int .i64 n, .bool false, .string s] w fun e w' => e = .returned (.tuple #[(nextO D fd n).v, .int .i64 (nextE D fd n)]) ∧ Below w.heap.size w w' := by
  cases ho : opn D fd with
  | true =>
    obtain ⟨k, rfl, hk, hd⟩ := opn_parts ho
    exact op_next k n s h htop hk hd
  | false =>
    rw [(nextE_no ho).1, (nextE_no ho).2]
    exact op_no fd n false s h.ri ho
theorem op_writeA {base top r : Nat} {w : World} {D : Nat → Dsc} (fd : Int) (s : ByteArray) (h : RT base top r w (fl D 16)) (htop : top ≤ w.heap.size) : Calls Tryd.prog 24 #[.pointer (some ⟨r, 0, none⟩), .int .i64 fd, .int .i64 0, .bool true, .string s] w fun e w' => e = .returned (.tuple #[(writO D fd s).v, .int .i64 (writE D fd s)]) ∧ Below w.heap.size w w' := by
  cases ho : opn D fd with
  | true =>
    obtain ⟨k, rfl, hk, hd⟩ := opn_parts ho
    exact op_write k s h htop hk hd
  | false =>
    rw [(writE_no ho).1, (writE_no ho).2]
    exact op_no fd 0 true s h.ri ho
/-- the table behind a step -/
def stpD (D : Nat → Dsc) (s : Stp) : Nat → Dsc :=
  if s.k = 0 ∨ s.k = 1 then openD D s.p else if s.k = 2 then closD D s.f else if s.k = 3 then seekD D s.f s.m s.n else if s.k = 6 then movD D s.f s.n else D
theorem stpD_pi {D : Nat → Dsc} (s : Stp) (h : PI D) : PI (stpD D s) := by
  unfold stpD
  split
  · exact open_pi h
  · split
    · exact clos_pi h
    · split
      · exact seek_pi h
      · split
        · exact mov_pi h
        · exact h
def AskP (base top g r : Nat) (w : World) (D' : Nat → Dsc) (e : Ending) (w' : World) : Prop := e = .returned (.bool true) ∧ TI g w' D' ∧ RI base r w' (fl D' 16) ∧ JW base top g r w w'
set_option maxRecDepth 100000 in
set_option maxHeartbeats 2000000 in
theorem asks_any {base top g r : Nat} {w : World} {D : Nat → Dsc} (s : Stp) (ht : TI g w D) (hr : RT base top r w (fl D 16)) (hP : PI D) (htop : top ≤ w.heap.size) (hbt : base ≤ top) (hgb : g < base) (hrb : r < base) (hrg : r ≠ g) (hs : s.p.size ≤ 1048576) :
    Calls Tryd.prog 8 #[.pointer (some ⟨g, 0, none⟩), .pointer (some ⟨r, 0, none⟩), .agg #[.int .i64 s.k, .int .i64 s.f, .int .i64 s.m, .int .i64 s.n, .string s.p]] w (AskP base top g r w (stpD D s)) := by
  obtain ⟨sk, sf, sm, sn, sp⟩ := s
  simp only at hs ⊢
  have HS := hid hs
  have HP := hid hP
  have HL := hid (And.intro htop (And.intro hbt (And.intro hgb (And.intro hrb hrg))))
  obtain ⟨q, hq⟩ : ∃ q, q = w.heap.size := ⟨_, rfl⟩
  obtain ⟨w1, hw1⟩ : ∃ w1, w1 = w.alloc (.cells #[.int .i64 sk, .int .i64 sf, .int .i64 sm, .int .i64 sn, .string sp] 30) := ⟨_, rfl⟩
  have hb1 : Below w.heap.size w w1 := by rw [hw1]; exact below_alloc _ _
  have HX1 : Hid (SBox q w1 ⟨sk, sf, sm, sn, sp⟩) := hid (by rw [hq, hw1]; exact box_at _ _)
  have HT1 := hid (ht.below hb1)
  have HR1 := hid (hr.below hb1)
  have HB1 := hid hb1
  have HQ : Hid (top ≤ q ∧ q ≠ g ∧ q ≠ r ∧ base ≤ w1.heap.size ∧ top ≤ w1.heap.size) := hid ⟨by omega, by omega, by omega, by have := hb1.size; omega, by have := hb1.size; omega⟩
  replace hw1 := hid hw1
  replace hq := hid hq
  clear ht hr hP htop hbt hgb hrb hrg hs hb1
  go_enter Tryd.func8, Tryd.ntmps8
  go_upto_region 1 with fail
  rw [← hw1.out, ← hq.out]
  clear hw1 hq
  obtain ⟨x0, x1, x2, x3, x4⟩ := HX1.out.cells
  by_cases e01 : sk = 0 ∨ sk = 1
  · have HD : Hid (stpD D ⟨sk, sf, sm, sn, sp⟩ = openD D sp) := hid (by unfold stpD; rw [if_pos e01])
    rw [HD.out]
    have C1 := hid (open_any sp HT1.out HS.out)
    have C2 := hid (fun (W : World) (k : KP g w1 W) => open_ref sp (HR1.out.kept k HL.out.2.2.2.2 HL.out.2.2.1) (Nat.le_trans HQ.out.2.2.2.1 k.size) HS.out)
    obtain ⟨X, hX⟩ : ∃ X, X = openR D sp := ⟨_, rfl⟩
    obtain ⟨E, hE⟩ : ∃ E, E = openE D sp := ⟨_, rfl⟩
    rw [← hX, ← hE] at C1 C2
    have hXX : (X == X) = true := by simp
    have hEE : (E == E) = true := by simp
    clear hX hE
    rcases e01 with rfl | rfl
    all_goals
      go_wp2_with (first
        | (go_at_call 14; refine C1.out.mono ?_; rintro e w2 ⟨rfl, t2, k2⟩; have HT2 := hid t2; have HK2 := hid k2; have HX2 := hid (HX1.out.kept k2 HQ.out.2.1); obtain ⟨y0, y1, y2, y3, y4⟩ := HX2.out.cells; clear t2 k2)
        | (go_at_call 21; refine (C2.out _ HK2.out).mono ?_; rintro e w3 ⟨rfl, r3, k3⟩; have HR3 := hid r3; have HK3 := hid k3; clear r3 k3))
      go_ret
      exact ⟨rfl, HT2.out.kr HK3.out HL.out.2.2.1 HL.out.2.2.2.2, HR3.out, ((JW.of HB1.out).trans (.kp HK2.out)).trans (.kr HK3.out)⟩
  · have g0 : (sk == 0) = false := by rw [beq_eq_false_iff_ne]; omega
    have g1 : (sk == 1) = false := by rw [beq_eq_false_iff_ne]; omega
    by_cases e2 : sk = 2
    · have HD : Hid (stpD D ⟨sk, sf, sm, sn, sp⟩ = closD D sf) := hid (by unfold stpD; rw [if_neg e01, if_pos e2])
      rw [HD.out]
      subst e2
      clear e01 g0 g1
      have C1 := hid (fun (W : World) (k : Below w1.heap.size w1 W) => close_any sf (HT1.out.below k))
      have C2 := hid (fun (W : World) (k : KP g w1 W) => close_ref sf (HR1.out.kept k HL.out.2.2.2.2 HL.out.2.2.1) (Nat.le_trans HQ.out.2.2.2.1 k.size))
      obtain ⟨E, hE⟩ : ∃ E, E = closE D sf := ⟨_, rfl⟩
      rw [← hE] at C1 C2
      have hEE : (E == E) = true := by simp
      clear hE
      go_wp2
      go_region_held3 (fun w' => w'.cell? ⟨q, 1, none⟩ = some (.int .i64 sf)) (first | exact x1 | exact s1 | exact s2 | go_keep) (first
        | (go_at_call 16; refine (C1.out _ (by exact ⟨rfl, rfl, rfl, Nat.le_refl _, fun _ _ => rfl⟩)).mono ?_; rintro e w2 ⟨rfl, t2, k2⟩; have HT2 := hid t2; have HK2 : Hid (KP g w1 w2) := hid ⟨k2.os, k2.tape, k2.output, k2.size, k2.block⟩; have HX2 := hid (HX1.out.kept HK2.out HQ.out.2.1); have s1 := HX2.out.cells.2.1; clear t2 k2)
        | (go_at_call 22; refine (C2.out _ (by exact HK2.out)).mono ?_; rintro e w3 ⟨rfl, r3, k3⟩; have HR3 := hid r3; have HK3 : Hid (KR base top r w2 w3) := hid ⟨k3.os, k3.tape, k3.output, k3.size, k3.block⟩; have s2 := (HX2.out.kr HK3.out HQ.out.2.2.1 HQ.out.1).cells.2.1; clear r3 k3))
      all_goals
        go_wp2
        go_ret
        exact ⟨rfl, HT2.out.kr HK3.out HL.out.2.2.1 HL.out.2.2.2.2, HR3.out, ((JW.of HB1.out).trans (.kp HK2.out)).trans (.kr HK3.out)⟩
    · have g2 : (sk == 2) = false := by rw [beq_eq_false_iff_ne]; exact e2
      by_cases e3 : sk = 3
      · have HD : Hid (stpD D ⟨sk, sf, sm, sn, sp⟩ = seekD D sf sm sn) := hid (by unfold stpD; rw [if_neg e01, if_neg e2, if_pos e3])
        rw [HD.out]
        subst e3
        clear e01 g0 g1 e2 g2
        have C1 := hid (seek_any sf sm sn HT1.out)
        have C2 := hid (fun (W : World) (k : KP g w1 W) => seek_ref sf sm sn (HR1.out.kept k HL.out.2.2.2.2 HL.out.2.2.1) HL.out.2.2.2.1)
        obtain ⟨X, hX⟩ : ∃ X, X = seekR D sf sm sn := ⟨_, rfl⟩
        obtain ⟨E, hE⟩ : ∃ E, E = seekE D sf sm sn := ⟨_, rfl⟩
        rw [← hX, ← hE] at C1 C2
        have hXX : (X == X) = true := by simp
        have hEE : (E == E) = true := by simp
        clear hX hE
        go_wp2_with (first
          | (go_at_call 17; refine C1.out.mono ?_; rintro e w2 ⟨rfl, t2, k2⟩; have HT2 := hid t2; have HK2 := hid k2; have HX2 := hid (HX1.out.kept k2 HQ.out.2.1); obtain ⟨y0, y1, y2, y3, y4⟩ := HX2.out.cells; clear t2 k2)
          | (go_at_call 23; refine (C2.out _ HK2.out).mono ?_; rintro e w3 ⟨rfl, r3, k3⟩; have HR3 := hid r3; have HK3 := hid k3; clear r3 k3))
        go_ret
        exact ⟨rfl, HT2.out.kr HK3.out HL.out.2.2.1 HL.out.2.2.2.2, HR3.out, ((JW.of HB1.out).trans (.kp HK2.out)).trans (.kr HK3.out)⟩
      · have g3 : (sk == 3) = false := by rw [beq_eq_false_iff_ne]; exact e3
        by_cases e6 : sk = 6
        · have HD : Hid (stpD D ⟨sk, sf, sm, sn, sp⟩ = movD D sf sn) := hid (by unfold stpD; rw [if_neg e01, if_neg e2, if_neg e3, if_pos e6])
          rw [HD.out]
          subst e6
          clear e01 g0 g1 e2 g2 e3 g3
          have C1 := hid (fun (W : World) (k : Below w1.heap.size w1 W) => moved_any sf sn (HT1.out.below k) HP.out)
          have C2 := hid (fun (W : World) (k : KP g w1 W) => moved_ref sf sn (HR1.out.kept k HL.out.2.2.2.2 HL.out.2.2.1) HL.out.2.2.2.1 HP.out)
          obtain ⟨E, hE⟩ : ∃ E, E = movE D sf sn := ⟨_, rfl⟩
          rw [← hE] at C1 C2
          have hEE : (E == E) = true := by simp
          clear hE
          go_wp2
          go_region_held3 (fun w' => w'.cell? ⟨q, 1, none⟩ = some (.int .i64 sf) ∧ w'.cell? ⟨q, 3, none⟩ = some (.int .i64 sn)) (first | exact ⟨x1, x3⟩ | exact s1 | exact s2 | go_keep) (first
            | (go_at_call 20; refine (C1.out _ (by exact ⟨rfl, rfl, rfl, Nat.le_refl _, fun _ _ => rfl⟩)).mono ?_; rintro e w2 ⟨rfl, t2, k2⟩; have HT2 := hid t2; have HK2 : Hid (KP g w1 w2) := hid ⟨k2.os, k2.tape, k2.output, k2.size, k2.block⟩; have HX2 := hid (HX1.out.kept HK2.out HQ.out.2.1); have s1 := And.intro HX2.out.cells.2.1 HX2.out.cells.2.2.2.1; clear t2 k2)
            | (go_at_call 25; refine (C2.out _ (by exact HK2.out)).mono ?_; rintro e w3 ⟨rfl, r3, k3⟩; have HR3 := hid r3; have HK3 : Hid (KR base top r w2 w3) := hid ⟨k3.os, k3.tape, k3.output, k3.size, k3.block⟩; have HX3 := hid (HX2.out.kr HK3.out HQ.out.2.2.1 HQ.out.1); have s2 := And.intro HX3.out.cells.2.1 HX3.out.cells.2.2.2.1; clear r3 k3))
          all_goals
            go_wp2
            go_ret
            exact ⟨rfl, HT2.out.kr HK3.out HL.out.2.2.1 HL.out.2.2.2.2, HR3.out, ((JW.of HB1.out).trans (.kp HK2.out)).trans (.kr HK3.out)⟩
        · have g6 : (sk == 6) = false := by rw [beq_eq_false_iff_ne]; exact e6
          have HD : Hid (stpD D ⟨sk, sf, sm, sn, sp⟩ = D) := hid (by unfold stpD; rw [if_neg e01, if_neg e2, if_neg e3, if_neg e6])
          rw [HD.out]
          by_cases e4 : sk = 4
          · subst e4
            clear e01 g0 g1 e2 g2 e3 g3 e6 g6
            have C1 := hid (next_any sf sn HT1.out)
            have C2 := hid (fun (W : World) (k : Below w1.heap.size w1 W) => op_nextA sf sn ⟨#[]⟩ (HR1.out.below k) (Nat.le_trans HQ.out.2.2.2.2 k.size))
            obtain ⟨O, hO⟩ : ∃ O, O = nextO D sf sn := ⟨_, rfl⟩
            obtain ⟨E, hE⟩ : ∃ E, E = nextE D sf sn := ⟨_, rfl⟩
            rw [← hO, ← hE] at C1 C2
            have hOO := eqO O O
            rw [decide_eq_true rfl] at hOO
            have hEE : (E == E) = true := by simp
            clear hO hE
            obtain ⟨oK, oA, oN, op, ot, od⟩ := O
            simp only [Opr.v] at C1 C2 hOO
            go_wp2_with (go_at_call 18; fail)
            refine C1.out.mono ?_
            rintro e w2 ⟨rfl, b2⟩
            obtain ⟨w3, hw3⟩ : ∃ w3, w3 = w2.alloc (.cells #[.int .i64 oK, .int .i64 oA, .int .i64 oN, .string op, .string ot, .string od] 52) := ⟨_, rfl⟩
            have HB3 : Hid (Below w1.heap.size w1 w3) := hid (by rw [hw3]; exact b2.next (below_alloc _ _))
            have HO3 : Hid (Box w2.heap.size w3 ⟨oK, oA, oN, op, ot, od⟩) := hid (by rw [hw3]; exact box_at _ _)
            have HX3 := hid (HX1.out.below HB3.out)
            obtain ⟨y0, y1, y2, y3, y4⟩ := HX3.out.cells
            replace hw3 := hid hw3
            clear b2 x0 x1 x2 x3 x4
            go_upto_region 15 with fail
            rw [← hw3.out]
            clear hw3
            go_wp2_with (go_at_call 24; fail)
            refine (C2.out _ HB3.out).mono ?_
            rintro e w4 ⟨rfl, b4⟩
            obtain ⟨w5, hw5⟩ : ∃ w5, w5 = w4.alloc (.cells #[.int .i64 oK, .int .i64 oA, .int .i64 oN, .string op, .string ot, .string od] 52) := ⟨_, rfl⟩
            have hb5 : Below w3.heap.size w3 w5 := by rw [hw5]; exact b4.next (below_alloc _ _)
            have HO5 : Hid (Box w4.heap.size w5 ⟨oK, oA, oN, op, ot, od⟩) := hid (by rw [hw5]; exact box_at _ _)
            obtain ⟨z0, z1, z2, z3, z4, z5⟩ := (HO3.out.below hb5 HO3.out.lt).cells
            obtain ⟨u0, u1, u2, u3, u4, u5⟩ := HO5.out.cells
            have HB5 := hid (HB3.out.next hb5)
            replace hw5 := hid hw5
            clear b4 hb5 y0 y1 y2 y3 y4
            go_upto_region 16 with fail
            rw [← hw5.out]
            clear hw5
            go_wp2
            go_ret
            exact ⟨rfl, HT1.out.below HB5.out, (HR1.out.below HB5.out).ri, (JW.of HB1.out).trans (.of HB5.out)⟩
          · have g4 : (sk == 4) = false := by rw [beq_eq_false_iff_ne]; exact e4
            by_cases e5 : sk = 5
            · subst e5
              clear e01 g0 g1 e2 g2 e3 g3 e6 g6 e4 g4
              have C1 := hid (write_any sf sp HT1.out)
              have C2 := hid (fun (W : World) (k : Below w1.heap.size w1 W) => op_writeA sf sp (HR1.out.below k) (Nat.le_trans HQ.out.2.2.2.2 k.size))
              obtain ⟨O, hO⟩ : ∃ O, O = writO D sf sp := ⟨_, rfl⟩
              obtain ⟨E, hE⟩ : ∃ E, E = writE D sf sp := ⟨_, rfl⟩
              rw [← hO, ← hE] at C1 C2
              have hOO := eqO O O
              rw [decide_eq_true rfl] at hOO
              have hEE : (E == E) = true := by simp
              clear hO hE
              obtain ⟨oK, oA, oN, op, ot, od⟩ := O
              simp only [Opr.v] at C1 C2 hOO
              go_wp2_with (go_at_call 19; fail)
              refine C1.out.mono ?_
              rintro e w2 ⟨rfl, b2⟩
              obtain ⟨w3, hw3⟩ : ∃ w3, w3 = w2.alloc (.cells #[.int .i64 oK, .int .i64 oA, .int .i64 oN, .string op, .string ot, .string od] 52) := ⟨_, rfl⟩
              have HB3 : Hid (Below w1.heap.size w1 w3) := hid (by rw [hw3]; exact b2.next (below_alloc _ _))
              have HO3 : Hid (Box w2.heap.size w3 ⟨oK, oA, oN, op, ot, od⟩) := hid (by rw [hw3]; exact box_at _ _)
              have HX3 := hid (HX1.out.below HB3.out)
              obtain ⟨y0, y1, y2, y3, y4⟩ := HX3.out.cells
              replace hw3 := hid hw3
              clear b2 x0 x1 x2 x3 x4
              go_upto_region 19 with fail
              rw [← hw3.out]
              clear hw3
              go_wp2_with (go_at_call 24; fail)
              refine (C2.out _ HB3.out).mono ?_
              rintro e w4 ⟨rfl, b4⟩
              obtain ⟨w5, hw5⟩ : ∃ w5, w5 = w4.alloc (.cells #[.int .i64 oK, .int .i64 oA, .int .i64 oN, .string op, .string ot, .string od] 52) := ⟨_, rfl⟩
              have hb5 : Below w3.heap.size w3 w5 := by rw [hw5]; exact b4.next (below_alloc _ _)
              have HO5 : Hid (Box w4.heap.size w5 ⟨oK, oA, oN, op, ot, od⟩) := hid (by rw [hw5]; exact box_at _ _)
              obtain ⟨z0, z1, z2, z3, z4, z5⟩ := (HO3.out.below hb5 HO3.out.lt).cells
              obtain ⟨u0, u1, u2, u3, u4, u5⟩ := HO5.out.cells
              have HB5 := hid (HB3.out.next hb5)
              replace hw5 := hid hw5
              clear b4 hb5 y0 y1 y2 y3 y4
              go_upto_region 20 with fail
              rw [← hw5.out]
              clear hw5
              go_wp2
              go_ret
              exact ⟨rfl, HT1.out.below HB5.out, (HR1.out.below HB5.out).ri, (JW.of HB1.out).trans (.of HB5.out)⟩
            · have g5 : (sk == 5) = false := by rw [beq_eq_false_iff_ne]; exact e5
              go_wp2
              go_ret
              refine ⟨rfl, ?_, ?_, .of HB1.out⟩
              · rw [HD.out]; exact HT1.out
              · rw [HD.out]; exact HR1.out.ri
end Go.Proofs.YtnoocgodnpjnoaaDoor
