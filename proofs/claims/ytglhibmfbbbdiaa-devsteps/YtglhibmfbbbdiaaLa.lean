import Derived.Test.YtglhibmfbbbdiaaSp
import Derived.Test.YtglhibmfbbbdiaaOp
namespace Go.Proofs.Ytglhibmfbbbdiaa
open Go.RowKit Go.Maps

theorem DIs.shrink {base g N : Nat} {w : World} {S : DS} {fp : List Nat} (h : DIs base g w N S fp) : DIs base g w 1048576 S fp := by
  obtain ⟨⟨bl, bf, wv, h1, h2, h3, h4, h5⟩, h6, h7, h8, h9⟩ := h
  exact ⟨⟨bl, bf, wv, h1, h2, h3.shrink, h4.shrink, h5⟩, h6, h7, h8, h9⟩
/-- no write touches block k -/
def Off (k : Nat) (Q : List (Nat × ByteArray)) : Prop := ∀ q ∈ Q, k < q.1 ∨ q.1 + cnt q.2 ≤ k
theorem over_off (f : Nat → Option ByteArray) (a : Nat) (d : ByteArray) (m k : Nat) (hm : m ≤ cnt d) (h : k < a ∨ a + cnt d ≤ k) : over f a d m k = f k := by
  unfold over; rw [if_neg (by omega)]
theorem seen_off (k : Nat) : ∀ (Q : List (Nat × ByteArray)) (f : Nat → Option ByteArray), Off k Q → seen f Q k = f k
  | [], f, _ => rfl
  | q :: Q, f, h => by
    show seen (over f q.1 q.2 (cnt q.2)) Q k = f k
    rw [seen_off k Q _ (fun x hx => h x (by simp [hx])), over_off _ _ _ _ _ (Nat.le_refl _) (h q (by simp))]
theorem crash_off (pk : Nat → Bool) (k : Nat) : ∀ (Q : List (Nat × ByteArray)) (i t : Nat) (f : Nat → Option ByteArray), Off k Q → crashFrom pk i t f Q k = f k
  | [], i, t, f, _ => by rw [crash_end]
  | q :: Q, i, t, f, h => by
    rw [crash_cons]
    have h1 : Off k Q := fun x hx => h x (by simp [hx])
    split
    · rw [crash_off pk k Q _ _ _ h1, over_off _ _ _ _ _ (Nat.le_refl _) (h q (by simp))]
    · rw [crash_off pk k Q _ _ _ h1, over_off _ _ _ _ _ (Nat.min_le_right _ _) (h q (by simp))]
theorem cnt_data (M O : Int) (c : UInt8) : cnt (dataS M O c) = manyV M := by
  unfold cnt; rw [dataS_size]; have := oddV_lt O; omega
/-- a device whose block 3 lasts as c -/
def LDev (c : UInt8) (base g : Nat) (w : World) (j : Nat) : Prop :=
  ∃ S fp, DIs base g w 1048576 S fp ∧ S.n = 8 ∧ S.L 3 = some (B c) ∧ Off 3 S.Q ∧ S.Q.length ≤ j
theorem LDev.keep {c : UInt8} {base g j : Nat} {w w' : World} (h : LDev c base g w j) (k : Below w.heap.size w w') : LDev c base g w' j := by
  obtain ⟨S, fp, h1, h2⟩ := h
  exact ⟨S, fp, h1.below k, h2⟩
theorem LDev.mono {c : UInt8} {base g j j' : Nat} {w : World} (h : LDev c base g w j) (k : j ≤ j') : LDev c base g w j' := by
  obtain ⟨S, fp, h1, h2, h3, h4, h5⟩ := h
  exact ⟨S, fp, h1, h2, h3, h4, by omega⟩
theorem ld_write {c : UInt8} {base g j : Nat} (A M O : Int) (x : UInt8) (hA : -9223372036854775808 ≤ A ∧ A ≤ 9223372036854775807) (hc : A > 3 ∨ (0 ≤ A ∧ A ≤ 2 ∧ M ≤ 3 - A)) (hj : j ≤ 1000) (w : World) (h : LDev c base g w j) (hb : base ≤ w.heap.size) :
    Calls Try.prog 11 #[.pointer (some ⟨g, 0, none⟩), .int .i64 A, .string (dataS M O x)] w fun e w' => (∃ r, e = .returned (.int .i64 r)) ∧ LDev c base g w' (j + 1) ∧ Below base w w' := by
  have hds := dataS_size M O x
  have ho := oddV_lt O
  have hm9 := manyV_le M
  by_cases h1 : (dataS M O x).size = 0 ∨ (dataS M O x).size % 128 ≠ 0
  · exact (write_form _ A _ h1 w).mono fun e w' k => ⟨⟨_, k.1⟩, by rw [k.2]; exact h.mono (by omega), by rw [k.2]; exact Below.refl _ _⟩
  · have h2 : (dataS M O x).size ≠ 0 := fun e => h1 (.inl e)
    have h3 : (dataS M O x).size % 128 = 0 := by
      by_cases e : (dataS M O x).size % 128 = 0
      · exact e
      · exact absurd (.inr e) h1
    have hk := h
    obtain ⟨S, fp, hD, e1, e2, e3, e4⟩ := h
    by_cases h4 : A < 0 ∨ (cnt (dataS M O x) : Int) > S.n - A
    · exact (write_none A hA _ h2 h3 (by omega) h4 w hD).mono fun e w' k => ⟨⟨_, k.1⟩, (hk.keep k.2).mono (by omega), k.2.mono hb⟩
    · obtain ⟨a, rfl⟩ := Int.eq_ofNat_of_zero_le (show 0 ≤ A by omega)
      refine (write_ok a _ h2 h3 (by omega) (by omega) (by omega) (by omega) w hD hb).mono fun e w' k => ?_
      obtain ⟨k1, fp', k2, k3, k4⟩ := k
      refine ⟨⟨_, k1⟩, ⟨_, fp', k2.shrink, e1, e2, fun q hq => ?_, by simp; omega⟩, k3.below hb (fun y hy => (hD.lo y hy).1)⟩
      rcases List.mem_append.1 hq with hq | hq
      · exact e3 q hq
      · simp at hq
        subst hq
        show 3 < a ∨ a + cnt (dataS M O x) ≤ 3
        rw [cnt_data]
        rcases hc with hc | hc
        · exact .inl (by omega)
        · right
          unfold manyV
          split <;> omega
theorem ld_flush {c : UInt8} {base g j : Nat} (w : World) (h : LDev c base g w j) (hb : base ≤ w.heap.size) : Calls Try.prog 14 #[.pointer (some ⟨g, 0, none⟩)] w fun e w' => e = .returned (.tuple #[]) ∧ LDev c base g w' (j + 1) ∧ Below base w w' := by
  obtain ⟨S, fp, hD, e1, e2, e3, e4⟩ := h
  refine (flush_any (by decide) w hD).mono fun e w' k => ⟨k.1, ⟨_, fp, k.2.1.shrink, e1, ?_, (fun q hq => by cases hq), Nat.zero_le _⟩, k.2.2.below hb (fun y hy => (hD.lo y hy).1)⟩
  show seen S.L S.Q 3 = _
  rw [seen_off 3 _ _ e3, e2]
theorem ld_crash {c : UInt8} {base g j : Nat} (pv : Value) (len : Nat) (pk : Nat → Bool) (t : Int) (hj : j ≤ 1000) (W w : World) (hPR : PR W pv len pk) (hW : Below W.heap.size W w) (hbW : W.heap.size ≤ base) (h : LDev c base g w j) (hb : base ≤ w.heap.size) :
    Calls Try.prog 16 #[.pointer (some ⟨g, 0, none⟩), pv, .int .i64 t] w fun e w' => (∃ r, e = .returned (.int .i64 r)) ∧ LDev c base g w' (j + 1) ∧ Below base w w' := by
  by_cases ht : 0 ≤ t ∧ t ≤ 1024
  · obtain ⟨n, rfl⟩ := Int.eq_ofNat_of_zero_le ht.1
    obtain ⟨S, fp, hD, e1, e2, e3, e4⟩ := h
    have hp : PIs w pv len pk fp := by
      obtain ⟨⟨ao, pc, rfl, p1⟩, p2, p3⟩ := hPR
      refine ⟨⟨ao, pc, rfl, fun i hi => ?_⟩, p2, p3⟩
      obtain ⟨b, off, rfl, q1, q2⟩ := p1 i hi
      refine ⟨b, off, rfl, fun hm => ?_, Nat.lt_of_lt_of_le q1 hW.size, (hW.cell (p := ⟨b, off + i, none⟩) q1).trans q2⟩
      have := (hD.lo b hm).1
      omega
    refine (crash_any pv len pk n (by omega) (by decide) (by omega) w hD hp).mono fun e w' k => ⟨⟨_, k.1⟩, ⟨_, fp, k.2.1.shrink, e1, ?_, (fun q hq => by cases hq), Nat.zero_le _⟩, k.2.2.below hb (fun y hy => (hD.lo y hy).1)⟩
    show crashFrom pk 0 n S.L S.Q 3 = _
    rw [crash_off pk 3 _ _ _ _ e3, e2]
  · exact (crash_arg _ _ t ht w).mono fun e w' k => ⟨⟨_, k.1⟩, by rw [k.2]; exact h.mono (by omega), by rw [k.2]; exact Below.refl _ _⟩
theorem ld_read {c : UInt8} {base g j : Nat} (w : World) (h : LDev c base g w j) : Calls Try.prog 22 #[.pointer (some ⟨g, 0, none⟩), .int .i64 3] w fun e w' => e = .returned (.tuple #[.string (B c), .int .i64 0]) ∧ Below w.heap.size w w' := by
  obtain ⟨S, fp, hD, e1, e2, e3, e4⟩ := h
  have := read_any 3 (by omega) w hD
  rw [seen_off 3 _ _ e3, e2] at this
  exact this
theorem ld_lasts {c : UInt8} {base g j : Nat} (w : World) (h : LDev c base g w j) : Calls Try.prog 23 #[.pointer (some ⟨g, 0, none⟩), .int .i64 3] w fun e w' => e = .returned (.tuple #[.string (B c), .int .i64 0]) ∧ Below w.heap.size w w' := by
  obtain ⟨S, fp, hD, e1, e2, e3, e4⟩ := h
  have := lasts_any 3 (by omega) w hD
  rw [e2] at this
  exact this
theorem piece_one (c : UInt8) : piece (B c) 0 = B c := by
  unfold piece
  apply ByteArray.ext
  apply Array.toList_inj.1
  rw [ext_list]
  have h := len_list (B c)
  rw [B_size] at h
  show List.drop (0 * 128) (List.take ((0 + 1) * 128) (B c).data.toList) = (B c).data.toList
  rw [List.take_of_length_le (by omega)]
  rfl
theorem B_cnt (c : UInt8) : cnt (B c) = 1 := by unfold cnt; rw [B_size]
theorem ld_new (w : World) : Calls Try.prog 8 #[.int .i64 8] w fun e w' => ∃ g, e = .returned (.tuple #[.pointer (some ⟨g, 0, none⟩), .int .i64 0]) ∧ Dev w.heap.size g w' 0 (S0 8) ∧ Below w.heap.size w w' :=
  (new_any 8 (by decide) (by decide) w.heap.size w (Nat.le_refl _)).mono fun _ _ k => ⟨_, k.1, ⟨_, _, Nat.le_refl _, k.2.1⟩, k.2.2⟩
theorem ld_first (c : UInt8) {base g : Nat} (w : World) (h : Dev base g w 0 (S0 8)) (hb : base ≤ w.heap.size) : Calls Try.prog 11 #[.pointer (some ⟨g, 0, none⟩), .int .i64 3, .string (B c)] w fun e w' => e = .returned (.int .i64 0) ∧ Dev base g w' 1 ⟨8, fun _ => none, [(3, B c)]⟩ ∧ Below base w w' := by
  obtain ⟨N, fp, hN, h⟩ := h
  refine (write_ok 3 (B c) (by rw [B_size]; decide) (by rw [B_size]) (by rw [B_size]; decide) (by rw [B_cnt]; decide) (by omega) (by exact Nat.zero_le _) w h hb).mono fun e w' k => ?_
  obtain ⟨k1, fp', k2, k3, k4⟩ := k
  rw [B_cnt] at k2
  exact ⟨k1, ⟨_, fp', by omega, k2⟩, k3.below hb (fun x hx => (h.lo x hx).1)⟩
theorem ld_flush0 (c : UInt8) {base g : Nat} (w : World) (h : Dev base g w 1 ⟨8, fun _ => none, [(3, B c)]⟩) (hb : base ≤ w.heap.size) : Calls Try.prog 14 #[.pointer (some ⟨g, 0, none⟩)] w fun e w' => e = .returned (.tuple #[]) ∧ LDev c base g w' 0 ∧ Below base w w' := by
  obtain ⟨N, fp, hN, h⟩ := h
  refine (flush_any (by omega) w h).mono fun e w' k => ⟨k.1, ⟨_, fp, k.2.1.shrink, rfl, ?_, (fun q hq => by cases hq), Nat.le_refl _⟩, k.2.2.below hb (fun y hy => (h.lo y hy).1)⟩
  show over (fun _ => none) 3 (B c) (cnt (B c)) 3 = _
  unfold over
  rw [B_cnt, if_pos (by omega)]
  show some (piece (B c) 0) = _
  rw [piece_one]
theorem kinds (K : Int) : K = 0 ∨ K = 1 ∨ K = 2 ∨ ((K == 0) = false ∧ (K == 1) = false ∧ (K == 2) = false) := by
  by_cases h0 : K = 0
  · exact .inl h0
  · by_cases h1 : K = 1
    · exact .inr (.inl h1)
    · by_cases h2 : K = 2
      · exact .inr (.inr (.inl h2))
      · exact .inr (.inr (.inr ⟨by simp [h0], by simp [h1], by simp [h2]⟩))
theorem block_c (c : UInt8) (w : World) : Calls Try.prog 21 #[.int .u8 (c.toNat : Int)] w fun e w' => e = .returned (.string (B c)) ∧ Below w.heap.size w w' := block_any c w
set_option maxRecDepth 100000 in
set_option maxHeartbeats 8000000 in
theorem lasts_walk (c : UInt8) (ao : Option Addr) (len cap : Nat) (it : Nat → Stp) (W : World) (hS : SLie W ao len it) (_hlc : len ≤ cap) (_hcm : cap ≤ maxLen) :
    Calls Try.prog 4 #[.int .u8 (c.toNat : Int), .slice ao len cap] W fun e w' => e = .returned (.bool true) ∧ Below W.heap.size W w' := by
  have hcl := c.toNat_lt
  unfold maxLen at _hcm
  have hbs := B_size c
  have HS := hid hS
  clear hS
  obtain ⟨Bc, hBc⟩ : ∃ b, b = B c := ⟨_, rfl⟩
  have HBK := hid (block_c c)
  have HF := hid (fun g w h hb => ld_first c (base := W.heap.size) (g := g) w h hb)
  have HRD := hid (fun g j w h => ld_read (c := c) (base := W.heap.size) (g := g) (j := j) w h)
  have HLA := hid (fun g j w h => ld_lasts (c := c) (base := W.heap.size) (g := g) (j := j) w h)
  rw [← hBc] at HBK HF HRD HLA hbs
  have HBC := hid hBc
  clear hBc
  go_enter Try.func4, Try.ntmps4
  by_cases hl3 : 300 < len
  · go_wp2_with (first
      | (go_at_call 8; refine (ld_new _).mono ?_; rintro e w1 ⟨g, rfl, hD, hB⟩)
      | (go_at_call 21; refine (HBK.out _).mono ?_; rintro e wq ⟨rfl, hq⟩; have hD := hD.keep hq; have hB := hB.next hq)
      | (go_at_call 11; refine (HF.out _ _ hD hB.size).mono ?_; rintro e w2 ⟨rfl, hD, hb2⟩; have hB := hB.trans hb2)
      | (go_at_call 10; refine (speaks_any _).mono ?_; rintro e w7 ⟨rfl, hb7⟩))
    go_ret
    exact ⟨rfl, hB.next hb7⟩
  · go_wp2_with (first
      | (go_at_call 8; refine (ld_new _).mono ?_; rintro e w1 ⟨g, rfl, hD, hB⟩)
      | (go_at_call 21; refine (HBK.out _).mono ?_; rintro e wq ⟨rfl, hq⟩; have hD := hD.keep hq; have hB := hB.next hq)
      | (go_at_call 11; refine (HF.out _ _ hD hB.size).mono ?_; rintro e w2 ⟨rfl, hD, hb2⟩; have hB := hB.trans hb2)
      | (go_at_call 14; rw [HBC.out] at hD; refine (ld_flush0 c _ hD hB.size).mono ?_; rintro e w3 ⟨rfl, hL, hb3⟩; have hB := hB.trans hb3))
    go_loopw [48] (fun i wr => ∃ j : Nat, i = .int .i64 j ∧ j ≤ len ∧ LDev c W.heap.size g wr j ∧ Below W.heap.size W wr) (fun i _ => len - (intOf i).toNat)
    case atStart => exact ⟨0, rfl, Nat.zero_le _, hL, hB⟩
    case round =>
      obtain ⟨j, rfl, hj, hL2, hB2⟩ := hrel
      have HL := hid hL2
      have HB := hid hB2
      clear hL2 hB2 hL hB hD
      by_cases hlt : j < len
      · obtain ⟨b, off, rfl, hbW, s0, s1, s2, s3, s4, s5, s6, hPR, bA, bM, bO, bT⟩ := HS.out j hlt
        obtain ⟨y, hy⟩ : ∃ y, y = it j := ⟨_, rfl⟩
        rw [← hy] at s0 s1 s2 s3 s4 s5 s6 hPR bA bM bO bT
        obtain ⟨K, A, M, O, T, x, pv, pl, pk⟩ := y
        simp only at s0 s1 s2 s3 s4 s5 s6 hPR bA bM bO bT
        have t0 := (HB.out.cell (p := ⟨b, off + j * 7, none⟩) hbW).trans s0
        have t1 := (HB.out.cell (p := ⟨b, off + j * 7 + 1, none⟩) hbW).trans s1
        have t2 := (HB.out.cell (p := ⟨b, off + j * 7 + 2, none⟩) hbW).trans s2
        have t3 := (HB.out.cell (p := ⟨b, off + j * 7 + 3, none⟩) hbW).trans s3
        have t4 := (HB.out.cell (p := ⟨b, off + j * 7 + 4, none⟩) hbW).trans s4
        have t5 := (HB.out.cell (p := ⟨b, off + j * 7 + 5, none⟩) hbW).trans s5
        have t6 := (HB.out.cell (p := ⟨b, off + j * 7 + 6, none⟩) hbW).trans s6
        have hbr : b < wr.heap.size := Nat.lt_of_lt_of_le hbW HB.out.size
        clear s0 s1 s2 s3 s4 s5 s6 hy
        obtain ⟨pao, pc, hpv⟩ : ∃ pao pc, pv = .slice pao pl pc := by obtain ⟨⟨pao, pc, e, _⟩, _⟩ := hPR; exact ⟨pao, pc, e⟩
        subst hpv
        have HPR := hid hPR
        clear hPR
        go_upto_block 2 with fail
        have HSAME : Hid (LDev c W.heap.size g (wr.alloc (.cells #[.int .i64 K, .int .i64 A, .int .i64 M, .int .i64 O, .int .i64 T, .int .u8 (x.toNat : Int), .slice pao pl pc] 33)) (j + 1) ∧ Below W.heap.size W (wr.alloc (.cells #[.int .i64 K, .int .i64 A, .int .i64 M, .int .i64 O, .int .i64 T, .int .u8 (x.toNat : Int), .slice pao pl pc] 33))) :=
          ⟨(HL.out.keep (below_alloc wr _)).mono (by omega), HB.out.next (below_alloc wr _)⟩
        go_cut [] (fun wx => LDev c W.heap.size g wx (j + 1) ∧ Below W.heap.size W wx)
        case first =>
          clear t0 t1 t2 t3 t4 t5 t6 hbr
          rcases kinds K with rfl | rfl | rfl | ⟨k0, k1, k2⟩
          · by_cases a1 : 3 < A
            · have hcd : A > 3 ∨ (0 ≤ A ∧ A ≤ 2 ∧ M ≤ 3 - A) := .inl a1
              go_wp2
              go_region_with (first
                | (go_at_call 12; refine (data_any _ A M O T x _ bO _).mono ?_; rintro e w5 ⟨rfl, hb5⟩; have hb6 := bel_ad hb5; obtain ⟨q0, q1, q2, q3, q4, q5, q6⟩ := seven_cells (var_ad hb5); have hL5 := hid (HL.out.keep hb6); clear hb5)
                | (go_at_call 11; refine (ld_write A M O x bA hcd (by omega) _ hL5.out (Nat.le_trans HB.out.size hb6.size)).mono ?_; rintro e w6 ⟨⟨r, rfl⟩, hL6, hb7⟩))
              all_goals
                have hf := And.intro hL6 ((HB.out.trans (hb6.mono HB.out.size)).trans hb7)
                clear hL6 hb7 hb6 hL5
                go_wp2
                go_meet
                exact hf
            · by_cases a2 : 0 ≤ A
              · by_cases a3 : A ≤ 2
                · by_cases a4 : M ≤ 3 - A
                  · have hcd : A > 3 ∨ (0 ≤ A ∧ A ≤ 2 ∧ M ≤ 3 - A) := .inr ⟨a2, a3, a4⟩
                    go_wp2
                    go_region_with (first
                      | (go_at_call 12; refine (data_any _ A M O T x _ bO _).mono ?_; rintro e w5 ⟨rfl, hb5⟩; have hb6 := bel_ad hb5; obtain ⟨q0, q1, q2, q3, q4, q5, q6⟩ := seven_cells (var_ad hb5); have hL5 := hid (HL.out.keep hb6); clear hb5)
                      | (go_at_call 11; refine (ld_write A M O x bA hcd (by omega) _ hL5.out (Nat.le_trans HB.out.size hb6.size)).mono ?_; rintro e w6 ⟨⟨r, rfl⟩, hL6, hb7⟩))
                    all_goals
                      have hf := And.intro hL6 ((HB.out.trans (hb6.mono HB.out.size)).trans hb7)
                      clear hL6 hb7 hb6 hL5
                      go_wp2
                      go_meet
                      exact hf
                  · have a5 : decide (M ≤ 3 - A) = false := decide_eq_false a4
                    go_wp2
                    go_meet
                    exact HSAME.out
                · have a5 : decide (A ≤ 2) = false := decide_eq_false a3
                  go_wp2
                  go_meet
                  exact HSAME.out
              · have a5 : decide (0 ≤ A) = false := decide_eq_false a2
                go_wp2
                go_meet
                exact HSAME.out
          · by_cases a1 : 3 < A
            · have hcd : A > 3 ∨ (0 ≤ A ∧ A ≤ 2 ∧ M ≤ 3 - A) := .inl a1
              go_wp2
              go_region_with (first
                | (go_at_call 12; refine (data_any _ A M O T x _ bO _).mono ?_; rintro e w5 ⟨rfl, hb5⟩; have hb6 := bel_ad hb5; obtain ⟨q0, q1, q2, q3, q4, q5, q6⟩ := seven_cells (var_ad hb5); have hL5 := hid (HL.out.keep hb6); clear hb5)
                | (go_at_call 11; refine (ld_write A M O x bA hcd (by omega) _ hL5.out (Nat.le_trans HB.out.size hb6.size)).mono ?_; rintro e w6 ⟨⟨r, rfl⟩, hL6, hb7⟩))
              all_goals
                have hf := And.intro hL6 ((HB.out.trans (hb6.mono HB.out.size)).trans hb7)
                clear hL6 hb7 hb6 hL5
                go_wp2
                go_meet
                exact hf
            · by_cases a2 : 0 ≤ A
              · by_cases a3 : A ≤ 2
                · by_cases a4 : M ≤ 3 - A
                  · have hcd : A > 3 ∨ (0 ≤ A ∧ A ≤ 2 ∧ M ≤ 3 - A) := .inr ⟨a2, a3, a4⟩
                    go_wp2
                    go_region_with (first
                      | (go_at_call 12; refine (data_any _ A M O T x _ bO _).mono ?_; rintro e w5 ⟨rfl, hb5⟩; have hb6 := bel_ad hb5; obtain ⟨q0, q1, q2, q3, q4, q5, q6⟩ := seven_cells (var_ad hb5); have hL5 := hid (HL.out.keep hb6); clear hb5)
                      | (go_at_call 11; refine (ld_write A M O x bA hcd (by omega) _ hL5.out (Nat.le_trans HB.out.size hb6.size)).mono ?_; rintro e w6 ⟨⟨r, rfl⟩, hL6, hb7⟩))
                    all_goals
                      have hf := And.intro hL6 ((HB.out.trans (hb6.mono HB.out.size)).trans hb7)
                      clear hL6 hb7 hb6 hL5
                      go_wp2
                      go_meet
                      exact hf
                  · have a5 : decide (M ≤ 3 - A) = false := decide_eq_false a4
                    go_wp2
                    go_meet
                    exact HSAME.out
                · have a5 : decide (A ≤ 2) = false := decide_eq_false a3
                  go_wp2
                  go_meet
                  exact HSAME.out
              · have a5 : decide (0 ≤ A) = false := decide_eq_false a2
                go_wp2
                go_meet
                exact HSAME.out
          · go_wp2_with (first
              | (go_at_call 14; refine (ld_flush _ (HL.out.keep (below_alloc wr _)) (Nat.le_trans HB.out.size (below_alloc wr _).size)).mono ?_; rintro e w6 ⟨rfl, hL6, hb7⟩))
            have hf := And.intro hL6 ((HB.out.next (below_alloc wr _)).trans hb7)
            go_meet
            exact hf
          · go_wp2_with (first
              | (go_at_call 16; refine (ld_crash _ pl pk T (by omega) W _ HPR.out (HB.out.next (below_alloc wr _)) (Nat.le_refl _) (HL.out.keep (below_alloc wr _)) (Nat.le_trans HB.out.size (below_alloc wr _).size)).mono ?_; rintro e w6 ⟨⟨r, rfl⟩, hL6, hb7⟩))
            have hf := And.intro hL6 ((HB.out.next (below_alloc wr _)).trans hb7)
            go_meet
            exact hf
        case rest =>
          obtain ⟨hL7, hB7⟩ := hcut
          clear t0 t1 t2 t3 t4 t5 t6 hbr HSAME
          have hL := hL7
          have hB := hB7
          clear hL7 hB7
          go_wp2_with (first
            | (go_at_call 22; refine (HRD.out _ _ _ hL).mono ?_; rintro e w8 ⟨rfl, hq⟩; have hL := hL.keep hq; have hB := hB.next hq)
            | (go_at_call 23; refine (HLA.out _ _ _ hL).mono ?_; rintro e w9 ⟨rfl, hq⟩; have hL := hL.keep hq; have hB := hB.next hq)
            | (go_at_call 21; refine (HBK.out _).mono ?_; rintro e wq ⟨rfl, hq⟩; have hL := hL.keep hq; have hB := hB.next hq))
          have H9 := hid (And.intro hL hB)
          go_roundw
          case rel => exact ⟨j + 1, by go_num, by omega, H9.out.1, H9.out.2⟩
          case measure => simp [intOf]; omega
      · go_wp2_with (first
          | (go_at_call 10; refine (speaks_any _).mono ?_; rintro e w7 ⟨rfl, hb7⟩))
        go_ret
        exact ⟨rfl, HB.out.next hb7⟩
end Go.Proofs.Ytglhibmfbbbdiaa
