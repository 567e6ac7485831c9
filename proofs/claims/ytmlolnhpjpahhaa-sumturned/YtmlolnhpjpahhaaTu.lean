import Derived.Test.YtmlolnhpjpahhaaMix
import Derived.Deep.DeepCutAuto
import Derived.Deep.DeepFit
import Derived.Deep.CutBlock
import Derived.Lib.ConvBytes
namespace Go.Proofs.Ytmlolnhpjpahhaa
open Go.RowKit

/-- bytes in a row of the call's own, from its first place on -/
def BIs (g : Nat) (w : World) (l : List UInt8) : Prop := ∃ cur fz, w.heap[g]? = some (.cells cur 5 fz) ∧ l.length ≤ fz.1 ∧ cur.toList.take l.length = bc l
theorem BIs.get {g : Nat} {w : World} {l : List UInt8} (h : BIs g w l) (j : Nat) (hj : j < l.length) : w.cell? ⟨g, j, none⟩ = some (.int .u8 ((l[j]).toNat : Int)) := by
  obtain ⟨cur, fz, h1, h2, h3⟩ := h
  have h4 : cur.toList[j]? = (bc l)[j]? := by rw [← h3, List.getElem?_take_of_lt hj]
  simp [World.cell?, h1]
  rw [← Array.getElem?_toList, h4]
  simp [bc, hj]
theorem BIs.free {g : Nat} {w : World} {l : List UInt8} (h : BIs g w l) (j : Nat) (hj : j < l.length) : w.frozen? ⟨g, j, none⟩ = false := by
  obtain ⟨cur, fz, h1, h2, h3⟩ := h
  obtain ⟨lo, hi⟩ := fz
  simp [World.frozen?, h1]
  intro h5
  simp at h2
  omega
theorem BIs.set {g : Nat} {w : World} {l : List UInt8} (h : BIs g w l) (j : Nat) (b : UInt8) (x : Int) (hx : x = (b.toNat : Int)) : BIs g (w.setCell ⟨g, j, none⟩ (.int .u8 x)) (l.set j b) := by
  obtain ⟨cur, fz, h1, h2, h3⟩ := h
  have hlt := lt_of_block h1
  have h' : w.heap[g] = .cells cur 5 fz := by simpa [Array.getElem?_eq_getElem hlt] using h1
  subst hx
  refine ⟨cur.setIfInBounds j (.int .u8 b.toNat), fz, ?_, by rw [List.length_set]; exact h2, ?_⟩
  · show (w.heap.modify g _)[g]? = _
    rw [Array.getElem?_eq_getElem (by simpa using hlt), Array.getElem_modify_self, h']
    rfl
  · rw [List.length_set, Array.toList_setIfInBounds, List.take_set, h3]
    simp [bc, List.map_set]
theorem BIs.conv {g : Nat} {w : World} {l : List UInt8} (h : BIs g w l) (cap : Nat) : (convert 34 9 (.slice (some ⟨g, 0, none⟩) l.length cap)).run Try.prog w = .ok (.string (st l)) w := by
  rw [← strOf_bytes]
  refine run_convert_bytes_arg w 34 5 Try.underlying34 Try.underlying5 g 0 l.length cap _ (by simp) (fun i hi => ?_) 9 Try.underlying9
  have hi' : i < l.length := by simpa using hi
  rw [Nat.zero_add, h.get i hi']
  simp [List.getElem?_eq_getElem hi']
theorem bytes_new (w : World) (s : ByteArray) : ∃ cap wc, (convert 9 34 (.string s)).run Try.prog w = .ok (.slice (some ⟨w.heap.size, 0, none⟩) s.size cap) wc ∧ BIs w.heap.size wc s.data.toList ∧ Below w.heap.size w wc := by
  refine ⟨_, _, Lib.run_convert_string_bytes w 9 34 5 s Try.underlying9 Try.underlying34 Try.underlying5, ⟨_, _, Lib.bytesWorld_at_new w 5 s, ?_, ?_⟩, ⟨?_, ?_, ?_, ?_, ?_⟩⟩
  · simp [Lib.bytesCells]
  · simp [Lib.bytesCells, bc]
  · rfl
  · rfl
  · rfl
  · rw [Lib.bytesWorld_size]; omega
  · intro k hk; exact Lib.bytesWorld_at_old w 5 s k hk

/-- one bit turned -/
theorem big_flip : ∀ (l : List UInt8) (k j : Nat) (hk : k < l.length), j < 8 → big (l.set k (l[k] ^^^ UInt8.ofNat (2 ^ j))) = big l ^^^ 2 ^ (8 * k + j)
  | [], k, j, hk, _ => by simp at hk
  | b :: l, 0, j, _, hj => by
    show big ((b ^^^ UInt8.ofNat (2 ^ j)) :: l) = _
    have e : (UInt8.ofNat (2 ^ j)).toNat = 2 ^ j := by
      rw [UInt8.toNat_ofNat']
      exact Nat.mod_eq_of_lt (Nat.lt_of_lt_of_le (Nat.pow_lt_pow_right (by decide) hj) (by decide))
    rw [big_cons, big_cons, UInt8.toNat_xor, e, Nat.mul_zero, Nat.zero_add]
    ac_rfl
  | b :: l, k + 1, j, hk, hj => by
    have hk' : k < l.length := by simpa using hk
    show big (b :: l.set k (l[k] ^^^ UInt8.ofNat (2 ^ j))) = _
    rw [big_cons, big_cons, big_flip l k j hk' hj, show 2 ^ (8 * (k + 1) + j) = 256 * 2 ^ (8 * k + j) by rw [show 8 * (k + 1) + j = 8 + (8 * k + j) by omega, Nat.pow_add 2 8]]
    have e : ∀ x y : Nat, 256 * (x ^^^ y) = 256 * x ^^^ 256 * y := by
      intro x y
      apply Nat.eq_of_testBit_eq
      intro i
      rw [Nat.testBit_xor]
      have h2 : ∀ m : Nat, (256 * m).testBit i = (decide (8 ≤ i) && m.testBit (i - 8)) := fun m => by
        have := Nat.testBit_two_pow_mul (i := 8) (a := m) (j := i)
        rw [show (2 : Nat) ^ 8 = 256 by decide] at this
        simpa using this
      rw [h2, h2, h2, Nat.testBit_xor]
      cases decide (8 ≤ i) <;> simp
    rw [e]
    ac_rfl
theorem mod_bit0 (P i : Nat) (h : P / 2 ^ i % 2 = 0) : P % 2 ^ (i + 1) = P % 2 ^ i := by
  rw [Nat.pow_succ, Nat.mod_mul, h]; simp
theorem mod_bit1 (P i : Nat) (h : P / 2 ^ i % 2 = 1) : P % 2 ^ (i + 1) = P % 2 ^ i ^^^ 2 ^ i := by
  have := add_xor i (P % 2 ^ i) 1 (Nat.mod_lt _ (Nat.pow_pos (by decide)))
  rw [Nat.mul_one] at this
  rw [Nat.pow_succ, Nat.mod_mul, h, ← this, Nat.mul_one]
theorem and_bit (P j : Nat) (hP : P < 4294967296) : bits .and .u32 ((P : Int) / 2 ^ j) 1 = ((P / 2 ^ j % 2 : Nat) : Int) := by
  have h1 : P / 2 ^ j < 4294967296 := Nat.lt_of_le_of_lt (Nat.div_le_self _ _) hP
  have e : ((P : Int) / 2 ^ j) = ((P / 2 ^ j : Nat) : Int) := by simp
  have := ba32 h1 (show 1 < 4294967296 by decide)
  rw [and_one'] at this
  rw [e]; exact this
theorem xor_m (x : UInt8) (m : Nat) : bits .xor .u8 (x.toNat : Int) (2 ^ m % 256) = ((x ^^^ UInt8.ofNat (2 ^ m)).toNat : Int) := by
  have e : (2 : Int) ^ m % 256 = ((UInt8.ofNat (2 ^ m)).toNat : Int) := by
    rw [UInt8.toNat_ofNat']
    have : ((2 ^ m % 256 : Nat) : Int) = (2 : Int) ^ m % 256 := by simp
    rw [← this]
  rw [e, bx8]
theorem mul_xor (A x y : Nat) : 2 ^ A * (x ^^^ y) = 2 ^ A * x ^^^ 2 ^ A * y := by
  apply Nat.eq_of_testBit_eq
  intro i
  rw [Nat.testBit_xor, Nat.testBit_two_pow_mul, Nat.testBit_two_pow_mul, Nat.testBit_two_pow_mul, Nat.testBit_xor]
  cases decide (A ≤ i) <;> simp
def patV (p : Int) : Nat := if p % 4294967296 = 0 then 1 else (p % 4294967296).toNat
def atV (n : Nat) (a : Int) : Nat := if a < 0 ∨ a > 8 * (n : Int) - 32 then 0 else a.toNat
theorem patV_zero {p : Int} (h : p % 4294967296 = 0) : patV p = 1 := by unfold patV; rw [if_pos h]
theorem patV_else {p : Int} (h : ¬ p % 4294967296 = 0) : ((patV p : Nat) : Int) = p % 4294967296 := by unfold patV; rw [if_neg h]; omega
theorem patV_lt (p : Int) : patV p < 4294967296 ∧ patV p ≠ 0 := by
  unfold patV
  split <;> omega
set_option maxRecDepth 100000 in
set_option maxHeartbeats 4000000 in
theorem turned_walk (s : ByteArray) (at0 p : Int) (h4 : 4 ≤ s.size) (hs : s.size ≤ 200) (ha : -9223372036854775808 ≤ at0 ∧ at0 ≤ 9223372036854775807) (w : World) :
    Calls Try.prog 20 #[.string s, .int .i64 at0, .int .i64 p] w fun e w' => ∃ y, e = .returned (.string y) ∧ y.size = s.size ∧ big y.data.toList = big s.data.toList ^^^ 2 ^ atV s.size at0 * patV p ∧ Below w.heap.size w w' := by
  have hA : ∃ A : Nat, A + 32 ≤ 8 * s.size ∧ atV s.size at0 = A ∧ ((at0 < 0 ∧ Hid (A = 0)) ∨ (¬ at0 < 0 ∧ at0 > 8 * (s.size : Int) - 32 ∧ Hid (A = 0)) ∨ (¬ at0 < 0 ∧ ¬ at0 > 8 * (s.size : Int) - 32 ∧ at0 = (A : Int))) := by
    refine ⟨atV s.size at0, ?_, rfl, ?_⟩
    · unfold atV; split <;> omega
    · unfold atV Hid; split <;> omega
  obtain ⟨A, hA32, hAe, hcase⟩ := hA
  rw [hAe]
  clear hAe
  have hPl := patV_lt p
  rcases hcase with ⟨c1, HA0⟩ | ⟨c1, c2, HA0⟩ | ⟨c1, c2, rfl⟩
  all_goals
    go_enter Try.func20, Try.ntmps20
    go_upto_if 13 with fail
    go_cut [7] (fun s7 wx => w = wx ∧ s7 = .int .u32 (patV p))
    case first =>
      by_cases hp : p % 4294967296 = 0
      · go_wp2
        go_meet
        exact ⟨rfl, by rw [patV_zero hp]; rfl⟩
      · have hp' : (p % 4294967296 == 0) = false := by simp [hp]
        go_wp2
        go_meet
        exact ⟨rfl, by rw [patV_else hp]⟩
    case rest =>
      obtain ⟨rfl, rfl⟩ := hcut
      obtain ⟨P, hP⟩ : ∃ P, P = patV p := ⟨_, rfl⟩
      rw [← hP] at hPl ⊢
      have HP := hid hP
      clear hP
      go_upto_if 23 with fail
      go_cut [1] (fun s1 wx => w = wx ∧ s1 = .int .i64 (A : Int))
      case first =>
        go_wp2
        go_meet
        first
          | exact ⟨rfl, rfl⟩
          | exact ⟨rfl, by rw [HA0.out]; rfl⟩
      case rest =>
      obtain ⟨rfl, rfl⟩ := hcut
      obtain ⟨cap, wc, hconv, hBI, hBe⟩ := bytes_new w s
      go_wp2
      go_loopw [9] (fun i wr => ∃ (j : Nat) (l : List UInt8), i = .int .i64 j ∧ j ≤ 32 ∧ l.length = s.size ∧ big l = big s.data.toList ^^^ 2 ^ A * (P % 2 ^ j) ∧ BIs w.heap.size wr l ∧ Below w.heap.size w wr) (fun i _ => 32 - (intOf i).toNat)
      case atStart => exact ⟨0, s.data.toList, rfl, by decide, len_list s, by rw [Nat.pow_zero, Nat.mod_one, Nat.mul_zero, Nat.xor_zero], hBI, hBe⟩
      case round =>
        obtain ⟨j, l, rfl, hj, hll, hbig, hBI2, hBe2⟩ := hrel
        have HL := hid hll
        have HBig := hid hbig
        have HBI := hid hBI2
        have HBe := hid hBe2
        clear hll hbig hBI2 hBe2 hBI hBe hconv
        by_cases hlt : j < 32
        · rcases (show P / 2 ^ j % 2 = 0 ∨ P / 2 ^ j % 2 = 1 by omega) with hb | hb
          · have hand : bits .and .u32 ((P : Int) / 2 ^ j) 1 = 0 := by
              rw [and_bit P j hPl.1, hb]; rfl
            have HE : Hid (P % 2 ^ (j + 1) = P % 2 ^ j) := mod_bit0 P j hb
            clear hb
            go_wp2
            go_roundw
            case rel => exact ⟨j + 1, l, by go_num, by omega, HL.out, by rw [HE.out]; exact HBig.out, HBI.out, HBe.out⟩
            case measure => simp [intOf]; omega
          · have hand : bits .and .u32 ((P : Int) / 2 ^ j) 1 = 1 := by
              rw [and_bit P j hPl.1, hb]; rfl
            have HE : Hid (P % 2 ^ (j + 1) = P % 2 ^ j ^^^ 2 ^ j) := mod_bit1 P j hb
            clear hb
            have hk : (A + j) / 8 < l.length := by rw [HL.out]; omega
            have hcell := HBI.out.get _ hk
            have hfree := HBI.out.free _ hk
            obtain ⟨x, hx⟩ : ∃ x, x = l[(A + j) / 8] := ⟨_, rfl⟩
            rw [← hx] at hcell
            have HX := hid hx
            clear hx
            go_wp2
            go_roundw
            case rel =>
              refine ⟨j + 1, l.set ((A + j) / 8) (x ^^^ UInt8.ofNat (2 ^ ((A + j) % 8))), by go_num, by omega, by rw [List.length_set]; exact HL.out, ?_, HBI.out.set _ _ _ (xor_m x _), HBe.out.setCell (Nat.le_refl _) _⟩
              rw [HX.out, big_flip l _ _ hk (Nat.mod_lt _ (by decide)), HBig.out, HE.out, mul_xor, show 8 * ((A + j) / 8) + (A + j) % 8 = A + j by omega, Nat.pow_add, Nat.xor_assoc]
            case measure => simp [intOf]; omega
        · have hj32 : j = 32 := by omega
          have HE : Hid (big l = big s.data.toList ^^^ 2 ^ A * P) := by
            show _ = _
            rw [HBig.out, hj32, Nat.mod_eq_of_lt (show P < 2 ^ 32 from hPl.1)]
          have hcv := HBI.out.conv cap
          rw [HL.out] at hcv
          go_wp2
          go_ret
          refine ⟨st l, rfl, by rw [st_size]; exact HL.out, by rw [st_list, ← HP.out]; exact HE.out, HBe.out⟩

theorem atV_le (n : Nat) (a : Int) (h : 4 ≤ n) : atV n a ≤ 8 * n := by unfold atV; split <;> omega
/-- what was turned does not carry its sum -/
theorem turned_bad (x y : ByteArray) (n A P : Nat) (hx : x.size = n + 4) (hy : y.size = n + 4) (hP : P < 4294967296) (h0 : P ≠ 0) (hA : A ≤ 8 * (n + 4)) (hb : big y.data.toList = big x.data.toList ^^^ 2 ^ A * P)
    (hc : crc (x.data.toList.take n) = big (x.data.toList.drop n)) : ¬ crc (y.data.toList.take n) = big (y.data.toList.drop n) := by
  have lx : (x.data.toList.drop n).length = 4 := by rw [List.length_drop, len_list]; omega
  have ly : (y.data.toList.drop n).length = 4 := by rw [List.length_drop, len_list]; omega
  rw [carries lx, List.take_append_drop, len_list, hx] at hc
  rw [carries ly, List.take_append_drop, len_list, hy]
  exact found hP h0 hA hb hc
theorem unV_bad (y : ByteArray) (h : y.size = 128) (hc : ¬ crc (y.data.toList.take 124) = big (y.data.toList.drop 124)) : unV y = (ByteArray.empty, 30) := by
  unfold unV
  rw [if_neg (by omega), if_pos hc]
set_option maxRecDepth 100000 in
set_option maxHeartbeats 4000000 in
theorem turnedl_walk (s0 : ByteArray) (at0 p : Int) (ha : -9223372036854775808 ≤ at0 ∧ at0 ≤ 9223372036854775807) (w : World) :
    Calls Try.prog 6 #[.string s0, .int .i64 at0, .int .i64 p] w fun e w' => e = .returned (.bool true) ∧ Below w.heap.size w w' := by
  obtain ⟨s, hs⟩ : ∃ s : ByteArray, s = if 122 < s0.size then s0.extract 0 122 else s0 := ⟨_, rfl⟩
  have hsz : s.size ≤ 122 := by
    rw [hs]
    split
    · rw [ext_szh s0 122 (by omega)]; omega
    · omega
  have hl := len_list s
  have HB := hid (fun w => block_any s hsz w)
  have HS := hid (fun w => seal_any s (by omega) w)
  have hz : (st (sealL (bodyL s.data.toList))).size = 128 := by rw [st_size, sealL_len, bodyL_len _ (by omega)]
  have hz2 : (st (sealL s.data.toList)).size = s.size + 4 := by rw [st_size, sealL_len, hl]
  have hc1 : crc ((st (sealL (bodyL s.data.toList))).data.toList.take 124) = big ((st (sealL (bodyL s.data.toList))).data.toList.drop 124) := by
    rw [st_list, take_body _ (by omega), drop_body _ (by omega), big_fEnc 4 _ (by have := crc_lt (bodyL s.data.toList); omega)]
  have hc2 : crc ((st (sealL s.data.toList)).data.toList.take s.size) = big ((st (sealL s.data.toList)).data.toList.drop s.size) := by
    rw [st_list, sealL, ← hl, List.take_left, List.drop_left, big_fEnc 4 _ (by have := crc_lt s.data.toList; omega)]
  obtain ⟨X, hX⟩ : ∃ X, X = st (sealL (bodyL s.data.toList)) := ⟨_, rfl⟩
  obtain ⟨Z, hZ⟩ : ∃ Z, Z = st (sealL s.data.toList) := ⟨_, rfl⟩
  rw [← hX] at HB hz hc1
  rw [← hZ] at HS hz2 hc2
  clear hX hZ hl
  have hP := patV_lt p
  have HX : Hid (∀ w, Calls Try.prog 20 #[.string X, .int .i64 at0, .int .i64 p] w fun e w' => ∃ y, e = .returned (.string y) ∧ unV y = (ByteArray.empty, 30) ∧ y.size = 128 ∧ Below w.heap.size w w') := fun w =>
    (turned_walk X at0 p (by omega) (by omega) ha w).mono fun e w' ⟨y, e1, e2, e3, e4⟩ => ⟨y, e1, unV_bad y (by omega) (turned_bad X y 124 _ _ (by omega) (by omega) hP.1 hP.2 (by have := atV_le X.size at0 (by omega); omega) e3 hc1), by omega, e4⟩
  have HZ : Hid (∀ w, Calls Try.prog 20 #[.string Z, .int .i64 at0, .int .i64 p] w fun e w' => ∃ y, e = .returned (.string y) ∧ y.size = s.size + 4 ∧ (¬ crc (y.data.toList.take s.size) = big (y.data.toList.drop s.size)) ∧ Below w.heap.size w w') := fun w =>
    (turned_walk Z at0 p (by omega) (by omega) ha w).mono fun e w' ⟨y, e1, e2, e3, e4⟩ => ⟨y, e1, by omega, turned_bad Z y s.size _ _ hz2 (by omega) hP.1 hP.2 (by have := atV_le Z.size at0 (by omega); omega) e3 hc2, e4⟩
  have HU : Hid (∀ (y : ByteArray) (w : World), unV y = (ByteArray.empty, 30) → y.size = 128 → Calls Try.prog 18 #[.string y] w fun e w' => e = .returned (.tuple #[.string ByteArray.empty, .int .i64 30]) ∧ Below w.heap.size w w') := fun y w h1 h2 => by
    have := unblock_any y (by omega) w
    rw [h1] at this
    exact this
  have HO : Hid (∀ (y : ByteArray) (w : World), y.size = s.size + 4 → (¬ crc (y.data.toList.take s.size) = big (y.data.toList.drop s.size)) → Calls Try.prog 9 #[.string y] w fun e w' => e = .returned (.tuple #[.string ByteArray.empty, .int .i64 30]) ∧ Below w.heap.size w w') := fun y w h1 h2 =>
    open_bad y s.size h1 (by omega) h2 w
  clear hc1 hc2 hP
  by_cases h : 122 < s0.size
  · rw [if_pos h] at hs
    have hcut : s0.extract 0 122 = s := hs.symm
    clear hs
    go_enter Try.func6, Try.ntmps6
    go_wp2_with (first
      | (go_at_call 16; refine (HB.out _).mono ?_; rintro e w1 ⟨rfl, hb1⟩)
      | (go_at_call 20; refine (HX.out _).mono ?_; rintro e w2 ⟨y, rfl, hy1, hy2, hb2⟩; have HY := hid (HU.out y · hy1 hy2); clear hy1 hy2 HX)
      | (go_at_call 13; refine (HS.out _).mono ?_; rintro e w3 ⟨rfl, hb3⟩)
      | (go_at_call 20; refine (HZ.out _).mono ?_; rintro e w4 ⟨u, rfl, hu1, hu2, hb4⟩; have HV := hid (HO.out u · hu1 hu2); clear hu1 hu2)
      | (go_at_call 18; refine (HY.out _).mono ?_; rintro e w5 ⟨rfl, hb5⟩)
      | (go_at_call 9; refine (HV.out _).mono ?_; rintro e w6 ⟨rfl, hb6⟩)
      | (go_at_call 15; refine (speaks_any _).mono ?_; rintro e w7 ⟨rfl, hb7⟩))
    go_ret
    exact ⟨rfl, (((((hb1.next hb2).next hb3).next hb4).next hb5).next hb6).next hb7⟩
  · rw [if_neg h] at hs
    subst hs
    go_enter Try.func6, Try.ntmps6
    go_wp2_with (first
      | (go_at_call 16; refine (HB.out _).mono ?_; rintro e w1 ⟨rfl, hb1⟩)
      | (go_at_call 20; refine (HX.out _).mono ?_; rintro e w2 ⟨y, rfl, hy1, hy2, hb2⟩; have HY := hid (HU.out y · hy1 hy2); clear hy1 hy2 HX)
      | (go_at_call 13; refine (HS.out _).mono ?_; rintro e w3 ⟨rfl, hb3⟩)
      | (go_at_call 20; refine (HZ.out _).mono ?_; rintro e w4 ⟨u, rfl, hu1, hu2, hb4⟩; have HV := hid (HO.out u · hu1 hu2); clear hu1 hu2)
      | (go_at_call 18; refine (HY.out _).mono ?_; rintro e w5 ⟨rfl, hb5⟩)
      | (go_at_call 9; refine (HV.out _).mono ?_; rintro e w6 ⟨rfl, hb6⟩)
      | (go_at_call 15; refine (speaks_any _).mono ?_; rintro e w7 ⟨rfl, hb7⟩))
    go_ret
    exact ⟨rfl, (((((hb1.next hb2).next hb3).next hb4).next hb5).next hb6).next hb7⟩
end Go.Proofs.Ytmlolnhpjpahhaa
