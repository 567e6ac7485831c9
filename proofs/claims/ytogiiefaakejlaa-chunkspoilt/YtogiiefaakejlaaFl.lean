import Derived.Test.YtogiiefaakejlaaBy
import Derived.Test.YtogiiefaakejlaaSp
import Derived.Lib.ConvBytes
import Derived.BigRegion
namespace Go.Proofs.Ytogiiefaakejlaa
open Go.RowKit
theorem BIs_lt {g : Nat} {w : World} {cur : Array Value} {fz : Nat × Nat} (h1 : w.heap[g]? = some (.cells cur 5 fz)) : g < w.heap.size := lt_of_block h1
/-- bytes in a row of the call's own, from its first place on -/
def BIs (g : Nat) (w : World) (l : List UInt8) : Prop := ∃ cur fz, w.heap[g]? = some (.cells cur 5 fz) ∧ l.length ≤ fz.1 ∧ cur.toList.take l.length = bc l
theorem BIs.get {g : Nat} {w : World} {l : List UInt8} (h : BIs g w l) (j : Nat) (hj : j < l.length) : w.cell? ⟨g, j, none⟩ = some (.int .u8 ((l[j]).toNat : Int)) := by
  obtain ⟨cur, fz, h1, h2, h3⟩ := h
  have h4 : cur.toList[j]? = (bc l)[j]? := by rw [← h3, List.getElem?_take_of_lt hj]
  simp [World.cell?, h1]
  rw [← Array.getElem?_toList, h4]
  simp [bc, hj]
theorem BIs.free {g : Nat} {w : World} {l : List UInt8} (h : BIs g w l) (j : Nat) (hj : j < l.length) : w.frozen? ⟨g, j, none⟩ = false := by
  obtain ⟨cur, fz, h1, h2, h3⟩ := h
  obtain ⟨lo, hi⟩ := fz
  simp [World.frozen?, h1]
  intro h5
  simp at h2
  omega
theorem BIs.set {g : Nat} {w : World} {l : List UInt8} (h : BIs g w l) (j : Nat) (b : UInt8) (x : Int) (hx : x = (b.toNat : Int)) : BIs g (w.setCell ⟨g, j, none⟩ (.int .u8 x)) (l.set j b) := by
  obtain ⟨cur, fz, h1, h2, h3⟩ := h
  have hlt := lt_of_block h1
  have h' : w.heap[g] = .cells cur 5 fz := by simpa [Array.getElem?_eq_getElem hlt] using h1
  subst hx
  refine ⟨cur.setIfInBounds j (.int .u8 b.toNat), fz, ?_, by rw [List.length_set]; exact h2, ?_⟩
  · show (w.heap.modify g _)[g]? = _
    rw [Array.getElem?_eq_getElem (by simpa using hlt), Array.getElem_modify_self, h']
    rfl
  · rw [List.length_set, Array.toList_setIfInBounds, List.take_set, h3]
    simp [bc, List.map_set]
theorem BIs.conv {g : Nat} {w : World} {l : List UInt8} (h : BIs g w l) (cap : Nat) : (convert 59 9 (.slice (some ⟨g, 0, none⟩) l.length cap)).run Try.prog w = .ok (.string (st l)) w := by
  rw [← strOf_bytes]
  refine run_convert_bytes_arg w 59 5 Try.underlying59 Try.underlying5 g 0 l.length cap _ (by simp) (fun i hi => ?_) 9 Try.underlying9
  have hi' : i < l.length := by simpa using hi
  rw [Nat.zero_add, h.get i hi']
  simp [List.getElem?_eq_getElem hi']
theorem bytes_new (w : World) (s : ByteArray) : ∃ cap wc, (convert 9 59 (.string s)).run Try.prog w = .ok (.slice (some ⟨w.heap.size, 0, none⟩) s.size cap) wc ∧ BIs w.heap.size wc s.data.toList ∧ Below w.heap.size w wc := by
  refine ⟨_, _, Lib.run_convert_string_bytes w 9 59 5 s Try.underlying9 Try.underlying59 Try.underlying5, ⟨_, _, Lib.bytesWorld_at_new w 5 s, ?_, ?_⟩, ⟨?_, ?_, ?_, ?_, ?_⟩⟩
  · simp [Lib.bytesCells]
  · simp [Lib.bytesCells, bc]
  · rfl
  · rfl
  · rfl
  · rw [Lib.bytesWorld_size]; omega
  · intro k hk; exact Lib.bytesWorld_at_old w 5 s k hk

/-- one bit turned -/
theorem big_flip : ∀ (l : List UInt8) (k j : Nat) (hk : k < l.length), j < 8 → big (l.set k (l[k] ^^^ UInt8.ofNat (2 ^ j))) = big l ^^^ 2 ^ (8 * k + j)
  | [], k, j, hk, _ => by simp at hk
  | b :: l, 0, j, _, hj => by
    show big ((b ^^^ UInt8.ofNat (2 ^ j)) :: l) = _
    have e : (UInt8.ofNat (2 ^ j)).toNat = 2 ^ j := by
      rw [UInt8.toNat_ofNat']
      exact Nat.mod_eq_of_lt (Nat.lt_of_lt_of_le (Nat.pow_lt_pow_right (by decide) hj) (by decide))
    rw [big_cons, big_cons, UInt8.toNat_xor, e, Nat.mul_zero, Nat.zero_add]
    ac_rfl
  | b :: l, k + 1, j, hk, hj => by
    have hk' : k < l.length := by simpa using hk
    show big (b :: l.set k (l[k] ^^^ UInt8.ofNat (2 ^ j))) = _
    rw [big_cons, big_cons, big_flip l k j hk' hj, show 2 ^ (8 * (k + 1) + j) = 256 * 2 ^ (8 * k + j) by rw [show 8 * (k + 1) + j = 8 + (8 * k + j) by omega, Nat.pow_add 2 8]]
    have e : ∀ x y : Nat, 256 * (x ^^^ y) = 256 * x ^^^ 256 * y := by
      intro x y
      apply Nat.eq_of_testBit_eq
      intro i
      rw [Nat.testBit_xor]
      have h2 : ∀ m : Nat, (256 * m).testBit i = (decide (8 ≤ i) && m.testBit (i - 8)) := fun m => by
        have := Nat.testBit_two_pow_mul (i := 8) (a := m) (j := i)
        rw [show (2 : Nat) ^ 8 = 256 by decide] at this
        simpa using this
      rw [h2, h2, h2, Nat.testBit_xor]
      cases decide (8 ≤ i) <;> simp
    rw [e]
    ac_rfl
theorem bx8 (a b : UInt8) : bits .xor .u8 (a.toNat : Int) (b.toNat : Int) = ((a ^^^ b).toNat : Int) := by
  show IntKind.u8.wrap (((BitVec.ofInt 8 (a.toNat : Int) ^^^ BitVec.ofInt 8 (b.toNat : Int)).toNat : Nat) : Int) = _
  have ha := a.toNat_lt
  have hb := b.toNat_lt
  have hx := (a ^^^ b).toNat_lt
  rw [BitVec.toNat_xor, BitVec.ofInt_natCast, BitVec.ofInt_natCast, BitVec.toNat_ofNat, BitVec.toNat_ofNat, Nat.mod_eq_of_lt (by omega), Nat.mod_eq_of_lt (by omega), ← UInt8.toNat_xor, IntKind.wrap_u8]
  omega
theorem xor_m (x : UInt8) (m : Nat) : bits .xor .u8 (x.toNat : Int) (2 ^ m % 256) = ((x ^^^ UInt8.ofNat (2 ^ m)).toNat : Int) := by
  have e : (2 : Int) ^ m % 256 = ((UInt8.ofNat (2 ^ m)).toNat : Int) := by
    rw [UInt8.toNat_ofNat']
    have : ((2 ^ m % 256 : Nat) : Int) = (2 : Int) ^ m % 256 := by simp
    rw [← this]
  rw [e, bx8]
/-- one bit more or less is another sum -/
theorem crc_flip {a b : List UInt8} {A : Nat} (hl : b.length = a.length) (hA : A ≤ 8 * a.length) (hb : big b = big a ^^^ 2 ^ A) : crc b ≠ crc a := by
  intro h
  unfold crc at h
  have h1 : reg b 4294967295 = reg a 4294967295 := by
    have := congrArg (· ^^^ 4294967295) h
    simpa [Nat.xor_assoc] using this
  rw [reg_big, reg_big, hl, hb, ← Nat.xor_assoc, Tn_xor] at h1
  have hz : Tn (8 * a.length) (2 ^ A) = 0 := by
    have e := congrArg (Tn (8 * a.length) (4294967295 ^^^ big a) ^^^ ·) h1
    simp only [← Nat.xor_assoc, Nat.xor_self, Nat.zero_xor] at e
    exact e
  obtain ⟨d, hd⟩ := Nat.exists_eq_add_of_le hA
  rw [hd, Tn_add, show 2 ^ A = 2 ^ A * 1 from (Nat.mul_one _).symm, Tn_pow] at hz
  have := Tn_zero d (by decide) hz
  omega
/-- a block of which a bit is turned -/
def flipB (s : ByteArray) (i j : Nat) (h : i < s.data.toList.length) : ByteArray := st (s.data.toList.set i (s.data.toList[i] ^^^ UInt8.ofNat (2 ^ j)))
theorem flipB_size (s : ByteArray) (i j : Nat) (h : i < s.data.toList.length) : (flipB s i j h).size = s.size := by unfold flipB; rw [st_size, List.length_set, len_list]
theorem flipB_big (s : ByteArray) (i j : Nat) (h : i < s.data.toList.length) (hj : j < 8) : big (flipB s i j h).data.toList = big s.data.toList ^^^ 2 ^ (8 * i + j) := by unfold flipB; rw [st_list]; exact big_flip _ i j h hj
theorem BIs.lt {g : Nat} {w : World} {l : List UInt8} (h : BIs g w l) : g < w.heap.size := by
  obtain ⟨cur, fz, h1, _⟩ := h
  exact lt_of_block h1
theorem flip_bad (c : Ck) (hr : rgt c = true) (i j : Nat) (h : i < c.dat.data.toList.length) (hj : j < 8) : rgt { c with dat := flipB c.dat i j h } = false := by
  have h1 := (rgt_num hr).2.2.2.2.2.2
  have hne : crc (flipB c.dat i j h).data.toList ≠ crc c.dat.data.toList := by
    refine crc_flip (A := 8 * i + j) ?_ ?_ (flipB_big _ _ _ _ hj)
    · rw [len_list, flipB_size, len_list]
    · omega
  rw [Bool.eq_false_iff]
  intro h2
  have h3 := (rgt_num h2).2.2.2.2.2.2
  simp only at h3
  rw [h1] at h3
  exact hne (by omega)
theorem splitL_range (l : List ByteArray) (j : Nat) (h : j ≤ (splitL l).length) : (splitL l).take j = (List.range j).map (chunkL l) := by
  unfold splitL at *
  rw [← List.map_take, List.take_range]
  simp at h
  rw [Nat.min_eq_left h]
theorem hasN_take (l : List ByteArray) (j : Nat) (h : j ≤ (splitL l).length) (q : Nat) (hq : j ≤ q) : hasN ((splitL l).take j) (q : Int) = false := by
  rw [splitL_range l j h]
  unfold hasN
  rw [List.any_eq_false]
  intro x hx
  obtain ⟨i, hi, rfl⟩ := List.mem_map.1 hx
  have := List.mem_range.1 hi
  show ¬ ((i : Int) == (q : Int)) = true
  simp
  omega
theorem of_take (l : List ByteArray) (j : Nat) (h : j ≤ (splitL l).length) : Of l ((splitL l).take j) := by
  rw [splitL_range l j h]
  intro c hc
  obtain ⟨i, hi, rfl⟩ := List.mem_map.1 hc
  have h1 := List.mem_range.1 hi
  rw [splitL_len] at h
  exact ⟨i, by omega, rfl⟩
end Go.Proofs.Ytogiiefaakejlaa
