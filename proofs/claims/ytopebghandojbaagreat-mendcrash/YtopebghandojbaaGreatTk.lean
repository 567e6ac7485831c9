import Derived.Test.YtopebghandojbaaGreatTb
namespace Go.Proofs.YtopebghandojbaaGreat
open Go.RowKit Go.Maps

/-- a block of bytes, as cells -/
def CIs (g : Nat) (w : World) (l : List UInt8) : Prop := w.heap[g]? = some (.cells (bc l).toArray 5 (0, 0))
theorem CIs.get {g : Nat} {w : World} {l : List UInt8} (h : CIs g w l) (j : Nat) (hj : j < l.length) : w.cell? ⟨g, j, none⟩ = some (.int .u8 ((l[j]).toNat : Int)) := by
  unfold CIs at h
  simp [World.cell?, h, bc, hj]
theorem CIs.free {g : Nat} {w : World} {l : List UInt8} (h : CIs g w l) (j : Nat) : w.frozen? ⟨g, j, none⟩ = false := by
  unfold CIs at h
  simp [World.frozen?, h]
theorem CIs.set {g : Nat} {w : World} {l : List UInt8} (h : CIs g w l) (j : Nat) (b : UInt8) (x : Int) (hx : x = (b.toNat : Int)) : CIs g (w.setCell ⟨g, j, none⟩ (.int .u8 x)) (l.set j b) := by
  unfold CIs at *
  have hlt := lt_of_block h
  have h' : w.heap[g] = .cells (bc l).toArray 5 (0, 0) := by simpa [Array.getElem?_eq_getElem hlt] using h
  subst hx
  show (w.heap.modify g _)[g]? = _
  rw [Array.getElem?_eq_getElem (by simpa using hlt), Array.getElem_modify_self, h']
  simp [bc, List.map_set]
theorem CIs.conv {g : Nat} {w : World} {l : List UInt8} (h : CIs g w l) (cap : Nat) : (convert 164 9 (.slice (some ⟨g, 0, none⟩) l.length cap)).run Tryz.prog w = .ok (.string (st l)) w := by
  rw [← strOf_bytes]
  refine run_convert_bytes_arg w 164 5 Tryz.underlying164 Tryz.underlying5 g 0 l.length cap _ (by simp) (fun i hi => ?_) 9 Tryz.underlying9
  have hi' : i < l.length := by simpa using hi
  rw [Nat.zero_add, h.get i hi']
  simp [List.getElem?_eq_getElem hi']
theorem made128 : madeCells (Value.int .u8 0).cells 128 = (bc (List.replicate 128 0)).toArray := by kernel_rfl
theorem mk128 (w : World) : (Instr.makeSlice 164 (.int .i64 128) (.int .i64 128)).run Tryz.prog w = .ok (.slice (some ⟨w.heap.size, 0, none⟩) 128 128) (w.alloc (.cells (bc (List.replicate 128 0)).toArray 5)) := by
  obtain ⟨i0, hi, hz0, hz1, hz2⟩ := info_parts Tryz.info5
  have := run_makeSlice (P := Tryz.prog) w 164 5 i0 (.int .u8 0) Tryz.underlying164 hi hz0 .i64 .i64 128 128 (by decide) (by decide) (by rw [hz1]; decide) (by rw [hz2]; decide) (by decide)
  rw [hz1] at this
  have e : (128 : Int).toNat * 1 = 128 := rfl
  rw [e, made128] at this
  exact this
theorem CIs.made (w : World) (l : List UInt8) : CIs w.heap.size (w.alloc (.cells (bc l).toArray 5)) l := by
  show (w.heap.push _)[w.heap.size]? = _
  simp
/-- a block of one byte -/
def B (c : UInt8) : ByteArray := st (List.replicate 128 c)
theorem rep_set (c : UInt8) (j : Nat) (h : j < 128) : (List.replicate j c ++ List.replicate (128 - j) 0).set j c = List.replicate (j + 1) c ++ List.replicate (128 - (j + 1)) 0 := by
  rw [List.set_append_right _ _ (by simp)]
  simp only [List.length_replicate, Nat.sub_self]
  rw [show 128 - j = (128 - (j + 1)) + 1 by omega, List.replicate_succ, List.set_cons_zero, List.replicate_succ', List.append_assoc]
  rfl
set_option maxRecDepth 100000 in
set_option maxHeartbeats 1000000 in
theorem blockC_any (c : UInt8) (w : World) : Calls Tryz.prog 49 #[.int .u8 (c.toNat : Int)] w fun e w' => e = .returned (.string (B c)) ∧ Below w.heap.size w w' := by
  have hmk := mk128 w
  obtain ⟨wm, hwm⟩ : ∃ wm, wm = w.alloc (.cells (bc (List.replicate 128 0)).toArray 5) := ⟨_, rfl⟩
  have hC : CIs w.heap.size wm (List.replicate 128 0) := by rw [hwm]; exact CIs.made w _
  have hB : Below w.heap.size w wm := by rw [hwm]; exact below_alloc w _
  rw [← hwm] at hmk
  clear hwm
  go_enter Tryz.func49, Tryz.ntmps49
  go_wp2
  go_loopw [8] (fun i wr => ∃ j : Nat, i = .int .i64 j ∧ j ≤ 128 ∧ CIs w.heap.size wr (List.replicate j c ++ List.replicate (128 - j) 0) ∧ Below w.heap.size w wr) (fun i _ => 128 - (intOf i).toNat)
  case atStart => exact ⟨0, rfl, by decide, hC, hB⟩
  case round =>
    obtain ⟨j, rfl, hj, hC2, hB2⟩ := hrel
    have HC := hid hC2
    have HB := hid hB2
    clear hC2 hB2 hC hB hmk
    by_cases hlt : j < 128
    · have hlen : (List.replicate j c ++ List.replicate (128 - j) 0).length = 128 := by simp; omega
      have hcell := HC.out.get j (by rw [hlen]; exact hlt)
      have hfree := HC.out.free j
      have HC2 := hid (HC.out.set j c _ rfl)
      rw [rep_set c j hlt] at HC2
      obtain ⟨x, hx⟩ : ∃ x, x = ((List.replicate j c ++ List.replicate (128 - j) 0)[j]'(by rw [hlen]; exact hlt)) := ⟨_, rfl⟩
      rw [← hx] at hcell
      clear hx hlen
      go_wp2
      go_roundw
      case rel => exact ⟨j + 1, by go_num, by omega, HC2.out, HB.out.setCell (Nat.le_refl _) _⟩
      case measure => simp [intOf]; omega
    · have hj2 : j = 128 := by omega
      subst hj2
      have hcv := HC.out.conv 128
      have hl2 : (List.replicate 128 c ++ List.replicate (128 - 128) (0 : UInt8)).length = 128 := by simp
      rw [hl2] at hcv
      clear hl2
      have e : st (List.replicate 128 c ++ List.replicate (128 - 128) 0) = B c := by unfold B; simp
      rw [e] at hcv
      obtain ⟨Bc, hBc⟩ : ∃ b, b = B c := ⟨_, rfl⟩
      rw [← hBc] at hcv
      have HBc := hid hBc
      clear hBc e
      go_wp2
      go_ret
      exact ⟨by rw [← HBc.out]; rfl, HB.out⟩

theorem B_size (c : UInt8) : (B c).size = 128 := by unfold B; rw [st_size]; simp
/-- a block of one letter, by its number -/
def Bi (n : Int) : ByteArray := B (UInt8.ofNat n.toNat)
theorem Bi_size (n : Int) : (Bi n).size = 128 := B_size _
theorem block_bi (n : Int) (h0 : 0 ≤ n) (h1 : n < 256) (w : World) : Calls Tryz.prog 49 #[.int .u8 n] w fun e w' => e = .returned (.string (Bi n)) ∧ Below w.heap.size w w' := by
  have := blockC_any (UInt8.ofNat n.toNat) w
  rw [show (((UInt8.ofNat n.toNat).toNat : Nat) : Int) = n by rw [UInt8.toNat_ofNat']; omega] at this
  exact this
end Go.Proofs.YtopebghandojbaaGreat
