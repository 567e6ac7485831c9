import Derived.Test.YtogiiefaakejlaaBu
namespace Go.Proofs.Ytogiiefaakejlaa
open Go.RowKit Go.Maps

/-- bytes as cells -/
def bc (bs : List UInt8) : List Value := bs.map fun b => Value.int .u8 (b.toNat : Int)
theorem bc_len (a : List UInt8) : (bc a).length = a.length := by simp [bc]
theorem strOf_bytes (bs : List UInt8) : strOfNums (bs.map fun b => (b.toNat : Int)) = st bs := by
  unfold strOfNums st; congr 1; simp [Function.comp_def]
/-- a block of bytes, as cells -/
def CIs (g : Nat) (w : World) (l : List UInt8) : Prop := w.heap[g]? = some (.cells (bc l).toArray 5 (0, 0))
theorem CIs.get {g : Nat} {w : World} {l : List UInt8} (h : CIs g w l) (j : Nat) (hj : j < l.length) : w.cell? ⟨g, j, none⟩ = some (.int .u8 ((l[j]).toNat : Int)) := by
  unfold CIs at h
  simp [World.cell?, h, bc, hj]
theorem CIs.free {g : Nat} {w : World} {l : List UInt8} (h : CIs g w l) (j : Nat) : w.frozen? ⟨g, j, none⟩ = false := by
  unfold CIs at h
  simp [World.frozen?, h]
theorem CIs.set {g : Nat} {w : World} {l : List UInt8} (h : CIs g w l) (j : Nat) (b : UInt8) (x : Int) (hx : x = (b.toNat : Int)) : CIs g (w.setCell ⟨g, j, none⟩ (.int .u8 x)) (l.set j b) := by
  unfold CIs at *
  have hlt := lt_of_block h
  have h' : w.heap[g] = .cells (bc l).toArray 5 (0, 0) := by simpa [Array.getElem?_eq_getElem hlt] using h
  subst hx
  show (w.heap.modify g _)[g]? = _
  rw [Array.getElem?_eq_getElem (by simpa using hlt), Array.getElem_modify_self, h']
  simp [bc, List.map_set]
theorem CIs.conv {g : Nat} {w : World} {l : List UInt8} (h : CIs g w l) (cap : Nat) : (convert 59 9 (.slice (some ⟨g, 0, none⟩) l.length cap)).run Try.prog w = .ok (.string (st l)) w := by
  rw [← strOf_bytes]
  refine run_convert_bytes_arg w 59 5 Try.underlying59 Try.underlying5 g 0 l.length cap _ (by simp) (fun i hi => ?_) 9 Try.underlying9
  have hi' : i < l.length := by simpa using hi
  rw [Nat.zero_add, h.get i hi']
  simp [List.getElem?_eq_getElem hi']
theorem made128 : madeCells (Value.int .u8 0).cells 128 = (bc (List.replicate 128 0)).toArray := by kernel_rfl
theorem mk128 (w : World) : (Instr.makeSlice 59 (.int .i64 128) (.int .i64 128)).run Try.prog w = .ok (.slice (some ⟨w.heap.size, 0, none⟩) 128 128) (w.alloc (.cells (bc (List.replicate 128 0)).toArray 5)) := by
  obtain ⟨i0, hi, hz0, hz1, hz2⟩ := info_parts Try.info5
  have := run_makeSlice (P := Try.prog) w 59 5 i0 (.int .u8 0) Try.underlying59 hi hz0 .i64 .i64 128 128 (by decide) (by decide) (by rw [hz1]; decide) (by rw [hz2]; decide) (by decide)
  rw [hz1] at this
  have e : (128 : Int).toNat * 1 = 128 := rfl
  rw [e, made128] at this
  exact this
theorem CIs.made (w : World) (l : List UInt8) : CIs w.heap.size (w.alloc (.cells (bc l).toArray 5)) l := by
  show (w.heap.push _)[w.heap.size]? = _
  simp
end Go.Proofs.Ytogiiefaakejlaa
