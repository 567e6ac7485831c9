import Derived.Test.YtogiiefaakejlaaCs
import Derived.Test.YtogiiefaakejlaaSb
namespace Go.Proofs.Ytogiiefaakejlaa
open Go.RowKit Go.Maps

/-- what is gathered of a number -/
def datOf (L : List Ck) (n : Int) : ByteArray := (findE (L.map entC) n).getD ByteArray.empty
def joinTo (L : List Ck) (k : Nat) : List UInt8 := ((List.range k).map (fun i : Nat => (datOf L (i : Int)).data.toList)).flatten
def joinL (L : List Ck) : List UInt8 := joinTo L (cntN L)
theorem joinTo_succ (L : List Ck) (k : Nat) : joinTo L (k + 1) = joinTo L k ++ (datOf L (k : Int)).data.toList := by
  unfold joinTo
  rw [List.range_succ, List.map_append, List.flatten_append]
  simp
theorem datOf_mem {L : List Ck} {n : Int} (h : hasN L n = true) : ∃ c ∈ L, c.num = n ∧ datOf L n = c.dat := by
  have h1 := findE_any (L.map entC) n
  rw [any_ent, h] at h1
  obtain ⟨s, hs⟩ := Option.isSome_iff_exists.1 h1
  have h2 := findE_some hs
  obtain ⟨c, hc, e⟩ := List.mem_map.1 h2
  unfold entC at e
  cases e
  exact ⟨c, hc, rfl, by unfold datOf; rw [hs]; rfl⟩
theorem datOf_none {L : List Ck} {n : Int} (h : hasN L n = false) : datOf L n = ByteArray.empty := by
  have h1 := findE_any (L.map entC) n
  rw [any_ent, h] at h1
  unfold datOf
  cases hf : findE (L.map entC) n with
  | none => rfl
  | some a => rw [hf] at h1; cases h1
theorem datOf_size {L : List Ck} (h : LOk L) (n : Int) : (datOf L n).size ≤ 1024 := by
  cases hh : hasN L n with
  | false => rw [datOf_none hh]; decide
  | true =>
    obtain ⟨c, hc, _, e⟩ := datOf_mem hh
    have := rgt_num (h.rg c hc)
    rw [e]
    unfold siz at this
    omega
theorem joinTo_len {L : List Ck} (h : LOk L) : ∀ k, (joinTo L k).length ≤ 1024 * k
  | 0 => by simp [joinTo]
  | k + 1 => by
    rw [joinTo_succ, List.length_append]
    have h1 := joinTo_len h k
    have h2 := datOf_size h (k : Int)
    have h3 : (datOf L (k : Int)).data.toList.length = (datOf L (k : Int)).size := by rw [Array.length_toList]; rfl
    omega
theorem field72 (z : ByteArray) (w : World) : (Instr.field 72 (.agg #[.string z]) 0).run Try.prog w = .ok (.string z) w := by
  rfl
set_option maxRecDepth 100000 in
set_option maxHeartbeats 1000000 in
theorem joined_any {base g : Nat} {w : World} {L : List Ck} (h : CI base g w L) (hne : L ≠ []) : Calls Try.prog 34 #[.pointer (some ⟨g, 0, none⟩)] w fun e w' => e = .returned (.string (st (joinL L))) ∧ Below w.heap.size w w' := by
  obtain ⟨t1, t2, t3, t4, t5⟩ := h.ok.tot hne
  have HJ : Hid (joinL L = joinTo L (cntN L)) := rfl
  have HCN := hid (fun w => count_any (totOf L) (by omega) t2 w)
  rw [t3] at HCN
  obtain ⟨t, ht⟩ : ∃ t, t = totOf L := ⟨_, rfl⟩
  obtain ⟨C, hC⟩ : ∃ C, C = cntN L := ⟨_, rfl⟩
  have HT := hid ht
  rw [← ht] at HCN
  rw [← hC] at HJ HCN t4 t5
  obtain ⟨mv, c0, c1, c2, hmv⟩ := h.cells
  have hgl := h.lt
  have HOK := hid h.ok
  obtain ⟨m, rfl, hm⟩ : ∃ m, mv = .map (some m) ∧ MIs m w L.length (L.map entC) := by
    rcases hmv with ⟨e, _⟩ | ⟨_, m, e, _, hm⟩
    · exact absurd e hne
    · exact ⟨m, e, hm⟩
  have HM := hid hm
  rw [← ht] at c1
  have d1 : (w.alloc (.cells #[.pointer none, .slice none 0 0] 79)).cell? ⟨g, 1, none⟩ = some (.int .i64 t) := ((below_alloc w _).cell (p := ⟨g, 1, none⟩) hgl).trans c1
  have C2 := hid c2
  have hml := hm.lt
  clear ht hC t1 t2 t3 hmv h hm c0 c2 hne
  go_enter Try.func34, Try.ntmps34
  go_wp2_with (go_at_call 26; refine (HCN.out _).mono ?_; rintro e w1 ⟨rfl, hw⟩; have hw := hw.symm; subst hw)
  go_loopw [10] (fun i wr => ∃ k : Nat, k ≤ C ∧ i = .int .i64 k ∧ Hid (Lib.IsBuilder 79 5 w.heap.size w.heap.size (Lib.byteCells (joinTo L k)) wr) ∧ Hid (Below w.heap.size w wr)) (fun i _ => C - (intOf i).toNat)
  case atStart =>
    refine ⟨0, Nat.zero_le _, rfl, hid (.inl ⟨Nat.le_refl _, .slice none 0 0, ?_, ⟨rfl, .inl ⟨rfl, rfl⟩⟩, by intro e; cases e⟩), hid (below_alloc _ _)⟩
    exact box_at _ _
  case round =>
    obtain ⟨k, hk, rfl, HI, HB⟩ := hrel
    rename World => wr
    by_cases hkc : k < C
    · have hlk := (HM.out.same (HB.out.block m hml)).look (k : Int) ⟨by omega, by omega⟩
      have HSU := hid (joinTo_succ L k)
      have HSZ := hid (datOf_size HOK.out (k : Int))
      have HLN := hid (joinTo_len HOK.out k)
      have e2 : wr.cell? ⟨g, 2, none⟩ = some (.map (some m)) := (HB.out.cell (p := ⟨g, 2, none⟩) hgl).trans C2.out
      obtain ⟨z, hz⟩ : ∃ z, z = datOf L (k : Int) := ⟨_, rfl⟩
      unfold datOf at hz
      rw [← hz] at hlk
      replace hz : z = datOf L (k : Int) := hz
      rw [← hz] at HSU HSZ
      unfold blk at hlk
      clear hz
      have hfl := field72 z wr
      go_wp2_with (go_at_call 36; fail)
      refine (wrs_any w.heap.size w.heap.size (joinTo L k) z wr HI.out (by have := HLN.out; have := HSZ.out; omega) HB.out.size).mono ?_
      rintro e w3 ⟨rfl, hI3, b3⟩
      have HI3 : Hid (Lib.IsBuilder 79 5 w.heap.size w.heap.size (Lib.byteCells (joinTo L (k + 1))) w3) := hid (by rw [HSU.out]; exact hI3)
      have HB3 : Hid (Below w.heap.size w w3) := hid (HB.out.trans b3)
      clear hI3 b3 hlk
      go_wp2
      go_roundw
      case rel => exact ⟨k + 1, hkc, by go_num, HI3, HB3⟩
      case measure => simp [intOf]; omega
    · have hkn : k = C := by omega
      subst hkn
      go_wp2_with (go_at_call 37; fail)
      refine (string_call w.heap.size w.heap.size (joinTo L k) wr HI.out HB.out.size).mono ?_
      rintro e w3 ⟨rfl, b3⟩
      have HB3 : Hid (Below w.heap.size w w3) := hid (HB.out.trans b3)
      clear b3
      go_wp2
      go_ret
      exact ⟨by rw [HJ.out]; rfl, HB3.out⟩
end Go.Proofs.Ytogiiefaakejlaa
