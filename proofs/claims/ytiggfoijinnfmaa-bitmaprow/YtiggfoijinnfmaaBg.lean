import Derived.Test.YtiggfoijinnfmaaBf
namespace Go.Proofs.Ytiggfoijinnfmaa
open Go.RowKit

theorem Try.infoB5 : (Try.prog.info? 5).map (fun i => (i.zero, i.size, i.bytes)) = some (some (.int .u8 0), 1, 1) := by kernel_rfl
theorem made128 : madeCells (Value.int .u8 0).cells 128 = (bc (List.replicate 128 0)).toArray := by kernel_rfl
theorem mk128 (w : World) : (Instr.makeSlice 46 (.int .i64 128) (.int .i64 128)).run Try.prog w = .ok (.slice (some ⟨w.heap.size, 0, none⟩) 128 128) (w.alloc (.cells (bc (List.replicate 128 0)).toArray 5)) := by
  obtain ⟨i0, hi, hz0, hz1, hz2⟩ := info_parts Try.infoB5
  have := run_makeSlice (P := Try.prog) w 46 5 i0 (.int .u8 0) Try.underlying46 hi hz0 .i64 .i64 128 128 (by decide) (by decide) (by rw [hz1]; decide) (by rw [hz2]; decide) (by decide)
  rw [hz1] at this
  have e : (128 : Int).toNat * 1 = 128 := rfl
  rw [e, made128] at this
  exact this
/-- a block of zeros, and with its ninth bit taken -/
def Z0 : List UInt8 := List.replicate 128 0
def Z9 : List UInt8 := stB Z0 9 true
/-- a block of bytes, as cells -/
def CIs (g : Nat) (w : World) (l : List UInt8) : Prop := w.heap[g]? = some (.cells (bc l).toArray 5 (0, 0))
theorem CIs.get {g : Nat} {w : World} {l : List UInt8} (h : CIs g w l) (j : Nat) (hj : j < l.length) : w.cell? ⟨g, j, none⟩ = some (.int .u8 ((l[j]).toNat : Int)) := by
  unfold CIs at h
  simp [World.cell?, h, bc, hj]
theorem CIs.conv {g : Nat} {w : World} {l : List UInt8} (h : CIs g w l) (n cap : Nat) (hn : n = l.length) : (convert 46 9 (.slice (some ⟨g, 0, none⟩) n cap)).run Try.prog w = .ok (.string (st l)) w := by
  subst hn
  rw [← strOf_bytes]
  refine run_convert_bytes_arg w 46 5 Try.underlying46 Try.underlying5 g 0 l.length cap _ (by simp) (fun i hi => ?_) 9 Try.underlying9
  have hi' : i < l.length := by simpa using hi
  rw [Nat.zero_add, h.get i hi']
  simp [List.getElem?_eq_getElem hi']
theorem CIs.made (w : World) (l : List UInt8) : CIs w.heap.size (w.alloc (.cells (bc l).toArray 5)) l := by
  show (w.heap.push _)[w.heap.size]? = _
  simp
theorem conv_new (w : World) : (convert 46 9 (.slice (some ⟨w.heap.size, 0, none⟩) 128 128)).run Try.prog (w.alloc (.cells (bc (List.replicate 128 0)).toArray 5)) = .ok (.string (st Z0)) (w.alloc (.cells (bc (List.replicate 128 0)).toArray 5)) :=
  (CIs.made w Z0).conv 128 128 (by rfl)
theorem z0_tk (i : Nat) : tk Z0 i = false := by
  unfold tk Z0
  rw [List.getD_eq_getElem?_getD, List.getElem?_replicate]
  split <;> simp
theorem z9_tk (i : Nat) : tk Z9 i = decide (9 = i) := by
  unfold Z9
  rw [stB_tk Z0 9 i true (by decide +kernel), z0_tk]
  by_cases h : 9 = i <;> simp [h]
theorem z9_size : (st Z9).size = 128 := by rw [st_size]; unfold Z9; rw [stB_len]; rfl
theorem z9_least : RunP (st Z9) 9 20 1 10 0 := by
  unfold RunP
  rw [if_pos (by unfold rngE; rw [if_pos z9_size]; decide), if_neg (by decide)]
  refine ⟨some 10, ⟨by decide, by decide, fun k h1 h2 => ?_, fun s h1 h2 hf => ?_⟩, rfl, rfl⟩
  · rw [st_list, z9_tk]; simp; omega
  · have := hf 9 (by omega) (by omega)
    rw [st_list, z9_tk] at this
    simp at this
theorem z9_run : RunP (st Z9) 8 20 2 10 0 := by
  unfold RunP
  rw [if_pos (by unfold rngE; rw [if_pos z9_size]; decide), if_neg (by decide)]
  refine ⟨some 10, ⟨by decide, by decide, fun k h1 h2 => ?_, fun s h1 h2 hf => ?_⟩, rfl, rfl⟩
  · rw [st_list, z9_tk]; simp; omega
  · have := hf 9 (by omega) (by omega)
    rw [st_list, z9_tk] at this
    simp at this
theorem z9_count : cntV (st Z9) 0 1024 = 1 := by
  have h : rngE (st Z9) 0 1024 = 0 := by unfold rngE; rw [if_pos z9_size]; decide
  unfold cntV
  rw [if_pos h, st_list]
  have := cnt_set Z0 9 true (by decide +kernel) 0 1024
  have z : cnt Z0 0 1024 = 0 := (cnt_zero Z0 0 1024).2 fun i _ _ => z0_tk i
  rw [z, z0_tk] at this
  show ((cnt (stB Z0 9 true) 0 1024 : Nat) : Int) = 1
  generalize cnt (stB Z0 9 true) 0 1024 = c at this ⊢
  simp at this
  omega
theorem z9_has : hasV (st Z9) 9 = true ∧ bitE (st Z9) 9 = 0 := by
  have h : bitE (st Z9) 9 = 0 := by unfold bitE; rw [if_pos z9_size]; decide
  refine ⟨?_, h⟩
  unfold hasV
  rw [if_pos h, st_list, show (9 : Int).toNat = 9 from rfl, z9_tk]
  rfl
theorem z9_one (h : 1 < (st Z9).size) : ((st Z9)[1]'h).toNat = 2 := by
  have : Z9[1]? = some 2 := by decide +kernel
  have e : (st Z9)[1]'h = Z9[1]'(by rw [st_size] at h; exact h) := rfl
  rw [e]
  rw [List.getElem?_eq_getElem (by rw [st_size] at h; exact h)] at this
  rw [Option.some.inj this]
  rfl
set_option maxRecDepth 100000 in
set_option maxHeartbeats 1000000 in
theorem speaks_go (z : ByteArray) (hz : z.size = 128) (h0 : ∀ h : 1 < z.size, (z[1]'h).toNat = 2)
    (HS : ∀ w, Calls Try.prog 10 #[.string (st Z0), .int .i64 9, .bool true] w fun e w' => e = .returned (.tuple #[.string z, .int .i64 0]) ∧ Below w.heap.size w w')
    (HL : ∀ w, Calls Try.prog 13 #[.string z, .int .i64 9, .int .i64 20] w fun e w' => e = .returned (.tuple #[.int .i64 10, .int .i64 0]) ∧ ∃ k, w' = w.drewN k)
    (HR : ∀ w, Calls Try.prog 15 #[.string z, .int .i64 8, .int .i64 20, .int .i64 2] w fun e w' => e = .returned (.tuple #[.int .i64 10, .int .i64 0]) ∧ ∃ k, w' = w.drewN k)
    (HC : ∀ w, Calls Try.prog 16 #[.string z, .int .i64 0, .int .i64 1024] w fun e w' => e = .returned (.tuple #[.int .i64 1, .int .i64 0]) ∧ ∃ k, w' = w.drewN k)
    (HH : ∀ w, Calls Try.prog 8 #[.string z, .int .i64 9] w fun e w' => e = .returned (.tuple #[.bool true, .int .i64 0]) ∧ ∃ k, w' = w.drewN k)
    (w : World) : Calls Try.prog 12 #[] w fun e w' => e = .returned (.bool true) ∧ Below w.heap.size w w' := by
  have hmk := mk128 w
  have hcv := conv_new w
  have hB := below_alloc w (.cells (bc (List.replicate 128 0)).toArray 5)
  obtain ⟨wm, hwm⟩ : ∃ wm, wm = w.alloc (.cells (bc (List.replicate 128 0)).toArray 5) := ⟨_, rfl⟩
  rw [← hwm] at hmk hcv hB
  have h1 : 1 < z.size := by omega
  have h2 := h0 h1
  clear hwm h0
  obtain ⟨u, hu⟩ : ∃ u, u = st Z0 := ⟨_, rfl⟩
  rw [← hu] at hcv HS
  clear hu
  replace HS := hid HS
  replace HL := hid HL
  replace HR := hid HR
  replace HC := hid HC
  replace HH := hid HH
  go_enter Try.func12, Try.ntmps12
  go_wp2_with (first
    | (go_at_call 10; refine (HS.out _).mono ?_; rintro e w1 ⟨rfl, hb1⟩)
    | (go_at_call 13; refine (HL.out _).mono ?_; rintro e w2 ⟨rfl, k2, rfl⟩)
    | (go_at_call 15; refine (HR.out _).mono ?_; rintro e w3 ⟨rfl, k3, rfl⟩)
    | (go_at_call 16; refine (HC.out _).mono ?_; rintro e w4 ⟨rfl, k4, rfl⟩)
    | (go_at_call 8; refine (HH.out _).mono ?_; rintro e w5 ⟨rfl, k5, rfl⟩))
  go_ret
  exact ⟨rfl, (hB.next hb1).dN _⟩
theorem least_is (b : ByteArray) (x y v f : Int) (h : RunP b x y 1 v f) (w : World) : Calls Try.prog 13 #[.string b, .int .i64 x, .int .i64 y] w fun e w' => e = .returned (.tuple #[.int .i64 v, .int .i64 f]) ∧ ∃ k, w' = w.drewN k :=
  (least_any b x y w).mono fun _ _ ⟨_, _, hp, he, hk⟩ => ⟨by rw [he, (hp.one h).1, (hp.one h).2], hk⟩
theorem run_is (b : ByteArray) (x y m v f : Int) (hm : m ≤ 9223372036854775807) (h : RunP b x y m v f) (w : World) : Calls Try.prog 15 #[.string b, .int .i64 x, .int .i64 y, .int .i64 m] w fun e w' => e = .returned (.tuple #[.int .i64 v, .int .i64 f]) ∧ ∃ k, w' = w.drewN k :=
  (run_any b x y m hm w).mono fun _ _ ⟨_, _, hp, he, hk⟩ => ⟨by rw [he, (hp.one h).1, (hp.one h).2], hk⟩
set_option maxRecDepth 100000 in
theorem speaks_any (w : World) : Calls Try.prog 12 #[] w fun e w' => e = .returned (.bool true) ∧ Below w.heap.size w w' := by
  have HS := set_ok (st Z0) 9 true (by rw [st_size]; rfl) (by decide)
  have e9 : st (stB (st Z0).data.toList 9 true) = st Z9 := by rw [st_list]; rfl
  rw [e9] at HS
  have HC := count_any (st Z9) 0 1024
  rw [z9_count, show rngE (st Z9) 0 1024 = 0 by unfold rngE; rw [if_pos z9_size]; decide] at HC
  have HH := has_any (st Z9) 9
  rw [z9_has.1, z9_has.2] at HH
  have HL := least_is (st Z9) 9 20 10 0 z9_least
  have HR := run_is (st Z9) 8 20 2 10 0 (by decide) z9_run
  have h1 := z9_one
  have h2 := z9_size
  generalize st Z9 = z at HS HL HR HC HH h1 h2
  exact speaks_go z h2 h1 HS HL HR HC HH w
end Go.Proofs.Ytiggfoijinnfmaa
