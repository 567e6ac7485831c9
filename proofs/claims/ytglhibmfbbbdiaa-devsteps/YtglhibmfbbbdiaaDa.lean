import Derived.Test.YtglhibmfbbbdiaaRd
namespace Go.Proofs.Ytglhibmfbbbdiaa
open Go.RowKit Go.Maps

theorem B_size (c : UInt8) : (B c).size = 128 := by unfold B; rw [st_size]; simp
theorem block_int (n : Int) (h0 : 0 ≤ n) (h1 : n < 256) (w : World) : Calls Try.prog 21 #[.int .u8 n] w fun e w' => e = .returned (.string (B (UInt8.ofNat n.toNat))) ∧ Below w.heap.size w w' := by
  have := block_any (UInt8.ofNat n.toNat) w
  rw [show (((UInt8.ofNat n.toNat).toNat : Nat) : Int) = n by rw [UInt8.toNat_ofNat']; omega] at this
  exact this
theorem block_ex (n : Int) (h0 : 0 ≤ n) (h1 : n < 256) (w : World) : Calls Try.prog 21 #[.int .u8 n] w fun e w' => ∃ x, e = .returned (.string x) ∧ Hid (x = B (UInt8.ofNat n.toNat)) ∧ x.size = 128 ∧ Below w.heap.size w w' :=
  (block_int n h0 h1 w).mono fun _ _ k => ⟨_, k.1, rfl, B_size _, k.2⟩
theorem byte_add (c : UInt8) (j : Nat) (hj : j < 9) : UInt8.ofNat (((c.toNat : Int) + (j : Int)) % 256).toNat = c + UInt8.ofNat j := by
  apply UInt8.toNat_inj.1
  rw [UInt8.toNat_add, UInt8.toNat_ofNat', UInt8.toNat_ofNat']
  omega
/-- so many blocks, each of the byte behind the one ahead -/
def dat (c : UInt8) : Nat → ByteArray
  | 0 => ByteArray.empty
  | j + 1 => dat c j ++ B (c + UInt8.ofNat j)
theorem dat_size (c : UInt8) : ∀ j, (dat c j).size = 128 * j
  | 0 => rfl
  | j + 1 => by rw [dat, ByteArray.size_append, dat_size c j, B_size]; omega
def manyV (M : Int) : Nat := if M < 0 then 0 else min M.toNat 9
def oddV (O : Int) : Nat := if 0 < O ∧ O < 128 then O.toNat else 0
/-- what a step writes -/
def dataS (M O : Int) (c : UInt8) : ByteArray := dat c (manyV M) ++ st (List.replicate (oddV O) 0)
theorem dataS_size (M O : Int) (c : UInt8) : (dataS M O c).size = 128 * manyV M + oddV O := by
  unfold dataS; rw [ByteArray.size_append, dat_size, st_size, List.length_replicate]
theorem oddV_lt (O : Int) : oddV O < 128 := by unfold oddV; split <;> omega
theorem manyV_le (M : Int) : manyV M ≤ 9 := by unfold manyV; split <;> omega
theorem made_any (n : Nat) (hn : n < 128) : madeCells (Value.int .u8 0).cells n = (bc (List.replicate n 0)).toArray := by
  have : ∀ n : Fin 128, madeCells (Value.int .u8 0).cells n.val = (bc (List.replicate n.val 0)).toArray := by
    intro n
    unfold madeCells bc
    apply Array.ext'
    simp [Value.cells, List.map_const', Nat.mod_one]
  exact this ⟨n, hn⟩
theorem mk_any (n : Nat) (hn : n < 128) (w : World) : (Instr.makeSlice 60 (.int .i64 (n : Int)) (.int .i64 (n : Int))).run Try.prog w = .ok (.slice (some ⟨w.heap.size, 0, none⟩) n n) (w.alloc (.cells (bc (List.replicate n 0)).toArray 5)) := by
  obtain ⟨i0, hi, hz0, hz1, hz2⟩ := info_parts Try.info5
  have := run_makeSlice (P := Try.prog) w 60 5 i0 (.int .u8 0) Try.underlying60 hi hz0 .i64 .i64 n n (by omega) (by omega) (by rw [hz1]; omega) (by rw [hz2]; omega) (by omega)
  rw [hz1] at this
  rw [Int.toNat_natCast, Nat.mul_one, made_any n hn] at this
  exact this
theorem seven_cells {w : World} {g : Nat} {a b c d e f h : Value} {t : TypeId} (hh : w.heap[g]? = some (.cells #[a, b, c, d, e, f, h] t (0, 0))) :
    w.cell? ⟨g, 0, none⟩ = some a ∧ w.cell? ⟨g, 1, none⟩ = some b ∧ w.cell? ⟨g, 2, none⟩ = some c ∧ w.cell? ⟨g, 3, none⟩ = some d ∧ w.cell? ⟨g, 4, none⟩ = some e ∧ w.cell? ⟨g, 5, none⟩ = some f ∧ w.cell? ⟨g, 6, none⟩ = some h := by
  simp [World.cell?, hh]
set_option maxRecDepth 100000 in
set_option maxHeartbeats 2000000 in
theorem data_any (K A M O T : Int) (c : UInt8) (pv : Value) (hO : -9223372036854775808 ≤ O ∧ O ≤ 9223372036854775807) (w : World) :
    Calls Try.prog 12 #[.agg #[.int .i64 K, .int .i64 A, .int .i64 M, .int .i64 O, .int .i64 T, .int .u8 (c.toNat : Int), pv]] w fun e w' => e = .returned (.string (dataS M O c)) ∧ Below w.heap.size w w' := by
  have hc := c.toNat_lt
  go_enter Try.func12, Try.ntmps12
  go_wp2
  go_loopw [3, 4] (fun x i wr => ∃ j : Nat, i = .int .i64 j ∧ x = .string (dat c j) ∧ j ≤ manyV M ∧ wr.heap[w.heap.size]? = some (.cells #[.int .i64 K, .int .i64 A, .int .i64 M, .int .i64 O, .int .i64 T, .int .u8 (c.toNat : Int), pv] 33 (0, 0)) ∧ Below w.heap.size w wr) (fun _ i _ => 9 - (intOf i).toNat)
  case atStart =>
    refine ⟨0, rfl, rfl, Nat.zero_le _, ?_, below_alloc w _⟩
    show (w.heap.push _)[w.heap.size]? = _
    simp
  case round =>
    obtain ⟨j, rfl, rfl, hj, hcl, hB⟩ := hrel
    have hm9 := manyV_le M
    obtain ⟨c0, c1, c2, c3, c4, c5, c6⟩ := seven_cells hcl
    have HCL := hid hcl
    have HB := hid hB
    clear hcl hB c0 c1 c4 c6
    obtain ⟨u, hu⟩ : ∃ u, u = dat c j := ⟨_, rfl⟩
    have hus : u.size ≤ 1280 := by rw [hu, dat_size]; omega
    rw [← hu]
    have HU := hid hu
    clear hu
    by_cases hlt : j < manyV M
    · have h1 : (j : Int) < M := by unfold manyV at hlt; split at hlt <;> omega
      have h9 : j < 9 := by omega
      go_wp2_with (first | (go_at_call 21; refine (block_ex _ (by omega) (by omega) _).mono ?_; rintro e w1 ⟨x, rfl, HX, hxs, hb1⟩))
      have hcl1 := (hb1.block w.heap.size (lt_of_block HCL.out)).trans HCL.out
      have hB1 := HB.out.trans (hb1.mono HB.out.size)
      go_roundw
      case rel =>
        refine ⟨j + 1, by go_num, ?_, by omega, hcl1, hB1⟩
        rw [dat, HX.out, ← HU.out]
        have := byte_add c j h9
        first
          | rw [this]
          | (rw [← this]; congr 3; omega)
      case measure => simp [intOf]; omega
    · have h1 : ¬ ((j : Int) < M ∧ j < 9) := by unfold manyV at hlt hj; split at hlt <;> omega
      have hjm : j = manyV M := by omega
      have HUM : Hid (u = dat c (manyV M)) := by rw [← hjm]; exact HU
      by_cases hO1 : 0 < O ∧ O < 128
      · obtain ⟨n, hn⟩ : ∃ n : Nat, O = (n : Int) := ⟨O.toNat, by omega⟩
        subst hn
        have hn1 : 0 < n := by omega
        have hn2 : n < 128 := by omega
        have hmk := mk_any n hn2 wr
        have hcv := (CIs.made wr (List.replicate n 0)).conv n
        rw [List.length_replicate] at hcv
        obtain ⟨z, hz⟩ : ∃ z, z = st (List.replicate n 0) := ⟨_, rfl⟩
        have hzs : z.size ≤ 128 := by rw [hz, st_size, List.length_replicate]; omega
        rw [← hz] at hcv
        obtain ⟨cs, hcs⟩ : ∃ cs, cs = (bc (List.replicate n 0)).toArray := ⟨_, rfl⟩
        rw [← hcs] at hmk hcv
        have HE : Hid (dataS M n c = u ++ z) := by
          show _ = _
          unfold dataS oddV
          rw [if_pos ⟨by omega, by omega⟩, Int.toNat_natCast, HUM.out, hz]
        clear hcs hz hO hO1
        by_cases h2 : (j : Int) < M
        · have h3 : ¬ j < 9 := fun k => h1 ⟨h2, k⟩
          clear h1
          go_wp2
          go_ret
          exact ⟨by rw [HE.out]; rfl, HB.out.alloc HB.out.size _⟩
        · clear h1
          go_wp2
          go_ret
          exact ⟨by rw [HE.out]; rfl, HB.out.alloc HB.out.size _⟩
      · have HE : Hid (dataS M O c = u) := by
          show _ = _
          unfold dataS oddV
          rw [if_neg hO1, HUM.out]
          apply ByteArray.ext
          simp [st]
        by_cases h2 : (j : Int) < M
        · have h3 : ¬ j < 9 := fun k => h1 ⟨h2, k⟩
          clear h1
          by_cases h4 : 0 < O
          · have h5 : ¬ O < 128 := fun k => hO1 ⟨h4, k⟩
            have h6 : decide (O < 128) = false := decide_eq_false h5
            clear hO1
            go_wp2
            go_ret
            exact ⟨by rw [HE.out]; rfl, HB.out⟩
          · clear hO1
            go_wp2
            go_ret
            exact ⟨by rw [HE.out]; rfl, HB.out⟩
        · clear h1
          by_cases h4 : 0 < O
          · have h5 : ¬ O < 128 := fun k => hO1 ⟨h4, k⟩
            have h6 : decide (O < 128) = false := decide_eq_false h5
            clear hO1
            go_wp2
            go_ret
            exact ⟨by rw [HE.out]; rfl, HB.out⟩
          · clear hO1
            go_wp2
            go_ret
            exact ⟨by rw [HE.out]; rfl, HB.out⟩
end Go.Proofs.Ytglhibmfbbbdiaa
