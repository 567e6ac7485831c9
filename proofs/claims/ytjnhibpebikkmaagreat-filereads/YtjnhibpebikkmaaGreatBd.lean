import Derived.Test.YtjnhibpebikkmaaGreatBc
namespace Go.Proofs.YtjnhibpebikkmaaGreat
open Go.RowKit

/-- what Set answers -/
def setV (b : ByteArray) (i : Int) (t : Bool) : ByteArray := if bitE b i = 0 then st (stB b.data.toList i.toNat t) else ByteArray.empty
set_option maxRecDepth 100000 in
theorem set_no (b : ByteArray) (i : Int) (t : Bool) (h : bitE b i ≠ 0) (w : World) : Calls Tryz.prog 111 #[.string b, .int .i64 i, .bool t] w fun e w' => e = .returned (.tuple #[.string ByteArray.empty, .int .i64 (bitE b i)]) ∧ Below w.heap.size w w' := by
  have HE := hid (bit_any b i)
  obtain ⟨n, hn⟩ : ∃ n, n = bitE b i := ⟨_, rfl⟩
  rw [← hn] at HE h ⊢
  clear hn
  go_enter Tryz.func111, Tryz.ntmps111
  go_wp2_with (first | (go_at_call 128; refine (HE.out _).mono ?_; rintro e w1 ⟨rfl, rfl⟩))
  go_ret2
  exact ⟨rfl, Below.refl _ _⟩
set_option maxRecDepth 100000 in
theorem bit_ok {b : ByteArray} {i : Int} (h : bitE b i = 0) : b.size = 128 ∧ ∃ n : Nat, i = (n : Int) ∧ n < 1024 := by
  rcases bit_cases b i with ⟨_, e, _⟩ | ⟨h2, ⟨_, e, _⟩ | ⟨_, _, e, _⟩ | ⟨n, rfl, hn, _, _⟩⟩
  · omega
  · omega
  · omega
  · exact ⟨h2, n, rfl, hn⟩
set_option maxRecDepth 100000 in
theorem set_any (b : ByteArray) (i : Int) (t : Bool) (w : World) : Calls Tryz.prog 111 #[.string b, .int .i64 i, .bool t] w fun e w' => e = .returned (.tuple #[.string (setV b i t), .int .i64 (bitE b i)]) ∧ Below w.heap.size w w' := by
  by_cases h : bitE b i = 0
  · obtain ⟨hb, n, rfl, hn⟩ := bit_ok h
    unfold setV
    rw [if_pos h, h]
    exact set_ok b n t hb hn w
  · unfold setV
    rw [if_neg h]
    exact set_no b i t h w
set_option maxRecDepth 100000 in
theorem BIs.addd {g : Nat} {w : World} {l : List UInt8} (h : BIs g w l) (i : Nat) (x : UInt8) (hx : l.getD (i / 8) 0 = x) (ht : tk l i = false) (y : Int) (hy : y = (x.toNat : Int) + 2 ^ (i % 8)) : BIs g (w.setCell ⟨g, i / 8, none⟩ (.int .u8 y)) (stB l i true) := by
  subst hx
  refine h.set _ _ _ ?_
  rw [hy]
  have := sb_add (l.getD (i / 8) 0) ⟨i % 8, Nat.mod_lt _ (by decide)⟩ ht
  rw [show sb (l.getD (i / 8) 0) (i % 8) true = sb (l.getD (i / 8) 0) (⟨i % 8, Nat.mod_lt _ (by decide)⟩ : Fin 8).val true from rfl, ← this]
  simp
set_option maxRecDepth 100000 in
theorem BIs.subb {g : Nat} {w : World} {l : List UInt8} (h : BIs g w l) (i : Nat) (x : UInt8) (hx : l.getD (i / 8) 0 = x) (ht : tk l i = true) (y : Int) (hy : y = (x.toNat : Int) - 2 ^ (i % 8)) : BIs g (w.setCell ⟨g, i / 8, none⟩ (.int .u8 y)) (stB l i false) := by
  subst hx
  refine h.set _ _ _ ?_
  rw [hy]
  have := sb_sub (l.getD (i / 8) 0) ⟨i % 8, Nat.mod_lt _ (by decide)⟩ ht
  rw [this]
  simp
set_option maxRecDepth 100000 in
theorem stB_same (l : List UInt8) (i : Nat) (h : i / 8 < l.length) : stB l i (tk l i) = l := by
  unfold stB tk
  rw [sb_same _ ⟨i % 8, Nat.mod_lt _ (by decide)⟩, getD_get h]
  exact List.set_getElem_self h
set_option maxRecDepth 100000 in
theorem bit_add_lt (x : UInt8) (j : Nat) (hj : j < 8) (h : x.toNat.testBit j = false) : (x.toNat : Int) + 2 ^ j < 256 := by
  have h1 := sb_add x ⟨j, hj⟩ h
  have h2 := (sb x j true).toNat_lt
  have h3 : ((x.toNat + 2 ^ j : Nat) : Int) = (x.toNat : Int) + 2 ^ j := by simp
  rw [← h3]
  simp only [] at h1
  rw [h1]
  omega
set_option maxRecDepth 100000 in
theorem bit_sub_le (x : UInt8) (j : Nat) (hj : j < 8) (h : x.toNat.testBit j = true) : 0 ≤ (x.toNat : Int) - 2 ^ j := by
  have h1 := sb_sub x ⟨j, hj⟩ h
  have h3 : ((2 ^ j : Nat) : Int) = 2 ^ j := by simp
  rw [← h3]
  simp only [] at h1
  omega
/-- what Count answers -/
def cntV (b : ByteArray) (x y : Int) : Int := if rngE b x y = 0 then (cnt b.data.toList x.toNat (y.toNat - x.toNat) : Int) else 0
set_option maxRecDepth 100000 in
theorem rng_ok {b : ByteArray} {x y : Int} (h : rngE b x y = 0) : b.size = 128 ∧ ∃ m n : Nat, x = (m : Int) ∧ y = (m : Int) + n ∧ m + n ≤ 1024 := by
  rcases rng_cases b x y with ⟨h', hE⟩ | ⟨h', ⟨h1, hE⟩ | ⟨h1, ⟨h2, hE⟩ | ⟨h2, ⟨h3, hE⟩ | ⟨h3, hE⟩⟩⟩⟩
  · omega
  · omega
  · omega
  · omega
  · exact ⟨h', x.toNat, (y - x).toNat, by omega, by omega, by omega⟩
set_option maxRecDepth 100000 in
set_option maxHeartbeats 1000000 in
theorem count_ok (b : ByteArray) (m n : Nat) (hb : b.size = 128) (hmn : m + n ≤ 1024) (w : World) : Calls Tryz.prog 39 #[.string b, .int .i64 m, .int .i64 ((m : Int) + n)] w fun e w' => e = .returned (.tuple #[.int .i64 (cnt b.data.toList m n), .int .i64 0]) ∧ ∃ k, w' = w.drewN k := by
  have HE := hid (rng_any b m ((m : Int) + n))
  have hE : rngE b m ((m : Int) + n) = 0 := by unfold rngE; rw [if_pos hb, if_pos (by omega)]
  rw [hE] at HE
  clear hE
  have HT := hid (fun i hi => taken_any b i hb hi)
  obtain ⟨l, hl⟩ : ∃ l, l = b.data.toList := ⟨_, rfl⟩
  rw [← hl] at HT ⊢
  clear hl
  go_enter Tryz.func39, Tryz.ntmps39
  go_wp2_with (first | (go_at_call 66; refine (HE.out _).mono ?_; rintro e w ⟨rfl, rfl⟩))
  go_loopw [9, 21] (fun c i wr => ∃ j k : Nat, i = .int .i64 j ∧ j ≤ n ∧ c = .int .i64 (cnt l m j) ∧ wr = w.drewN k) (fun _ i _ => n - (intOf i).toNat)
  case atStart => exact ⟨0, 0, rfl, Nat.zero_le _, rfl, rfl⟩
  case round =>
    obtain ⟨j, k, rfl, hj, rfl, rfl⟩ := hrel
    have hcl := cnt_le l m j
    by_cases hlt : j < n
    · have HC : Hid (cnt l m (j + 1) = cnt l m j + if tk l (m + j) then 1 else 0) := rfl
      have HT2 := hid (HT.out (m + j) (by omega))
      obtain ⟨c, hc⟩ : ∃ c, c = cnt l m j := ⟨_, rfl⟩
      obtain ⟨tt, htt⟩ : ∃ t, t = tk l (m + j) := ⟨_, rfl⟩
      rw [← hc] at HC hcl ⊢
      rw [← htt] at HC HT2
      clear hc htt
      cases tt with
      | false =>
        go_wp2_with (first | (go_at_call 67; refine (HT2.out _).mono ?_; rintro e w2 ⟨rfl, k2, rfl⟩))
        go_roundw
        case rel => exact ⟨j + 1, _, by go_num, by omega, by rw [HC.out]; rfl, rfl⟩
        case measure => simp [intOf]; omega
      | true =>
        go_wp2_with (first | (go_at_call 67; refine (HT2.out _).mono ?_; rintro e w2 ⟨rfl, k2, rfl⟩))
        go_roundw
        case rel => exact ⟨j + 1, _, by go_num, by omega, by rw [HC.out]; rfl, rfl⟩
        case measure => simp [intOf]; omega
    · have hje : j = n := by omega
      subst hje
      go_wp2
      go_ret2
      exact ⟨rfl, k, rfl⟩
end Go.Proofs.YtjnhibpebikkmaaGreat
