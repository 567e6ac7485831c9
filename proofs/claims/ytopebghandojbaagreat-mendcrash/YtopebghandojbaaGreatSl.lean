import Derived.Test.YtopebghandojbaaGreatOf
namespace Go.Proofs.YtopebghandojbaaGreat
open Go.RowKit

theorem hid {p : Prop} (h : p) : Hid p := h
theorem fval_big (l : List UInt8) : fval l = big l := by
  induction l with
  | nil => rfl
  | cons b l ih => rw [fval, big, ih]
theorem big_fEnc (k : Nat) : ∀ n, n < 256 ^ k → big (fEnc n k) = n := by
  induction k with
  | zero => intro n h; simp at h; subst h; rfl
  | succ k ih =>
    intro n h
    rw [Nat.pow_succ] at h
    rw [fEnc, big, ih (n / 256) (by omega), UInt8.toNat_ofNat']
    omega
theorem fEnc_big : ∀ l : List UInt8, fEnc (big l) l.length = l
  | [] => rfl
  | b :: l => by
    have hb := b.toNat_lt
    rw [List.length_cons, fEnc, big, show (b.toNat + 256 * big l) / 256 = big l by omega, fEnc_big l, show (b.toNat + 256 * big l) % 256 = b.toNat by omega, UInt8.ofNat_toNat]

/-- a text that carries its sum -/
def sealL (l : List UInt8) : List UInt8 := l ++ fEnc (crc l) 4
theorem sealL_len (l : List UInt8) : (sealL l).length = l.length + 4 := by rw [sealL, List.length_append, fEnc_len]
theorem fits4 (l : List UInt8) : fitsB (crc l) 4 = true := by
  have := crc_lt l
  unfold fitsB sized
  simp
  omega
theorem fits2 (n : Nat) (h : n < 65536) : fitsB n 2 = true := by
  unfold fitsB sized
  simp
  omega

set_option maxRecDepth 100000 in
theorem fixed_any (n size : Nat) (hn : n ≤ 9223372036854775807) (hsz : size ≤ 8) (hf : fitsB n size = true) (w : World) :
    Calls Tryz.prog 120 #[.int .i64 n, .int .i64 size] w fun e w' => e = .returned (.string (st (fEnc n size))) ∧ Below w.heap.size w w' := by
  go_enter Tryz.func120, Tryz.ntmps120
  go_wp2_with (first
    | (go_at_call 86; refine (new_any _).mono ?_; rintro e w1 ⟨rfl, rfl⟩; have hwi := WIs.new w w.heap.size)
    | (go_at_call 87; refine (fixed_w w.heap.size w.heap.size n size [] hn hsz hf (by simp) _ hwi (by simp)).mono ?_; rintro e w2 ⟨rfl, hw2, hk2⟩)
    | (go_at_call 89; refine (out_w _ _ _ _ hw2).mono ?_; rintro e w3 ⟨rfl, rfl⟩))
  go_ret
  exact ⟨rfl, (below_alloc w _).trans (hk2.below (Nat.le_refl _) (Nat.le_refl _))⟩

theorem sealE (s : ByteArray) : s ++ st (fEnc (crc s.data.toList) 4) = st (sealL s.data.toList) := by
  apply ByteArray.ext; simp [st, sealL]
set_option maxRecDepth 100000 in
theorem seal_any (s : ByteArray) (hs : s.size ≤ 150000000000000) (w : World) : Calls Tryz.prog 119 #[.string s] w fun e w' => e = .returned (.string (st (sealL s.data.toList))) ∧ Below w.heap.size w w' := by
  have hf := fits4 s.data.toList
  have hc := crc_lt s.data.toList
  have HE := hid (sealE s)
  have hu : (st (fEnc (crc s.data.toList) 4)).size = 4 := by rw [st_size, fEnc_len]
  obtain ⟨c, hcc⟩ : ∃ c, c = crc s.data.toList := ⟨_, rfl⟩
  have HS := sumOf s (by unfold maxLen; omega)
  rw [← hcc] at HS hf hc HE hu
  have HS' := hid HS
  have HF := hid (fun w => fixed_any c 4 (by omega) (by decide) hf w)
  obtain ⟨u, huu⟩ : ∃ u, u = st (fEnc c 4) := ⟨_, rfl⟩
  rw [← huu] at HF HE hu
  clear hcc HS hf huu
  go_enter Tryz.func119, Tryz.ntmps119
  go_wp2_with (first
    | (go_at_call 141; refine (HS'.out _).mono ?_; rintro e w1 ⟨rfl, rfl⟩)
    | (go_at_call 120; refine (HF.out _).mono ?_; rintro e w2 ⟨rfl, hb⟩))
  go_ret
  exact ⟨by rw [← HE.out]; rfl, hb⟩
set_option maxRecDepth 100000 in
theorem refSeal (s : ByteArray) (hs : s.size ≤ 150000000000000) (w : World) : Calls Tryz.prog 123 #[.string s] w fun e w' => e = .returned (.string (st (sealL s.data.toList))) ∧ Below w.heap.size w w' := by
  have hc := crc_lt s.data.toList
  have HE := hid (sealE s)
  have hu : (st (fEnc (crc s.data.toList) 4)).size = 4 := by rw [st_size, fEnc_len]
  obtain ⟨c, hcc⟩ : ∃ c, c = crc s.data.toList := ⟨_, rfl⟩
  have HS := refOf s (by unfold maxLen; omega)
  rw [← hcc] at HS hc HE hu
  have HS' := hid HS
  have HF := hid (fun w => refFixed c 4 (by omega) (by decide) w)
  obtain ⟨u, huu⟩ : ∃ u, u = st (fEnc c 4) := ⟨_, rfl⟩
  rw [← huu] at HF HE hu
  clear hcc HS huu
  go_enter Tryz.func123, Tryz.ntmps123
  go_wp2_with (first
    | (go_at_call 140; refine (HS'.out _).mono ?_; rintro e w1 ⟨rfl, rfl⟩)
    | (go_at_call 93; refine (HF.out _).mono ?_; rintro e w2 ⟨rfl, hb⟩))
  go_ret
  exact ⟨by rw [← HE.out]; rfl, hb⟩

theorem open_cut (s : ByteArray) (hs : s.size < 4) (w : World) : Calls Tryz.prog 125 #[.string s] w fun e w' => e = .returned (.tuple #[.string ByteArray.empty, .int .i64 20]) ∧ w' = w := by
  go_enter Tryz.func125, Tryz.ntmps125
  go_wp2
  go_ret2
  exact ⟨rfl, rfl⟩
theorem ref_cut (s : ByteArray) (hs : s.size < 4) (w : World) : Calls Tryz.prog 136 #[.string s] w fun e w' => e = .returned (.tuple #[.string ByteArray.empty, .int .i64 20]) ∧ w' = w := by
  go_enter Tryz.func136, Tryz.ntmps136
  go_wp2
  go_ret2
  exact ⟨rfl, rfl⟩
end Go.Proofs.YtopebghandojbaaGreat
