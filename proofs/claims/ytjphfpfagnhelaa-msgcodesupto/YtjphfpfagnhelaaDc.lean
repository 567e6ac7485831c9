import Derived.Test.YtjphfpfagnhelaaRf
namespace Go.Proofs.Ytjphfpfagnhelaa
open Go.RowKit

theorem scan_uEnc (most last : Nat) (hl : last ≤ 127) : ∀ (n i : Nat) (rest : List UInt8), i < most → n < (last + 1) * 128 ^ (most - 1 - i) → (0 < i → n ≠ 0) → scan most last (uEnc n ++ rest) i = (0, i + (uEnc n).length) := by
  intro n
  induction n using Nat.strongRecOn with
  | ind n ih =>
    intro i rest hi hn h0
    by_cases hlo : n < 128
    · rw [uEnc_lo hlo, List.cons_append, scan]
      have e : (UInt8.ofNat n).toNat = n := by rw [UInt8.toNat_ofNat']; omega
      have hc : ¬ ((n = 0 ∧ 0 < i) ∨ (last < n ∧ i + 1 = most)) := by
        rintro (⟨a, b⟩ | ⟨a, b⟩)
        · exact h0 b a
        · rw [show most - 1 - i = 0 by omega] at hn; omega
      rw [e, if_neg hc, if_pos hlo]; rfl
    · rw [uEnc_hi hlo, List.cons_append, scan]
      have e : (UInt8.ofNat (n % 128 + 128)).toNat = n % 128 + 128 := by rw [UInt8.toNat_ofNat']; omega
      have him : i + 1 < most := by
        by_cases h : i + 1 = most
        · rw [show most - 1 - i = 0 by omega] at hn; omega
        · omega
      rw [e, if_neg (by omega), if_neg (by omega), ih (n / 128) (by omega) (i + 1) rest him ?_ (fun _ => by omega)]
      · rw [List.length_cons]; congr 1; omega
      · rw [show most - 1 - i = (most - 1 - (i + 1)) + 1 by omega, Nat.pow_succ, ← Nat.mul_assoc] at hn; omega
theorem val_uEnc (n : Nat) : val (uEnc n) = n := by
  induction n using Nat.strongRecOn with
  | ind n ih =>
    by_cases hlo : n < 128
    · rw [uEnc_lo hlo, val, val, UInt8.toNat_ofNat']; omega
    · rw [uEnc_hi hlo, val, ih (n / 128) (by omega), UInt8.toNat_ofNat']; omega
theorem zag_zig (n : Int) : zag (zig n) = n := by
  unfold zig zag
  by_cases h : 0 ≤ n
  · rw [if_pos h, if_pos (by omega)]; omega
  · rw [if_neg h, if_neg (by omega)]; omega
theorem st_rest (a b : List UInt8) : (st (a ++ b)).extract a.length (st (a ++ b)).size = st b := by
  apply ByteArray.ext; apply Array.ext'
  rw [Lib.extract_data, st_list, st_list, st_size, List.drop_left, List.take_of_length_le (by rw [List.length_append]; omega)]
theorem st_take (a b : List UInt8) : (st (a ++ b)).data.toList.take a.length = a := by rw [st_list, List.take_left]

theorem rd_uint (n : Nat) (hn : n < 9223372036854775808) (rest : List UInt8) (hs : (st (uEnc n ++ rest)).size ≤ maxLen) (g : Nat) (w : World) (h : RIs g w (st (uEnc n ++ rest)) 0) :
    Calls Try.prog 61 #[.pointer (some ⟨g, 0, none⟩)] w fun x w' => x = .returned (.tuple #[.int .i64 n, .int .i64 0]) ∧ RIs g w' (st rest) 0 ∧ Kept w.heap.size g w w' := by
  have hsc := scan_uEnc 9 127 (by decide) n 0 rest (by decide) (by omega) (fun h => absurd h (by decide))
  have := uint_ok g (st (uEnc n ++ rest)) (uEnc n).length hs (by rw [st_list, hsc, Nat.zero_add]) w h
  rw [st_take, val_uEnc, st_rest] at this
  exact this
theorem rd_int (n : Int) (hn : -9223372036854775808 ≤ n ∧ n ≤ 9223372036854775807) (rest : List UInt8) (hs : (st (uEnc (zig n) ++ rest)).size ≤ maxLen) (g : Nat) (w : World) (h : RIs g w (st (uEnc (zig n) ++ rest)) 0) :
    Calls Try.prog 72 #[.pointer (some ⟨g, 0, none⟩)] w fun x w' => x = .returned (.tuple #[.int .i64 n, .int .i64 0]) ∧ RIs g w' (st rest) 0 ∧ Kept w.heap.size g w w' := by
  have hz := zig_lt n hn
  have hsc := scan_uEnc 10 1 (by decide) (zig n) 0 rest (by decide) (by omega) (fun h => absurd h (by decide))
  have := int_ok g (st (uEnc (zig n) ++ rest)) (uEnc (zig n)).length hs (by rw [st_list, hsc, Nat.zero_add]) w h
  rw [st_take, val_uEnc, zag_zig, st_rest] at this
  exact this
theorem rd_text (s : ByteArray) (hsz : s.size ≤ 65535) (rest : List UInt8) (hs : (st (uEnc s.size ++ (s.data.toList ++ rest))).size ≤ maxLen) (g : Nat) (w : World) (h : RIs g w (st (uEnc s.size ++ (s.data.toList ++ rest))) 0) :
    Calls Try.prog 73 #[.pointer (some ⟨g, 0, none⟩), .int .i64 65535] w fun x w' => x = .returned (.tuple #[.string s, .int .i64 0]) ∧ RIs g w' (st rest) 0 ∧ Kept w.heap.size g w w' := by
  have hl : s.data.toList.length = s.size := by rw [Array.length_toList]; rfl
  have hsc := scan_uEnc 9 127 (by decide) s.size 0 (s.data.toList ++ rest) (by decide) (by omega) (fun h => absurd h (by decide))
  have hv : val ((st (uEnc s.size ++ (s.data.toList ++ rest))).data.toList.take (uEnc s.size).length) = s.size := by rw [st_take, val_uEnc]
  have := text_ok g (st (uEnc s.size ++ (s.data.toList ++ rest))) 65535 (by decide) (uEnc s.size).length hs (by rw [st_list, hsc, Nat.zero_add]) (by rw [hv]; exact hsz) (by rw [hv, st_size, List.length_append, List.length_append, hl]; omega) w h
  rw [hv] at this
  have e1 : (st (uEnc s.size ++ (s.data.toList ++ rest))).extract (uEnc s.size).length ((uEnc s.size).length + s.size) = s := by
    apply ByteArray.ext; apply Array.ext'
    rw [Lib.extract_data, st_list, List.drop_left, show (uEnc s.size).length + s.size - (uEnc s.size).length = s.data.toList.length by omega, List.take_left]
  have e2 : (st (uEnc s.size ++ (s.data.toList ++ rest))).extract ((uEnc s.size).length + s.size) (st (uEnc s.size ++ (s.data.toList ++ rest))).size = st rest := by
    have := st_rest (uEnc s.size ++ s.data.toList) rest
    rw [List.append_assoc, List.length_append, hl] at this
    exact this
  rw [e1, e2] at this
  exact this
end Go.Proofs.Ytjphfpfagnhelaa
