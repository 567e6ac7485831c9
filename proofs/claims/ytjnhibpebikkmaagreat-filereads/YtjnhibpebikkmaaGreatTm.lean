import Derived.Test.YtjnhibpebikkmaaGreatCof
namespace Go.Proofs.YtjnhibpebikkmaaGreat
open Go.RowKit

theorem len_list (s : ByteArray) : s.data.toList.length = s.size := by rw [Array.length_toList]; rfl
theorem _root_.Go.RowKit.Below.next {w w1 w2 : World} (a : Below w.heap.size w w1) (b : Below w1.heap.size w1 w2) : Below w.heap.size w w2 := a.trans (b.mono a.size)
theorem ext_list (s : ByteArray) (a b : Nat) : (s.extract a b).data.toList = (s.data.toList.take b).drop a := by
  simp [ByteArray.data_extract, List.drop_take]
theorem str_ne {a b : ByteArray} (h : ¬ a = b) : (a.toList == b.toList) = false := by
  rw [Lib.toList_data, Lib.toList_data]
  simp only [beq_eq_false_iff_ne, ne_eq]
  intro hh
  exact h (by rw [← st_toList a, ← st_toList b, hh])
theorem str_eq {a b : ByteArray} (h : a = b) : (a.toList == b.toList) = true := by subst h; simp
theorem _root_.Go.RowKit.Below.dN {B : Nat} {w w' : World} (h : Below B w w') (n : Nat) : Below B w (w'.drewN n) := ⟨h.os, h.tape, h.output, h.size, h.block⟩
theorem _root_.Go.RowKit.Below.nextD {w w1 w2 : World} {k : Nat} (a : Below w.heap.size w w1) (b : Below (w1.drewN k).heap.size (w1.drewN k) w2) : Below w.heap.size w w2 :=
  a.next ⟨b.os, b.tape, b.output, b.size, b.block⟩
def big : List UInt8 → Nat
  | [] => 0
  | b :: l => b.toNat + 256 * big l
theorem fval_big (l : List UInt8) : fval l = big l := by
  induction l with
  | nil => rfl
  | cons b l ih => rw [fval, big, ih]
theorem big_fEnc (k : Nat) : ∀ n, n < 256 ^ k → big (fEnc n k) = n := by
  induction k with
  | zero => intro n h; simp at h; subst h; rfl
  | succ k ih =>
    intro n h
    rw [Nat.pow_succ] at h
    rw [fEnc, big, ih (n / 256) (by omega), UInt8.toNat_ofNat']
    omega
theorem fEnc_big : ∀ l : List UInt8, fEnc (big l) l.length = l
  | [] => rfl
  | b :: l => by
    have hb := b.toNat_lt
    rw [List.length_cons, fEnc, big, show (b.toNat + 256 * big l) / 256 = big l by omega, fEnc_big l, show (b.toNat + 256 * big l) % 256 = b.toNat by omega, UInt8.ofNat_toNat]
def endV (s : ByteArray) (e : Int) : Int := if e ≠ 0 then e else if s.size = 0 then 0 else 4
theorem end_r (g : Nat) (s : ByteArray) (e : Int) (w : World) (h : RIs g w s e) : Calls Tryz.prog 94 #[.pointer (some ⟨g, 0, none⟩)] w fun x w' => x = .returned (.int .i64 (endV s e)) ∧ w' = w := by
  have h0 := h.c0
  have h1 := h.c1
  by_cases he : e = 0
  · subst he
    by_cases hs : s.size = 0
    · have hl : s = ByteArray.empty := by
        apply ByteArray.ext; exact Array.eq_empty_of_size_eq_zero hs
      subst hl
      go_enter Tryz.func94, Tryz.ntmps94
      go_wp2
      go_ret
      exact ⟨rfl, rfl⟩
    · have hl : s.toList.isEmpty = false := by
        rw [Lib.toList_data]
        cases hq : s.data.toList with
        | nil => exact absurd (by have := congrArg List.length hq; simpa using this) hs
        | cons a t => rfl
      have hv : endV s 0 = 4 := by unfold endV; rw [if_neg (by decide), if_neg hs]
      rw [hv]
      go_enter Tryz.func94, Tryz.ntmps94
      go_wp2
      go_ret
      exact ⟨rfl, rfl⟩
  · have he' : (e != 0) = true := by simp [he]
    have hv : endV s e = e := by unfold endV; rw [if_pos he]
    rw [hv]
    clear he hv
    go_enter Tryz.func94, Tryz.ntmps94
    go_wp2
    go_ret
    exact ⟨rfl, rfl⟩
/-- a number of k bytes, read: the number, what is left, what is wrong -/
def fxN (k : Nat) (s : ByteArray) (e : Int) : Nat := if e ≠ 0 then 0 else if s.size < k then 0 else if fval (s.data.toList.take k) < 9223372036854775808 then fval (s.data.toList.take k) else 0
def fxS (k : Nat) (s : ByteArray) (e : Int) : ByteArray := if e ≠ 0 then s else if s.size < k then s else if fval (s.data.toList.take k) < 9223372036854775808 then s.extract k s.size else s
def fxE (k : Nat) (s : ByteArray) (e : Int) : Int := if e ≠ 0 then e else if s.size < k then 20 else if fval (s.data.toList.take k) < 9223372036854775808 then 0 else 4
theorem fix_r (k : Nat) (hk : sized k = true) (hk8 : k ≤ 8) (g : Nat) (s : ByteArray) (e : Int) (hs : s.size ≤ maxLen) (w : World) (h : RIs g w s e) :
    Calls Tryz.prog 92 #[.pointer (some ⟨g, 0, none⟩), .int .i64 k] w fun x w' => (∃ y, x = .returned (.tuple #[.int .i64 (fxN k s e), .int .i64 y])) ∧ RIs g w' (fxS k s e) (fxE k s e) ∧ Kept w.heap.size g w w' := by
  unfold fxN fxS fxE
  by_cases he : e ≠ 0
  · rw [if_pos he, if_pos he, if_pos he]
    exact (fixedr_err g s e k hk w h he).mono fun x w' k => ⟨⟨_, k.1⟩, by rw [k.2]; exact h, by rw [k.2]; exact Kept.refl _ _ _⟩
  · rw [if_neg he, if_neg he, if_neg he]
    have he : e = 0 := by omega
    subst he
    by_cases h2 : s.size < k
    · rw [if_pos h2, if_pos h2, if_pos h2]
      exact (fixedr_cut g s k hk h2 hk8 w h).mono fun x w' k => ⟨⟨_, k.1⟩, k.2⟩
    · rw [if_neg h2, if_neg h2, if_neg h2]
      by_cases h3 : fval (s.data.toList.take k) < 9223372036854775808
      · rw [if_pos h3, if_pos h3, if_pos h3]
        exact (fixedr_ok g s k hk (by omega) hk8 hs h3 w h).mono fun x w' k => ⟨⟨_, k.1⟩, k.2⟩
      · rw [if_neg h3, if_neg h3, if_neg h3]
        exact (fixedr_form g s k hk (by omega) hk8 hs h3 w h).mono fun x w' k => ⟨⟨_, k.1⟩, k.2⟩
theorem fxS_size (k : Nat) (s : ByteArray) (e : Int) : (fxS k s e).size ≤ s.size := by
  unfold fxS
  split
  · exact Nat.le_refl _
  · split
    · exact Nat.le_refl _
    · split
      · rw [ByteArray.size_extract]; omega
      · exact Nat.le_refl _
/-- a reading that went well -/
theorem fx_back (k : Nat) {s : ByteArray} {e : Int} (h : fxE k s e = 0) : e = 0 ∧ s.data.toList = fEnc (fxN k s e) k ++ (fxS k s e).data.toList ∧ fxN k s e < 256 ^ k ∧ fxN k s e < 9223372036854775808 := by
  unfold fxE at h
  by_cases he : e ≠ 0
  · rw [if_pos he] at h; exact absurd h he
  · rw [if_neg he] at h
    have he : e = 0 := by omega
    subst he
    by_cases h2 : s.size < k
    · rw [if_pos h2] at h; exact absurd h (by decide)
    · rw [if_neg h2] at h
      by_cases h3 : fval (s.data.toList.take k) < 9223372036854775808
      · have e2 : fxS k s 0 = s.extract k s.size := by unfold fxS; rw [if_neg (by decide), if_neg h2, if_pos h3]
        have e3 : fxN k s 0 = fval (s.data.toList.take k) := by unfold fxN; rw [if_neg (by decide), if_neg h2, if_pos h3]
        have hl := len_list s
        have htl : (s.data.toList.take k).length = k := by rw [List.length_take]; omega
        have e4 := fEnc_big (s.data.toList.take k)
        rw [htl, ← fval_big, ← e3] at e4
        have e5 : s.data.toList.take s.size = s.data.toList := List.take_of_length_le (by omega)
        refine ⟨rfl, by rw [e4, e2, ext_list, e5, List.take_append_drop], ?_, by rw [e3]; exact h3⟩
        have := fval_lt (s.data.toList.take k)
        rw [htl] at this
        rw [e3]; exact this
      · rw [if_neg h3] at h; exact absurd h (by decide)
theorem fx_of (k : Nat) {s : ByteArray} {n : Nat} {r : List UInt8} (hn : n < 256 ^ k) (hn2 : n < 9223372036854775808) (hs : s.data.toList = fEnc n k ++ r) : fxE k s 0 = 0 ∧ (fxS k s 0).data.toList = r ∧ fxN k s 0 = n := by
  have hl := len_list s
  have hf := fEnc_len k n
  have hsz : ¬ s.size < k := by rw [← hl, hs, List.length_append, hf]; omega
  have ht : s.data.toList.take k = fEnc n k := by
    have := List.take_left (l₁ := fEnc n k) (l₂ := r)
    rw [hf] at this
    rw [hs, this]
  have hd : s.data.toList.drop k = r := by
    have := List.drop_left (l₁ := fEnc n k) (l₂ := r)
    rw [hf] at this
    rw [hs, this]
  have hv : fval (s.data.toList.take k) = n := by rw [ht, fval_big, big_fEnc k _ hn]
  have h3 : fval (s.data.toList.take k) < 9223372036854775808 := by omega
  refine ⟨by unfold fxE; rw [if_neg (by decide), if_neg hsz, if_pos h3], ?_, ?_⟩
  · unfold fxS; rw [if_neg (by decide), if_neg hsz, if_pos h3, ext_list, List.take_of_length_le (l := s.data.toList) (by omega), hd]
  · unfold fxN; rw [if_neg (by decide), if_neg hsz, if_pos h3, hv]
end Go.Proofs.YtjnhibpebikkmaaGreat
