import Derived.Test.YtnoocgodnpjnoaaDoorRe
import Derived.Maps.AppendAt
namespace Go.Proofs.YtnoocgodnpjnoaaDoor
open Go.RowKit

/-- a descriptor that is open, as the document's answer has it -/
structure Fil where
  f : Int
  a : Int
  p : ByteArray
  deriving DecidableEq
def Fil.cs (x : Fil) : List Value := [.int .i64 x.f, .int .i64 x.a, .string x.p]
def fil (D : Nat → Dsc) (k : Nat) : Fil := ⟨k, (D k).n, (D k).p⟩
/-- all that are open, rising -/
def fl (D : Nat → Dsc) : Nat → List Fil
  | 0 => []
  | n + 1 => fl D n ++ (if (D n).o then [fil D n] else [])
theorem fl_len (D : Nat → Dsc) : ∀ n, (fl D n).length = cnt D n
  | 0 => rfl
  | n + 1 => by
    rw [cnt_succ, fl, List.length_append, fl_len D n]
    split <;> simp
theorem cnt_mono (D : Nat → Dsc) (k : Nat) : ∀ n, k ≤ n → cnt D k ≤ cnt D n
  | 0, h => by rw [show k = 0 by omega]; exact Nat.le_refl _
  | n + 1, h => by
    by_cases hk : k = n + 1
    · rw [hk]; exact Nat.le_refl _
    · have := cnt_mono D k n (by omega)
      rw [cnt_succ]
      omega
theorem cnt_lt {D : Nat → Dsc} {k n : Nat} (h : (D k).o = true) (hk : k < n) : cnt D k < cnt D n := by
  have := cnt_mono D (k + 1) n hk
  rw [cnt_succ, h] at this
  simp at this
  omega
theorem fl_get {D : Nat → Dsc} {k : Nat} (h : (D k).o = true) : ∀ n, k < n → (fl D n)[cnt D k]? = some (fil D k)
  | 0, hk => by omega
  | n + 1, hk => by
    rw [fl]
    by_cases hkn : k = n
    · subst hkn
      rw [List.getElem?_append_right (by rw [fl_len]; exact Nat.le_refl _), fl_len, h]
      simp
    · rw [List.getElem?_append_left (by rw [fl_len]; exact cnt_lt h (by omega))]
      exact fl_get h n (by omega)
theorem fl_at {D : Nat → Dsc} {i : Nat} {e : Fil} : ∀ n, (fl D n)[i]? = some e → ∃ k, k < n ∧ (D k).o = true ∧ i = cnt D k ∧ e = fil D k
  | 0, h => by simp [fl] at h
  | n + 1, h => by
    rw [fl] at h
    by_cases hi : i < (fl D n).length
    · rw [List.getElem?_append_left hi] at h
      obtain ⟨k, h1, h2⟩ := fl_at n h
      exact ⟨k, by omega, h2⟩
    · rw [List.getElem?_append_right (by omega)] at h
      cases ho : (D n).o with
      | false => rw [ho] at h; simp at h
      | true =>
        rw [ho, if_pos rfl, List.getElem?_singleton] at h
        split at h
        · rename_i h0
          cases h
          refine ⟨n, by omega, ho, ?_, rfl⟩
          have := fl_len D n
          omega
        · cases h
theorem fl_same {D E : Nat → Dsc} : ∀ n, (∀ j, j < n → D j = E j) → fl D n = fl E n
  | 0, _ => rfl
  | n + 1, h => by rw [fl, fl, fl_same n (fun j hj => h j (by omega)), h n (by omega), fil, fil, h n (by omega)]
theorem fl_fd (D : Nat → Dsc) : ∀ n, (fl D n).map (·.f) = opens D n
  | 0 => rfl
  | n + 1 => by
    rw [fl, opens, List.map_append, fl_fd D n]
    split <;> rfl
/-- a change of what is open -/
theorem fl_set {D : Nat → Dsc} {k : Nat} {x : Dsc} (h : (D k).o = true) (hx : x.o = true) : ∀ n, k < n → fl (upd D k x) n = (fl D n).set (cnt D k) (fil (upd D k x) k)
  | 0, hk => by omega
  | n + 1, hk => by
    rw [fl, fl]
    by_cases hkn : k = n
    · subst hkn
      rw [fl_same (D := upd D k x) (E := D) k (fun j hj => upd_other _ _ _ _ (by omega)), upd_same, hx, h, List.set_append_right _ _ (by rw [fl_len]; exact Nat.le_refl _), fl_len]
      simp
    · rw [fl_set h hx n (by omega), upd_other _ _ _ _ (Ne.symm hkn), List.set_append_left _ _ (by rw [fl_len]; exact cnt_lt h (by omega))]
      congr 1
      unfold fil
      rw [upd_other _ _ _ _ (Ne.symm hkn)]
/-- one is shut -/
theorem fl_shut {D : Nat → Dsc} {k : Nat} {x : Dsc} (h : (D k).o = true) (hx : x.o = false) : ∀ n, k < n → fl (upd D k x) n = (fl D n).eraseIdx (cnt D k)
  | 0, hk => by omega
  | n + 1, hk => by
    rw [fl, fl]
    by_cases hkn : k = n
    · subst hkn
      rw [fl_same (D := upd D k x) (E := D) k (fun j hj => upd_other _ _ _ _ (by omega)), upd_same, hx, h, List.eraseIdx_append_of_length_le (by rw [fl_len]; exact Nat.le_refl _), fl_len]
      simp
    · rw [fl_shut h hx n (by omega), upd_other _ _ _ _ (Ne.symm hkn), List.eraseIdx_append_of_lt_length (by rw [fl_len]; exact cnt_lt h (by omega))]
      congr 1
      unfold fil
      rw [upd_other _ _ _ _ (Ne.symm hkn)]
/-- one is opened -/
theorem fl_open {D : Nat → Dsc} {k : Nat} {x : Dsc} (h : (D k).o = false) (hx : x.o = true) : ∀ n, k < n → fl (upd D k x) n = (fl D n).take (cnt D k) ++ fil (upd D k x) k :: (fl D n).drop (cnt D k)
  | 0, hk => by omega
  | n + 1, hk => by
    rw [fl, fl]
    by_cases hkn : k = n
    · subst hkn
      rw [fl_same (D := upd D k x) (E := D) k (fun j hj => upd_other _ _ _ _ (by omega)), upd_same, hx, h]
      have e : (fl D k).length ≤ cnt D k := by rw [fl_len]; exact Nat.le_refl _
      simp [List.take_of_length_le e, List.drop_of_length_le e]
    · have hc : cnt D k ≤ (fl D n).length := by rw [fl_len]; exact cnt_mono D k n (by omega)
      rw [fl_open h hx n (by omega), upd_other _ _ _ _ (Ne.symm hkn), List.take_append_of_le_length hc, List.drop_append_of_le_length hc]
      have e : fil (upd D k x) n = fil D n := by unfold fil; rw [upd_other _ _ _ _ (Ne.symm hkn)]
      rw [e]
      simp
end Go.Proofs.YtnoocgodnpjnoaaDoor
