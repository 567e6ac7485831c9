import Derived.Test.YtnoocgodnpjnoaaDoorQe
import Derived.Test.YtnoocgodnpjnoaaDoorQf
namespace Go.Proofs.YtnoocgodnpjnoaaDoor
open Go.RowKit

theorem splE_a : splE (⟨#[47, 97]⟩ : ByteArray).data.toList = 0 := by decide
set_option maxRecDepth 100000 in
theorem eq52 (K A N K1 A1 N1 : Int) (p t d p1 t1 d1 : ByteArray) (w : World) : (Op.equalIn 10000 52 (.agg #[.int .i64 K, .int .i64 A, .int .i64 N, .string p, .string t, .string d]) (.agg #[.int .i64 K1, .int .i64 A1, .int .i64 N1, .string p1, .string t1, .string d1])).run Tryd.prog w = .ok (K == K1 && (A == A1 && (N == N1 && (p.toList == p1.toList && (t.toList == t1.toList && d.toList == d1.toList))))) w := by
  have u3 := Tryd.underlying3
  have a3 := Tryd.isAgg3
  have z3 := Tryd.sizeOf3
  have u9 := Tryd.underlying9
  have a9 := Tryd.isAgg9
  have z9 := Tryd.sizeOf9
  have hS : Tryd.prog.underlying 52 = some (.struct (Tryd.prog.fieldsOf 52)) := by kernel_rfl
  have hp : Tryd.prog.stoodInHeld 52 = false := by kernel_rfl
  rw [show (10000 : Nat) = 9999 + 1 from rfl, run_equalIn_agg w 9999 52 _ _ hS hp]
  simp only [Program.fieldsOf, Tryd.underlying52]
  go_simp
  split
  · split
    · split
      · split
        · split
          · split
            · simp [*]
            · simp [*]
          · simp [*]
        · simp [*]
      · simp [*]
    · simp [*]
  · simp [*]
theorem str_dec (a b : ByteArray) : (a.toList == b.toList) = decide (a = b) := by
  by_cases h : a = b
  · rw [decide_eq_true h]; subst h; simp
  · rw [decide_eq_false h, Bool.eq_false_iff]
    intro e
    apply h
    have e := eq_of_beq e
    rw [ByteArray.toList_eq, ByteArray.toList_eq] at e
    exact ByteArray.ext (Array.ext' e)
theorem eqO (n m : Opr) (w : World) : (Op.equalIn 10000 52 n.v m.v).run Tryd.prog w = .ok (decide (n = m)) w := by
  obtain ⟨K, A, N, p, t, d⟩ := n
  obtain ⟨K1, A1, N1, p1, t1, d1⟩ := m
  simp only [Opr.v]
  rw [eq52, str_dec, str_dec, str_dec]
  congr 1
  rw [Bool.eq_iff_iff, decide_eq_true_iff]
  simp
end Go.Proofs.YtnoocgodnpjnoaaDoor
