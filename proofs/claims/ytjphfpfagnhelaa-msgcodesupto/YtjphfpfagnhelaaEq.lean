import Derived.Test.YtjphfpfagnhelaaEa
namespace Go.Proofs.Ytjphfpfagnhelaa
open Go.RowKit

set_option maxRecDepth 100000 in
theorem eq23 (K A N K1 A1 N1 : Int) (p t d p1 t1 d1 : ByteArray) (w : World) : (Op.equalIn 9999 52 (.agg #[.int .i64 K, .int .i64 A, .int .i64 N, .string p, .string t, .string d]) (.agg #[.int .i64 K1, .int .i64 A1, .int .i64 N1, .string p1, .string t1, .string d1])).run Try.prog w = .ok (K == K1 && (A == A1 && (N == N1 && (p.toList == p1.toList && (t.toList == t1.toList && d.toList == d1.toList))))) w := by
  have u3 := Try.underlying3
  have a3 := Try.isAgg3
  have z3 := Try.sizeOf3
  have u9 := Try.underlying9
  have a9 := Try.isAgg9
  have z9 := Try.sizeOf9
  have hS : Try.prog.underlying 52 = some (.struct (Try.prog.fieldsOf 52)) := by kernel_rfl
  have hp : Try.prog.stoodInHeld 52 = false := by kernel_rfl
  rw [show (9999 : Nat) = 9998 + 1 from rfl, run_equalIn_agg w 9998 52 _ _ hS hp]
  simp only [Program.fieldsOf, Try.underlying52]
  go_simp
  split
  · split
    · split
      · split
        · split
          · split
            · simp [*]
            · simp [*]
          · simp [*]
        · simp [*]
      · simp [*]
    · simp [*]
  · simp [*]
set_option maxRecDepth 100000 in
theorem eq25 (V C R K A N V1 C1 R1 K1 A1 N1 : Int) (p t d p1 t1 d1 : ByteArray) (w : World) : (Op.equalIn 10000 54 (.agg #[.int .i64 V, .int .i64 C, .int .i64 R, .int .i64 K, .int .i64 A, .int .i64 N, .string p, .string t, .string d]) (.agg #[.int .i64 V1, .int .i64 C1, .int .i64 R1, .int .i64 K1, .int .i64 A1, .int .i64 N1, .string p1, .string t1, .string d1])).run Try.prog w = .ok (V == V1 && (C == C1 && (R == R1 && (K == K1 && (A == A1 && (N == N1 && (p.toList == p1.toList && (t.toList == t1.toList && d.toList == d1.toList)))))))) w := by
  have u3 := Try.underlying3
  have a3 := Try.isAgg3
  have z3 := Try.sizeOf3
  have a23 := Try.isAgg52
  have z23 := Try.sizeOf52
  have e23 := eq23 K A N K1 A1 N1 p t d p1 t1 d1
  have hS : Try.prog.underlying 54 = some (.struct (Try.prog.fieldsOf 54)) := by kernel_rfl
  have hp : Try.prog.stoodInHeld 54 = false := by kernel_rfl
  rw [show (10000 : Nat) = 9999 + 1 from rfl, run_equalIn_agg w 9999 54 _ _ hS hp]
  obtain ⟨q, hq⟩ : ∃ q, q = (K == K1 && (A == A1 && (N == N1 && (p.toList == p1.toList && (t.toList == t1.toList && d.toList == d1.toList))))) := ⟨_, rfl⟩
  rw [← hq] at e23 ⊢
  clear hq
  simp only [Program.fieldsOf, Try.underlying54]
  go_simp
  split
  · split
    · split
      · cases q <;> simp [*]
      · simp [*]
    · simp [*]
  · simp [*]
theorem eqE_iff (n m : Ent) : (n.V == m.V && (n.C == m.C && (n.R == m.R && (n.K == m.K && (n.A == m.A && (n.N == m.N && (n.p.toList == m.p.toList && (n.t.toList == m.t.toList && n.d.toList == m.d.toList)))))))) = decide (n = m) := by
  rw [str_dec, str_dec, str_dec, Bool.eq_iff_iff, decide_eq_true_iff]
  obtain ⟨V, C, R, K, A, N, p, t, d⟩ := n
  obtain ⟨V1, C1, R1, K1, A1, N1, p1, t1, d1⟩ := m
  simp
theorem eqE (n m : Ent) (w : World) : (Op.equalIn 10000 54 n.v m.v).run Try.prog w = .ok (decide (n = m)) w := by
  rw [← eqE_iff]
  exact eq25 n.V n.C n.R n.K n.A n.N m.V m.C m.R m.K m.A m.N n.p n.t n.d m.p m.t m.d w
end Go.Proofs.Ytjphfpfagnhelaa
