import Derived.Test.YtjnhibpebikkmaaGreatTm
import Derived.Laws.StructEq
import Derived.ChangeKeysEq
namespace Go.Proofs.YtjnhibpebikkmaaGreat
open Go.RowKit

theorem eq22 (a b c d e f a1 b1 c1 d1 e1 f1 : Int) (w : World) : (Op.equalIn 9999 31 (.agg #[.int .i64 a, .int .i64 b, .int .i64 c, .int .i64 d, .int .i64 e, .int .i64 f]) (.agg #[.int .i64 a1, .int .i64 b1, .int .i64 c1, .int .i64 d1, .int .i64 e1, .int .i64 f1])).run Tryz.prog w = .ok (a == a1 && (b == b1 && (c == c1 && (d == d1 && (e == e1 && (f == f1)))))) w := by
  have u3 := Tryz.underlying3
  have a3 := Tryz.isAgg3
  have z3 := Tryz.sizeOf3
  rw [show (9999 : Nat) = 9998 + 1 from rfl, Op.equalIn]
  simp only [Sem.run_bind, run_underlying Tryz.underlying31, Result.andThen_ok]
  simp only [Std.Legacy.Range.forIn_eq_forIn_range', Std.Legacy.Range.size, Nat.sub_zero, Nat.add_sub_cancel, Nat.div_one, List.range'_succ, List.range'_zero, List.forIn_cons, List.forIn_nil]
  go_simp
  split
  · split
    · split
      · split
        · split
          · split
            · simp [*]
            · simp [*]
          · simp [*]
        · simp [*]
      · simp [*]
    · simp [*]
  · simp [*]
theorem eq24 (k l z a b c d e f s t k1 l1 z1 a1 b1 c1 d1 e1 f1 s1 t1 : Int) (w : World) : (Op.equalIn 10000 33 (.agg #[.int .i64 k, .int .i64 l, .int .i64 z, .int .i64 a, .int .i64 b, .int .i64 c, .int .i64 d, .int .i64 e, .int .i64 f, .int .i64 s, .int .i64 t]) (.agg #[.int .i64 k1, .int .i64 l1, .int .i64 z1, .int .i64 a1, .int .i64 b1, .int .i64 c1, .int .i64 d1, .int .i64 e1, .int .i64 f1, .int .i64 s1, .int .i64 t1])).run Tryz.prog w = .ok (k == k1 && (l == l1 && (z == z1 && ((a == a1 && (b == b1 && (c == c1 && (d == d1 && (e == e1 && (f == f1)))))) && (s == s1 && t == t1))))) w := by
  have u3 := Tryz.underlying3
  have a3 := Tryz.isAgg3
  have z3 := Tryz.sizeOf3
  have a22 := Tryz.isAgg31
  have z22 := Tryz.sizeOf31
  have e22 := eq22 a b c d e f a1 b1 c1 d1 e1 f1
  have hS : Tryz.prog.underlying 33 = some (.struct (Tryz.prog.fieldsOf 33)) := by kernel_rfl
  have hp : Tryz.prog.stoodInHeld 33 = false := by kernel_rfl
  rw [show (10000 : Nat) = 9999 + 1 from rfl, run_equalIn_agg w 9999 33 _ _ hS hp]
  obtain ⟨q, hq⟩ : ∃ q, q = (a == a1 && (b == b1 && (c == c1 && (d == d1 && (e == e1 && (f == f1)))))) := ⟨_, rfl⟩
  rw [← hq] at e22 ⊢
  clear hq
  simp only [Program.fieldsOf, Tryz.underlying33]
  go_simp
  cases q with
  | false =>
    split
    · split
      · split
        · simp [*]
        · simp [*]
      · simp [*]
    · simp [*]
  | true =>
    split
    · split
      · split
        · simp only [Bool.true_eq_false, if_false]
          split
          · split
            · simp [*]
            · simp [*]
          · simp [*]
        · simp [*]
      · simp [*]
    · simp [*]
theorem eqI_iff (n m : Ino) : (n.k == m.k && (n.l == m.l && (n.z == m.z && ((n.a == m.a && (n.b == m.b && (n.c == m.c && (n.d == m.d && (n.e == m.e && n.f == m.f))))) && (n.s == m.s && n.t == m.t))))) = decide (n = m) := by
  rw [Bool.eq_iff_iff, decide_eq_true_iff]
  obtain ⟨k, l, z, a, b, c, d, e, f, s, t⟩ := n
  obtain ⟨k1, l1, z1, a1, b1, c1, d1, e1, f1, s1, t1⟩ := m
  simp
  intro _ _ _
  constructor
  · rintro ⟨⟨h4, h5, h6, h7, h8, h9⟩, h10, h11⟩
    exact ⟨h4, h5, h6, h7, h8, h9, h10, h11⟩
  · rintro ⟨h4, h5, h6, h7, h8, h9, h10, h11⟩
    exact ⟨⟨h4, h5, h6, h7, h8, h9⟩, h10, h11⟩
theorem eqI (n m : Ino) (w : World) : (Op.equalIn 10000 33 n.v m.v).run Tryz.prog w = .ok (decide (n = m)) w := by
  rw [← eqI_iff]
  exact eq24 n.k n.l n.z n.a n.b n.c n.d n.e n.f n.s n.t m.k m.l m.z m.a m.b m.c m.d m.e m.f m.s m.t w
theorem build0 (w : World) : (Instr.build 33 #[]).run Tryz.prog w = .ok (Value.agg #[.int .i64 0, .int .i64 0, .int .i64 0, .int .i64 0, .int .i64 0, .int .i64 0, .int .i64 0, .int .i64 0, .int .i64 0, .int .i64 0, .int .i64 0]) w := by kernel_rfl
end Go.Proofs.YtjnhibpebikkmaaGreat
