import Derived.Test.YtogiiefaakejlaaOf
namespace Go.Proofs.Ytogiiefaakejlaa
open Go.RowKit

theorem quiet2 {P : Program} {f : FuncId} {args : Array Value} {w : World} {a n : Nat} {v : Value} (h : Calls P f args (w.drewN (a + n)) fun e w' => e = .returned v ∧ w' = w.drewN (a + n)) : Calls P f args (w.drewN (a + n)) fun e w'' => e = .returned v ∧ ∃ m, w'' = w.drewN (a + m) :=
  h.mono fun _ _ ⟨he, hm⟩ => ⟨he, n, hm⟩
/-- a chunk -/
structure Ck where
  dg : Int
  tot : Int
  num : Int
  dat : ByteArray
  sm : Int
def Ck.cs (c : Ck) : List Value := [.int .i64 c.dg, .int .i64 c.tot, .int .i64 c.num, .string c.dat, .int .i64 c.sm]
abbrev Ck.v (c : Ck) : Value := .agg #[.int .i64 c.dg, .int .i64 c.tot, .int .i64 c.num, .string c.dat, .int .i64 c.sm]
theorem ck_len (c : Ck) : c.cs.length = 5 := rfl
/-- how many chunks, how many blocks one has -/
def cnt (t : Int) : Int := (t + 7) / 8
def siz (t n : Int) : Int := min 8 (t - n * 8)
def many (t n : Int) : Int := if 1 ≤ t ∧ t ≤ 1024 ∧ 0 ≤ n ∧ n < 1024 then max 0 (min 8 (t - n * 8)) else 0
def rgt (c : Ck) : Bool := decide (1 ≤ c.tot ∧ c.tot ≤ 1024 ∧ 0 ≤ c.num ∧ c.num < cnt c.tot ∧ (c.dat.size : Int) = 128 * siz c.tot c.num ∧ c.sm = crc c.dat.data.toList)

theorem isTotal_any (n : Int) (w : World) : Calls Try.prog 23 #[.int .i64 n] w fun e w' => e = .returned (.bool (decide (1 ≤ n ∧ n ≤ 1024))) ∧ w' = w := by
  by_cases h1 : 1 ≤ n
  · go_enter Try.func23, Try.ntmps23
    go_wp2
    go_ret
    exact ⟨by simp [h1], rfl⟩
  · go_enter Try.func23, Try.ntmps23
    go_wp2
    go_ret
    exact ⟨by have : ¬ (1 ≤ n) := by omega
              simp [this], rfl⟩
theorem count_any (n : Int) (h0 : 0 ≤ n) (h1 : n ≤ 1024) (w : World) : Calls Try.prog 26 #[.int .i64 n] w fun e w' => e = .returned (.int .i64 (cnt n)) ∧ w' = w := by
  go_enter Try.func26, Try.ntmps26
  go_wp2
  go_ret
  refine ⟨ret_int ?_, rfl⟩
  unfold cnt
  omega
theorem size_any (t n : Int) (h0 : 0 ≤ t) (h1 : t ≤ 1024) (h2 : 0 ≤ n) (h3 : n ≤ 1024) (w : World) : Calls Try.prog 30 #[.int .i64 t, .int .i64 n] w fun e w' => e = .returned (.int .i64 (siz t n)) ∧ w' = w := by
  go_enter Try.func30, Try.ntmps30
  go_wp2
  all_goals
    go_ret
    refine ⟨ret_int ?_, rfl⟩
    unfold siz
    omega
theorem many_any (t n : Int) (w : World) : Calls Try.prog 29 #[.int .i64 t, .int .i64 n] w fun e w' => e = .returned (.int .i64 (many t n)) ∧ w' = w := by
  by_cases h : 1 ≤ t ∧ t ≤ 1024 ∧ 0 ≤ n ∧ n < 1024
  · have hm : many t n = max 0 (min 8 (t - n * 8)) := if_pos h
    obtain ⟨h1, h2, h3, h4⟩ := h
    rw [hm]
    clear hm
    go_enter Try.func29, Try.ntmps29
    go_wp2
    go_loop [5, 6] (fun a b => ∃ k : Nat, a = .int .i64 k ∧ b = .int .i64 (n * 8 + k) ∧ k ≤ 8 ∧ (k : Int) ≤ max 0 (t - n * 8)) (fun a _ => 8 - (intOf a).toNat)
    case atStart => exact ⟨0, rfl, by simp, by omega, by omega⟩
    case round =>
      obtain ⟨k, rfl, rfl, hk, hk2⟩ := hrel
      by_cases hlt : k < 8
      · by_cases hl2 : n * 8 + (k : Int) < t
        · go_wp2
          go_round
          case rel => exact ⟨k + 1, by go_num, by go_num, by omega, by omega⟩
          case measure => simp [intOf]; omega
        · go_wp2
          go_ret
          refine ⟨ret_int ?_, rfl⟩
          omega
      · go_wp2
        go_ret
        refine ⟨ret_int ?_, rfl⟩
        omega
  · have hm : many t n = 0 := if_neg h
    rw [hm]
    clear hm
    by_cases h1 : t < 1
    · go_enter Try.func29, Try.ntmps29
      go_wp2
      go_ret
      exact ⟨rfl, rfl⟩
    · by_cases h2 : t > 1024
      · go_enter Try.func29, Try.ntmps29
        go_wp2
        go_ret
        exact ⟨rfl, rfl⟩
      · by_cases h3 : n < 0
        · go_enter Try.func29, Try.ntmps29
          go_wp2
          go_ret
          exact ⟨rfl, rfl⟩
        · have h4 : n ≥ 1024 := by omega
          go_enter Try.func29, Try.ntmps29
          go_wp2
          go_ret
          exact ⟨rfl, rfl⟩
/-- a chunk in a box of its own -/
def KBox (t : TypeId) (g : Nat) (w : World) (c : Ck) : Prop := w.heap[g]? = some (.cells c.cs.toArray t (0, 0))
theorem KBox.cell {t : TypeId} {g : Nat} {w : World} {c : Ck} (h : KBox t g w c) : w.cell? ⟨g, 0, none⟩ = some (.int .i64 c.dg) ∧ w.cell? ⟨g, 1, none⟩ = some (.int .i64 c.tot) ∧ w.cell? ⟨g, 2, none⟩ = some (.int .i64 c.num) ∧ w.cell? ⟨g, 3, none⟩ = some (.string c.dat) ∧ w.cell? ⟨g, 4, none⟩ = some (.int .i64 c.sm) := by
  unfold KBox at h
  simp [World.cell?, h, Ck.cs]
theorem KBox.made (t : TypeId) (w : World) (c : Ck) : KBox t w.heap.size (w.alloc (.cells c.cs.toArray t)) c := box_at w _
theorem many_pos (t n : Int) : (0 < many t n) ↔ (1 ≤ t ∧ t ≤ 1024 ∧ 0 ≤ n ∧ n < cnt t) := by
  unfold many cnt
  split <;> omega
theorem many_siz {t n : Int} (h : 0 < many t n) : many t n = siz t n := by
  have h' := (many_pos t n).1 h
  unfold cnt at h'
  unfold many siz at *
  split at h <;> omega
theorem many_le (t n : Int) : 0 ≤ many t n ∧ many t n ≤ 8 := by
  unfold many
  split <;> omega
theorem rgt_many (c : Ck) : rgt c = decide (0 < many c.tot c.num ∧ (c.dat.size : Int) = many c.tot c.num * 128 ∧ c.sm = crc c.dat.data.toList) := by
  unfold rgt
  rw [Bool.eq_iff_iff, decide_eq_true_eq, decide_eq_true_eq]
  constructor
  · rintro ⟨a, b, c', d, e, f⟩
    have hp := (many_pos _ _).2 ⟨a, b, c', d⟩
    exact ⟨hp, by rw [e, many_siz hp]; omega, f⟩
  · rintro ⟨a, b, c'⟩
    have hp := (many_pos _ _).1 a
    rw [many_siz a] at b
    exact ⟨hp.1, hp.2.1, hp.2.2.1, hp.2.2.2, by omega, c'⟩
end Go.Proofs.Ytogiiefaakejlaa
