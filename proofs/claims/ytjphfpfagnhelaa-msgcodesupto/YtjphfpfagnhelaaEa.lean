import Derived.Test.YtjphfpfagnhelaaBo
import Derived.Test.YtjphfpfagnhelaaDc
import Derived.Test.YtjphfpfagnhelaaRs
import Derived.Handy
import Derived.BigRegion
import Derived.Laws.StructEq
import Derived.ChangeKeysEq
import Derived.Laws.CopyRow
import Derived.Laws.ResultCell
import Derived.Maps.OwnSet
namespace Go.Proofs.Ytjphfpfagnhelaa
open Go.RowKit

theorem hid {p : Prop} (h : p) : Hid p := h
/-- an entry: view, client, request; kind, at, n, path, to, data -/
structure Ent where
  V : Int
  C : Int
  R : Int
  K : Int
  A : Int
  N : Int
  p : ByteArray
  t : ByteArray
  d : ByteArray
  deriving DecidableEq
def Ent.v (x : Ent) : Value := .agg #[.int .i64 x.V, .int .i64 x.C, .int .i64 x.R, .int .i64 x.K, .int .i64 x.A, .int .i64 x.N, .string x.p, .string x.t, .string x.d]
def Ent.zero : Ent := ⟨0, 0, 0, 0, 0, 0, ByteArray.empty, ByteArray.empty, ByteArray.empty⟩
/-- a number and a text that are right -/
def nB (n least : Int) : Bool := decide (least ≤ n) && decide (n ≤ 1099511627776)
def tB (s : ByteArray) : Bool := decide ((s.size : Int) ≤ 4096)
def rgt (x : Ent) : Bool := nB x.V 0 && (nB x.C 0 && (nB x.R 1 && (tB x.p && (tB x.t && tB x.d))))
theorem str_ne {a b : ByteArray} (h : ¬ a = b) : (a.toList == b.toList) = false := by
  rw [Bool.eq_false_iff]
  intro e
  apply h
  have e := eq_of_beq e
  rw [ByteArray.toList_eq, ByteArray.toList_eq] at e
  exact ByteArray.ext (Array.ext' e)
theorem str_eq {a b : ByteArray} (h : a = b) : (a.toList == b.toList) = true := by subst h; simp
theorem str_dec (a b : ByteArray) : (a.toList == b.toList) = decide (a = b) := by
  by_cases h : a = b
  · rw [str_eq h, decide_eq_true h]
  · rw [str_ne h, decide_eq_false h]

theorem isNumber_any (n least : Int) (w : World) : Calls Try.prog 74 #[.int .i64 n, .int .i64 least] w fun e w' => e = .returned (.bool (nB n least)) ∧ w' = w := by
  by_cases h : least ≤ n
  · have h' : nB n least = decide (n ≤ 1099511627776) := by unfold nB; rw [decide_eq_true h]; rfl
    rw [h']
    clear h'
    go_enter Try.func74, Try.ntmps74
    go_wp2
    go_ret
    exact ⟨rfl, rfl⟩
  · have h' : nB n least = false := by unfold nB; rw [decide_eq_false h]; rfl
    rw [h']
    clear h'
    go_enter Try.func74, Try.ntmps74
    go_wp2
    go_ret
    exact ⟨rfl, rfl⟩
theorem isText_any (s : ByteArray) (w : World) : Calls Try.prog 75 #[.string s] w fun e w' => e = .returned (.bool (tB s)) ∧ w' = w := by
  unfold tB
  go_enter Try.func75, Try.ntmps75
  go_wp2
  go_ret
  exact ⟨rfl, rfl⟩
theorem below_alloc (w : World) (o : Obj) : Below w.heap.size w (w.alloc o) := (Below.refl _ _).alloc (Nat.le_refl _) o
set_option maxRecDepth 100000 in
set_option maxHeartbeats 2000000 in
theorem isRight_any (x : Ent) (w : World) : Calls Try.prog 63 #[x.v] w fun e w' => e = .returned (.bool (rgt x)) ∧ Below w.heap.size w w' := by
  obtain ⟨V, C, R, K, A, N, p, t, d⟩ := x
  simp only [Ent.v]
  obtain ⟨b1, hb1⟩ : ∃ b, b = nB V 0 := ⟨_, rfl⟩
  obtain ⟨b2, hb2⟩ : ∃ b, b = nB C 0 := ⟨_, rfl⟩
  obtain ⟨b3, hb3⟩ : ∃ b, b = nB R 1 := ⟨_, rfl⟩
  obtain ⟨b4, hb4⟩ : ∃ b, b = tB p := ⟨_, rfl⟩
  obtain ⟨b5, hb5⟩ : ∃ b, b = tB t := ⟨_, rfl⟩
  obtain ⟨b6, hb6⟩ : ∃ b, b = tB d := ⟨_, rfl⟩
  have c1 := hid (isNumber_any V 0)
  have c2 := hid (isNumber_any C 0)
  have c3 := hid (isNumber_any R 1)
  have c4 := hid (isText_any p)
  have c5 := hid (isText_any t)
  have c6 := hid (isText_any d)
  unfold rgt
  simp only []
  rw [← hb1, ← hb2, ← hb3, ← hb4, ← hb5, ← hb6]
  rw [← hb1] at c1
  rw [← hb2] at c2
  rw [← hb3] at c3
  rw [← hb4] at c4
  rw [← hb5] at c5
  rw [← hb6] at c6
  clear hb1 hb2 hb3 hb4 hb5 hb6
  cases b1 with
  | false =>
    go_enter Try.func63, Try.ntmps63
    go_wp2_with (first | (go_at_call 74; refine (c1.out _).mono ?_; rintro e w' ⟨rfl, rfl⟩; clear c1))
    go_ret
    exact ⟨rfl, below_alloc _ _⟩
  | true =>
  cases b2 with
  | false =>
    go_enter Try.func63, Try.ntmps63
    go_wp2_with (first | (go_at_call 74; first | (refine (c1.out _).mono ?_; rintro e w' ⟨rfl, rfl⟩; clear c1) | (refine (c2.out _).mono ?_; rintro e w' ⟨rfl, rfl⟩; clear c2)))
    go_ret
    exact ⟨rfl, below_alloc _ _⟩
  | true =>
  cases b3 with
  | false =>
    go_enter Try.func63, Try.ntmps63
    go_wp2_with (first | (go_at_call 74; first | (refine (c1.out _).mono ?_; rintro e w' ⟨rfl, rfl⟩; clear c1) | (refine (c2.out _).mono ?_; rintro e w' ⟨rfl, rfl⟩; clear c2) | (refine (c3.out _).mono ?_; rintro e w' ⟨rfl, rfl⟩; clear c3)))
    go_ret
    exact ⟨rfl, below_alloc _ _⟩
  | true =>
  cases b4 with
  | false =>
    go_enter Try.func63, Try.ntmps63
    go_wp2_with (first | (go_at_call 74; first | (refine (c1.out _).mono ?_; rintro e w' ⟨rfl, rfl⟩; clear c1) | (refine (c2.out _).mono ?_; rintro e w' ⟨rfl, rfl⟩; clear c2) | (refine (c3.out _).mono ?_; rintro e w' ⟨rfl, rfl⟩; clear c3)) | (go_at_call 75; refine (c4.out _).mono ?_; rintro e w' ⟨rfl, rfl⟩; clear c4))
    go_ret
    exact ⟨rfl, below_alloc _ _⟩
  | true =>
  cases b5 with
  | false =>
    go_enter Try.func63, Try.ntmps63
    go_wp2_with (first | (go_at_call 74; first | (refine (c1.out _).mono ?_; rintro e w' ⟨rfl, rfl⟩; clear c1) | (refine (c2.out _).mono ?_; rintro e w' ⟨rfl, rfl⟩; clear c2) | (refine (c3.out _).mono ?_; rintro e w' ⟨rfl, rfl⟩; clear c3)) | (go_at_call 75; first | (refine (c4.out _).mono ?_; rintro e w' ⟨rfl, rfl⟩; clear c4) | (refine (c5.out _).mono ?_; rintro e w' ⟨rfl, rfl⟩; clear c5)))
    go_ret
    exact ⟨rfl, below_alloc _ _⟩
  | true =>
    go_enter Try.func63, Try.ntmps63
    go_wp2_with (first | (go_at_call 74; first | (refine (c1.out _).mono ?_; rintro e w' ⟨rfl, rfl⟩; clear c1) | (refine (c2.out _).mono ?_; rintro e w' ⟨rfl, rfl⟩; clear c2) | (refine (c3.out _).mono ?_; rintro e w' ⟨rfl, rfl⟩; clear c3)) | (go_at_call 75; first | (refine (c4.out _).mono ?_; rintro e w' ⟨rfl, rfl⟩; clear c4) | (refine (c5.out _).mono ?_; rintro e w' ⟨rfl, rfl⟩; clear c5) | (refine (c6.out _).mono ?_; rintro e w' ⟨rfl, rfl⟩; clear c6)))
    go_ret
    exact ⟨rfl, below_alloc _ _⟩
theorem rgt_of (x : Ent) : rgt x = (decide (0 ≤ x.V) && (decide (x.V ≤ 1099511627776) && (decide (0 ≤ x.C) && (decide (x.C ≤ 1099511627776) && (decide (1 ≤ x.R) && (decide (x.R ≤ 1099511627776) && (decide ((x.p.size : Int) ≤ 4096) && (decide ((x.t.size : Int) ≤ 4096) && decide ((x.d.size : Int) ≤ 4096))))))))) := by
  unfold rgt nB tB
  simp only [Bool.and_assoc]
set_option maxRecDepth 100000 in
set_option maxHeartbeats 2000000 in
theorem right_any (x : Ent) (w : World) : Calls Try.prog 38 #[x.v] w fun e w' => e = .returned (.bool (rgt x)) ∧ Below w.heap.size w w' := by
  rw [rgt_of]
  obtain ⟨V, C, R, K, A, N, p, t, d⟩ := x
  simp only [Ent.v]
  go_enter Try.func38, Try.ntmps38
  go_wp2
  all_goals
    go_ret
    exact ⟨by first | (simp [*]; done) | (simp [*]; intros; omega), below_alloc _ _⟩
end Go.Proofs.Ytjphfpfagnhelaa
