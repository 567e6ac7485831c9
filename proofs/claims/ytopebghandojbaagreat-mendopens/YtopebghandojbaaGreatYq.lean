import Derived.Test.YtopebghandojbaaGreatYi
import Derived.Test.YtopebghandojbaaGreatDcr
import Derived.Test.YtopebghandojbaaGreatYg
import Derived.Test.YtopebghandojbaaGreatYj
import Derived.Lib.SmallJoins
import Derived.Deep.Slices
import Derived.JoinedCond
import Derived.ChangeOld
import Derived.Carry
import Derived.WalkKit
import Derived.ProofKit
import Derived.OpenShut
import Derived.ShutString
import Derived.Below
import Derived.Deep.CutBlock
import Derived.Deep.CutRange
import Derived.Deep.DeepCutAuto
import Derived.Deep.LoopGhost
namespace Go.Proofs.YtopebghandojbaaGreat
open Go.RowKit Go.Maps

theorem over_zero (f : Nat → Option ByteArray) (a : Nat) (d : ByteArray) : Dv.over f a d 0 = f := by
  funext k
  unfold Dv.over
  rw [if_neg (by omega)]
/-- what waits is of single blocks, and not much -/
def Qok (σ : MS) (A : List AT) : Prop := (∀ q ∈ σ.Q, q.2.size = 128) ∧ σ.Q.length + A.length ≤ 2000
theorem Qok.act {σ : MS} {a : AT} {A : List AT} {n : Nat} (h : Qok σ (a :: A)) (ha : AOk n a) : Qok (σ.act a) A := by
  obtain ⟨h1, h2⟩ := h
  simp only [List.length_cons] at h2
  rcases ha with ⟨e, _, _, e2⟩ | ⟨e | e | e, _⟩
  · rw [MS.act_w e]
    refine ⟨fun q hq => ?_, by show (σ.Q ++ [_]).length + _ ≤ _; rw [List.length_append]; show σ.Q.length + 1 + _ ≤ _; omega⟩
    rcases List.mem_append.1 hq with h3 | h3
    · exact h1 q h3
    · rw [List.mem_singleton] at h3; rw [h3]; exact e2
  · rw [MS.act_f e]; exact ⟨(fun q hq => by cases hq), by show 0 + _ ≤ _; omega⟩
  · rw [MS.act_l e]; exact ⟨(fun q hq => by cases hq), by show 0 + _ ≤ _; omega⟩
  · rw [MS.act_c e]; exact ⟨(fun q hq => by cases hq), by show 0 + _ ≤ _; omega⟩
end Go.Proofs.YtopebghandojbaaGreat
namespace Go.Proofs.YtopebghandojbaaGreat
open Go.RowKit Go.Maps

theorem withL_le : ∀ (l : List Chg) (c : Chg), (Um.withL l c).length ≤ l.length + 1
  | [], c => by simp [Um.withL]
  | x :: l, c => by
    have := withL_le l c
    unfold Um.withL
    split
    · simp only [List.length_cons]; omega
    · split
      · simp
      · simp
theorem mergeL_le : ∀ (b a : List Chg), (Um.mergeL a b).length ≤ a.length + b.length
  | [], a => Nat.le_refl _
  | c :: b, a => by
    have h1 := mergeL_le b (Um.withL a c)
    have h2 := withL_le a c
    show (Um.mergeL (Um.withL a c) b).length ≤ _
    simp only [List.length_cons]
    omega
theorem mg_used : ∀ (Ls : List (List Chg)), (mg Ls).length ≤ used Ls := by
  have : ∀ (Ls : List (List Chg)) (a : List Chg), (Ls.foldl Um.mergeL a).length ≤ a.length + used Ls := by
    intro Ls
    induction Ls with
    | nil => intro a; exact Nat.le_refl _
    | cons L Ls ih =>
      intro a
      have h1 := ih (Um.mergeL a L)
      have h2 := mergeL_le L a
      show (Ls.foldl Um.mergeL (Um.mergeL a L)).length ≤ a.length + (L.length + 1 + used Ls)
      omega
  intro Ls
  have h := this Ls []
  show (Ls.foldl Um.mergeL []).length ≤ used Ls
  simpa using h
theorem CF.only {s j : Nat} {r : Option Nat} {w w' : World} (h : CF s j r w w') : Dv.Only (s :: j :: r.toList) w w' :=
  ⟨h.os, h.tape, h.output, h.size, fun k hk hn => by
    simp at hn
    exact h.block k hk hn.1 hn.2.1 (fun e => hn.2.2 e.symm)⟩
end Go.Proofs.YtopebghandojbaaGreat
namespace Go.Proofs.YtopebghandojbaaGreat
open Go.ChangeShapes Go.WideShapes Go.ChangeAt Go.RowKit Go.Joins Go.Deep

theorem laidOut : laidOutB Tryz.prog = true := by kernel_rfl
theorem cells3 : Tryz.prog.cellsOf 3 = 1 := by kernel_rfl
theorem cells9 : Tryz.prog.cellsOf 9 = 1 := by kernel_rfl
theorem range_get {α : Type} (it : Nat → α) (n i : Nat) (h : i < ((List.range n).map it).length) : ((List.range n).map it)[i] = it i := by simp
theorem CLie.blk {w : World} {v : Value} {L : List Chg} (h : CLie w v L) (h0 : L ≠ []) : ∀ a, v.ownBlock = some a → a < w.heap.size := by
  obtain ⟨ao, cap, rfl, _, _, h3⟩ := h
  intro a ha
  obtain ⟨gb, off, rfl, hg, _⟩ := h3 0 (List.length_pos_iff.2 h0)
  cases ha
  exact hg
theorem scount_any {s g x y z j m : Nat} {av uv : Value} {c : Int} (w : World) (h : StIs s w g x y z j av m uv c) : Calls Tryz.prog 20 #[.pointer (some ⟨s, 0, none⟩)] w fun e w' => e = .returned (.int .i64 c) ∧ w' = w := by
  have HN := hid (snone_any w h)
  have c13 : w.cell? ⟨s, 13, none⟩ = some (.int .i64 c) := (h.cell 13).trans rfl
  clear h
  go_enter Tryz.func20, Tryz.ntmps20
  go_wp2_with (first | (go_at_call 62; refine HN.out.mono ?_; rintro e w1 ⟨rfl, hw⟩; have hw := hw.symm; subst hw))
  go_ret
  exact ⟨rfl, rfl⟩
end Go.Proofs.YtopebghandojbaaGreat
namespace Go.Proofs.YtopebghandojbaaGreat
open Go.RowKit Go.Maps
theorem Rn.read {B s g x y z j m : Nat} {w : World} {σ : MS} {A : List AT} {T F : Nat} {l : List Int} (h : Rn B s g x y z j m w σ A T F l) (k : Nat) (hk : k < x) :
    Calls Tryz.prog 23 #[.pointer (some ⟨s, 0, none⟩), .int .i64 (k : Int)] w fun e w' => e = .returned (.tuple #[.string (rdM σ k), .int .i64 0]) ∧ Below w.heap.size w w' := by
  obtain ⟨av, uv, N, fp, r, h1, _, _, h4, _⟩ := h.ex
  exact sread (S := ⟨x, σ.f, σ.Q⟩) k hk w h1 h4 h.mis
theorem Rn.count {B s g x y z j m : Nat} {w : World} {σ : MS} {A : List AT} {T F : Nat} {l : List Int} (h : Rn B s g x y z j m w σ A T F l) :
    Calls Tryz.prog 20 #[.pointer (some ⟨s, 0, none⟩)] w fun e w' => e = .returned (.int .i64 σ.c) ∧ w' = w := by
  obtain ⟨av, uv, N, fp, r, h1, _⟩ := h.ex
  exact scount_any w h1
end Go.Proofs.YtopebghandojbaaGreat
namespace Go.Proofs.YtopebghandojbaaGreat
open Go.RowKit Go.Maps
theorem act_c (σ : MS) (a : AT) : (σ.act a).c = σ.c ∨ (σ.act a).c = σ.c + 1 := by
  unfold MS.act
  split
  · exact .inl rfl
  · split
    · exact .inl rfl
    · split
      · exact .inl rfl
      · exact .inr rfl
end Go.Proofs.YtopebghandojbaaGreat
namespace Go.Proofs.YtopebghandojbaaGreat
open Go.RowKit Go.Maps
end Go.Proofs.YtopebghandojbaaGreat
namespace Go.Proofs.YtopebghandojbaaGreat
open Go.RowKit Go.Maps
end Go.Proofs.YtopebghandojbaaGreat
