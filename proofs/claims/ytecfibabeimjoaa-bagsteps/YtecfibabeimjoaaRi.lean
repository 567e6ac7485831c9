import Derived.Test.YtecfibabeimjoaaRh
import Derived.Test.YtecfibabeimjoaaRe
namespace Go.Proofs.Ytecfibabeimjoaa
open Go.RowKit Go.Maps Go.Sort Go.Shelf
/-- the answer and what is there behind a step, of the bag and of the reference's alike -/
theorem pair_deliver (base g b B1 gr : Nat) (n : Int) (L : List Msg) (I : Int) : ∃ (a : Msg) (r : Int) (L' : List Msg),
    (∀ N w, N < 1000000 → Bag base g b w N n L → Calls Try.prog 11 #[.pointer (some ⟨g, 0, none⟩), .int .i64 I] w fun e w' => e = .returned (.tuple #[valM a, .int .i64 r]) ∧ Bag base g b w' (N + 1) n L' ∧ Only [g, b] w w') ∧
    (∀ N w, N < 1000000 → Bag base g b w N n L → Calls Try.prog 14 #[.pointer (some ⟨g, 0, none⟩), .int .i64 I] w fun e w' => e = .returned (.int .i64 r) ∧ Bag base g b w' (N + 1) n L' ∧ Only [g, b] w w') ∧
    (∀ v w, RB B1 gr w n v L → Calls Try.prog 12 #[.pointer (some ⟨gr, 0, none⟩), .int .i64 I] w fun e w' => e = .returned (.tuple #[valM a, .int .i64 r]) ∧ (∃ v', RB B1 gr w' n v' L') ∧ Only [gr] w w') := by
  by_cases hi : inL L I
  · obtain ⟨k, rfl⟩ := Int.eq_ofNat_of_zero_le hi.1
    have hk : k < (dd L).length := by have := hi.2; omega
    exact ⟨(dd L)[k], 0, del (dd L)[k] L, fun N w hN h => deliver_some k hk hN w h, fun N w hN h => drop_some k hk hN w h, fun v w h => rdeliver_some k hk w h⟩
  · exact ⟨⟨0, 0, ByteArray.empty⟩, 6, L, fun N w hN h => (deliver_none I hi (by omega) w h).mono fun _ _ q => ⟨q.1, (h.below q.2).mono (by omega), Only.of_below q.2⟩,
      fun N w hN h => (drop_none I hi (by omega) w h).mono fun _ _ q => ⟨q.1, (h.below q.2).mono (by omega), Only.of_below q.2⟩,
      fun v w h => (rdeliver_no I hi w h).mono fun _ _ q => ⟨q.1, ⟨v, h.below q.2⟩, Only.of_below q.2⟩⟩
theorem pair_twice (base g b B1 gr : Nat) (n : Int) (L : List Msg) (hle : L.length ≤ 1024) (I : Int) : ∃ (r : Int) (L' : List Msg),
    (∀ N w, N < 1000000 → Bag base g b w N n L → Calls Try.prog 15 #[.pointer (some ⟨g, 0, none⟩), .int .i64 I] w fun e w' => e = .returned (.int .i64 r) ∧ Bag base g b w' (N + 1) n L' ∧ Only [g, b] w w') ∧
    (∀ v w, RB B1 gr w n v L → Calls Try.prog 16 #[.pointer (some ⟨gr, 0, none⟩), .int .i64 I] w fun e w' => e = .returned (.int .i64 r) ∧ (∃ v', RB B1 gr w' n v' L') ∧ Only [gr] w w') := by
  by_cases hi : inL L I
  · obtain ⟨k, rfl⟩ := Int.eq_ofNat_of_zero_le hi.1
    have hk : k < (dd L).length := by have := hi.2; omega
    by_cases hf : L.length = 1024
    · refine ⟨5, L, fun N w hN h => (twice_full k hk hN w h hf).mono fun _ _ q => ⟨q.1, (h.below q.2).mono (by omega), Only.of_below q.2⟩, fun v w h => ?_⟩
      exact (rtwice_go k hk 5 (fun w1 w' => RB B1 gr w1 n v L ∧ Below w1.heap.size w1 w') w h (fun w1 h1 => (radd_full _ hf w1 h1).mono fun _ _ q => ⟨q.1, h1, q.2⟩)).mono fun _ _ ⟨he, w1, hb, h1, hb2⟩ => ⟨he, ⟨v, h1.below hb2⟩, Only.of_below (hb.next hb2)⟩
    · refine ⟨0, ins (dd L)[k] L, fun N w hN h => twice_ok k hk hN w h (by omega), fun v w h => ?_⟩
      exact (rtwice_go k hk 0 (fun w1 w' => (∃ v', RB B1 gr w' n v' (ins (dd L)[k] L)) ∧ Only [gr] w1 w') w h (fun w1 h1 => radd_any _ (by omega) w1 h1)).mono fun _ _ ⟨he, w1, hb, h1, hO⟩ => ⟨he, h1, (Only.of_below hb).trans hO⟩
  · exact ⟨6, L, fun N w hN h => (twice_none I hi (by omega) w h).mono fun _ _ q => ⟨q.1, (h.below q.2).mono (by omega), Only.of_below q.2⟩,
      fun v w h => (rtwice_no I hi w h).mono fun _ _ q => ⟨q.1, ⟨v, h.below q.2⟩, Only.of_below q.2⟩⟩
theorem pair_put (base g b B1 gr : Nat) (n : Int) (L : List Msg) (hle : L.length ≤ 1024) (m : Msg) (hm : okM m) : ∃ (r : Int) (L' : List Msg),
    (∀ N w, N < 1000000 → Bag base g b w N n L → Calls Try.prog 17 #[.pointer (some ⟨g, 0, none⟩), valM m] w fun e w' => e = .returned (.int .i64 r) ∧ Bag base g b w' (N + 1) n L' ∧ Only [g, b] w w') ∧
    (∀ v w, RB B1 gr w n v L → Calls Try.prog 18 #[.pointer (some ⟨gr, 0, none⟩), valM m] w fun e w' => e = .returned (.int .i64 r) ∧ (∃ v', RB B1 gr w' n v' L') ∧ Only [gr] w w') := by
  by_cases h1 : isN n m.f = true ∧ isN n m.t = true
  · by_cases h2 : 65535 < m.s.size
    · exact ⟨2, L, fun N w hN h => (put_long m h1.1 h1.2 h2 w h).mono fun _ _ q => ⟨q.1, (h.below q.2).mono (by omega), Only.of_below q.2⟩,
        fun v w h => (rput_long m h1.1 h1.2 h2 w h).mono fun _ _ q => ⟨q.1, ⟨v, h.below q.2⟩, Only.of_below q.2⟩⟩
    · by_cases hf : L.length = 1024
      · refine ⟨5, L, fun N w hN h => (bag_put_full m h1.1 h1.2 (by omega) hf w h).mono fun _ _ q => ⟨q.1, (h.below q.2).mono (by omega), Only.of_below q.2⟩, fun v w h => ?_⟩
        exact (rput_go m h1.1 h1.2 (by omega) 5 (fun w1 w' => RB B1 gr w1 n v L ∧ Below w1.heap.size w1 w') w h (fun w1 k1 => (radd_full _ hf w1 k1).mono fun _ _ q => ⟨q.1, k1, q.2⟩)).mono fun _ _ ⟨he, w1, hb, k1, hb2⟩ => ⟨he, ⟨v, k1.below hb2⟩, Only.of_below (hb.next hb2)⟩
      · refine ⟨0, ins m L, fun N w hN h => bag_put m hm h1.1 h1.2 (by omega) hN (by omega) w h, fun v w h => ?_⟩
        exact (rput_go m h1.1 h1.2 (by omega) 0 (fun w1 w' => (∃ v', RB B1 gr w' n v' (ins m L)) ∧ Only [gr] w1 w') w h (fun w1 k1 => radd_any _ (by omega) w1 k1)).mono fun _ _ ⟨he, w1, hb, k1, hO⟩ => ⟨he, k1, (Only.of_below hb).trans hO⟩
  · exact ⟨1, L, fun N w hN h => (put_node m h1 w h).mono fun _ _ q => ⟨q.1, (h.below q.2).mono (by omega), Only.of_below q.2⟩,
      fun v w h => (rput_node m h1 w h).mono fun _ _ q => ⟨q.1, ⟨v, h.below q.2⟩, Only.of_below q.2⟩⟩
theorem RB.other {B1 g : Nat} {w w' : World} {n : Int} {v : Value} {L : List Msg} {fp : List Nat} (h : RB B1 g w n v L) (k : Only fp w w') (h1 : g ∉ fp) (h2 : ∀ x ∈ fp, x < B1) : RB B1 g w' n v L :=
  ⟨(k.block g (lt_of_block h.cell) h1).trans h.cell, h.row.only k h2, h.lo, Nat.le_trans h.hi k.size, h.le⟩
/-- both bags, of the same messages -/
structure PR (base g b B1 gr : Nat) (w : World) (N : Nat) (n : Int) (v : Value) (L : List Msg) : Prop where
  bag : Bag base g b w N n L
  ref : RB B1 gr w n v L
  g1 : g < B1
  b1 : b < B1
  ng : gr ≠ g
  nb : gr ≠ b
theorem PR.below {base g b B1 gr N : Nat} {w w' : World} {n : Int} {v : Value} {L : List Msg} (h : PR base g b B1 gr w N n v L) (k : Below w.heap.size w w') : PR base g b B1 gr w' N n v L :=
  ⟨h.bag.below k, h.ref.below k, h.g1, h.b1, h.ng, h.nb⟩
/-- behind a step of the bag the reference's is as it was -/
theorem PR.half {base g b B1 gr N : Nat} {w w' : World} {n : Int} {v : Value} {L : List Msg} (h : PR base g b B1 gr w N n v L) (k : Only [g, b] w w') : RB B1 gr w' n v L :=
  h.ref.other k (by simp; exact ⟨h.ng, h.nb⟩) (by intro x hx; simp at hx; rcases hx with rfl | rfl; exact h.g1; exact h.b1)
theorem PR.both {base g b B1 gr N N' : Nat} {w w1 w2 : World} {n : Int} {v v' : Value} {L L' : List Msg} (h : PR base g b B1 gr w N n v L) (hB : Bag base g b w1 N' n L') (k : Only [gr] w1 w2) (hR : RB B1 gr w2 n v' L') : PR base g b B1 gr w2 N' n v' L' :=
  ⟨hB.other k (by simp; exact h.ng.symm) (by simp; exact h.nb.symm), hR, h.g1, h.b1, h.ng, h.nb⟩
/-- a step of the reference's first -/
theorem PR.half2 {base g b B1 gr N : Nat} {w w' : World} {n : Int} {v : Value} {L : List Msg} (h : PR base g b B1 gr w N n v L) (k : Only [gr] w w') : Bag base g b w' N n L :=
  h.bag.other k (by simp; exact h.ng.symm) (by simp; exact h.nb.symm)
theorem PR.both2 {base g b B1 gr N N' : Nat} {w w1 w2 : World} {n : Int} {v v' : Value} {L L' : List Msg} (h : PR base g b B1 gr w N n v L) (hR : RB B1 gr w1 n v' L') (k : Only [g, b] w1 w2) (hB : Bag base g b w2 N' n L') : PR base g b B1 gr w2 N' n v' L' :=
  ⟨hB, hR.other k (by simp; exact ⟨h.ng, h.nb⟩) (by intro x hx; simp at hx; rcases hx with rfl | rfl; exact h.g1; exact h.b1), h.g1, h.b1, h.ng, h.nb⟩
end Go.Proofs.Ytecfibabeimjoaa
