import Derived.Test.YtcaedajbkdploaaGi
import Derived.Test.YtcaedajbkdploaaGh
namespace Go.Proofs.Ytcaedajbkdploaa
open Go.RowKit Go.Maps

theorem rp_keep {P : List Ent} (h : Val P) (k : Nat) (hk : k ≤ P.length) : rpE P k (P.drop k) = 0 ∧ rpL P k (P.drop k) = P := by
  have e : rpE P k (P.drop k) = 0 := by
    have h1 : Val (P.take k ++ P.drop k) := by rw [List.take_append_drop]; exact h
    have r1 := h1.right
    have r2 := h1.rise
    have r3 := h.len
    rw [List.all_append] at r1
    rw [fall_append, lastD_zero] at r2
    simp only [Bool.and_eq_true, Bool.or_eq_false_iff] at r1 r2
    unfold rpE
    rw [if_neg (by omega), if_neg (by rw [r1.2]; decide), Int.toNat_natCast, r2.2, if_neg (by decide), if_neg (by rw [List.length_drop]; omega)]
  refine ⟨e, ?_⟩
  unfold rpL
  rw [e, if_pos rfl, Int.toNat_natCast, List.take_append_drop]
theorem from_drop {P : List Ent} (h : P.length ≤ 4096) (k : Nat) : fromL P ((k : Int) + 1) 5000 = P.drop k := by
  unfold fromL
  rw [show ((k : Int) + 1 - 1).toNat = k by omega, List.take_of_length_le (by rw [List.length_drop, show (5000 : Int).toNat = 5000 from rfl]; omega)]
theorem rp_not {P m : List Ent} {k : Int} (h : rpE P k m ≠ 0) : rpL P k m = P := by unfold rpL; rw [if_neg h]
theorem rp_yes {P m : List Ent} {k : Nat} (h : rpE P k m = 0) : rpL P k m = P.take k ++ m := by unfold rpL; rw [if_pos h, Int.toNat_natCast]
theorem LF.row {g : Nat} {ob : Option Nat} {w w' : World} {B : Nat} {v : Value} {l : List Ent} (h : LF g ob w w') (r : ERow B w v l) (k : ∀ b, v.ownBlock = some b → b ≠ g ∧ some b ≠ ob) : ERow B w' v l :=
  r.frame fun b hb => h.block b (r.own b hb).2 (k b hb).1 (k b hb).2
/-- a log and what was told of it -/
structure KS (w0 : World) (w : World) (v : Value) (l : List Ent) (z : Value) (P : List Ent) : Prop where
  li : LI 78 w0.heap.size w0.heap.size w v l
  was : ERow w0.heap.size w z P
  apart : ∀ b, z.ownBlock = some b → b ≠ w0.heap.size ∧ v.ownBlock ≠ some b
  bel : Below w0.heap.size w0 w
theorem KS.below {w0 w w' : World} {v z : Value} {l P : List Ent} (h : KS w0 w v l z P) (k : Below w.heap.size w w') : KS w0 w' v l z P :=
  ⟨h.li.below k, h.was.below k, h.apart, h.bel.next k⟩
theorem KS.ln {w0 w : World} {v z : Value} {l P : List Ent} (h : KS w0 w v l z P) : LN (.pointer (some ⟨w0.heap.size, 0, none⟩)) w l := .inr ⟨_, _, v, rfl, h.li⟩
theorem KS.rep {w0 w : World} {v z : Value} {l P m : List Ent} (h : KS w0 w v l z P) (k : Int) (u : Value) (hm : ELie w u m) : Calls Try.prog 17 #[.pointer (some ⟨w0.heap.size, 0, none⟩), .int .i64 k, u] w fun e w' => e = .returned (.int .i64 (rpE l k m)) ∧ ∃ v', KS w0 w' v' (rpL l k m) z P := by
  refine (replace_any k u h.li hm h.bel.size).mono fun e w' ⟨h1, v', h2, h3, h4⟩ => ⟨h1, v', h2, h3.row h.was fun b hb => ⟨(h.apart b hb).1, fun e => (h.apart b hb).2 e.symm⟩, fun b hb => ⟨(h.apart b hb).1, fun e => ?_⟩, h.bel.trans (h3.below (Nat.le_refl _) (fun b hb => (h.li.row.own b hb).1) h.bel.size)⟩
  rcases h4 b e with e' | e'
  · exact (h.apart b hb).2 e'
  · have := (h.was.own b hb).2
    omega
theorem row_upto {B : Nat} {w : World} {ao : Option Addr} {cap : Nat} {l : List Ent} (h : ERow B w (.slice ao l.length cap) l) (k : Nat) (hk : k ≤ l.length) : ∃ u, (∀ wx, (Instr.slice 41 (.slice ao l.length cap) none (some (.int .i64 (k : Int))) none).run Try.prog wx = .ok u wx) ∧ ELie w u (l.take k) := by
  obtain ⟨i0, hi0, hz0, hz1, hz2⟩ := info_parts Try.info25
  have e : Try.prog.elem 41 = 25 := by simp [Program.elem, Try.underlying41]
  have hu : Try.prog.underlying 41 = some (.slice (Try.prog.elem 41)) := by rw [e]; exact Try.underlying41
  obtain ⟨ao', cap', hv, hlc, hcm⟩ := h.len
  cases hv
  refine ⟨sliced ao 0 k cap 9, fun wx => ?_, ?_⟩
  · have := run_slice_h (P := Try.prog) wx 41 ao l.length cap hu .i64 (k : Int) (by omega) (by omega)
    rw [this, e]
    have hsz : (sizeOf 25).run Try.prog wx = .ok 9 wx := by simp [sizeOf, typeInfo, hi0, hz1]
    rw [hsz]
    simp [Result.andThen]
  · rcases row_cut h with ⟨hv, rfl⟩ | ⟨x, c', hv, _, _, hc, _⟩
    · cases hv
      obtain rfl : k = 0 := by simpa using hk
      exact ELie.nil w
    · cases hv
      have := hc k cap hk (by omega) hcm
      unfold sliced
      simp only [Nat.zero_mul, Nat.sub_zero]
      split
      · exact this
      · simpa [Addr.add] using this
theorem row_from {B : Nat} {w : World} {ao : Option Addr} {cap : Nat} {l : List Ent} (h : ERow B w (.slice ao l.length cap) l) (k : Nat) (hk : k ≤ l.length) : ∃ u, (∀ wx, (Instr.slice 41 (.slice ao l.length cap) (some (.int .i64 (k : Int))) none none).run Try.prog wx = .ok u wx) ∧ ELie w u (l.drop k) := by
  obtain ⟨i0, hi0, hz0, hz1, hz2⟩ := info_parts Try.info25
  have e : Try.prog.elem 41 = 25 := by simp [Program.elem, Try.underlying41]
  have hu : Try.prog.underlying 41 = some (.slice (Try.prog.elem 41)) := by rw [e]; exact Try.underlying41
  obtain ⟨ao', cap', hv, hlc, hcm⟩ := h.len
  cases hv
  refine ⟨sliced ao k l.length cap 9, fun wx => ?_, ?_⟩
  · have := run_slice_l (P := Try.prog) wx 41 ao l.length cap hu .i64 (k : Int) (by omega) (by omega)
    rw [this, e]
    have hsz : (sizeOf 25).run Try.prog wx = .ok 9 wx := by simp [sizeOf, typeInfo, hi0, hz1]
    rw [hsz]
    simp [Result.andThen]
  · rcases row_cut h with ⟨hv, rfl⟩ | ⟨x, c', hv, _, _, _, hc⟩
    · cases hv
      obtain rfl : k = 0 := by simpa using hk
      exact ELie.nil w
    · cases hv
      unfold sliced
      by_cases hck : cap = k
      · rw [if_pos hck]
        have : l.drop k = [] := List.drop_of_length_le (by omega)
        rw [this]
        exact ⟨_, cap - k, by rw [show l.length - k = 0 by omega]; rfl, by simp, by omega, fun i hi => by simp at hi⟩
      · rw [if_neg hck]
        have := hc k (cap - k) hk (by omega) (by omega)
        simp only [Option.map_some, add_at, Nat.zero_add]
        exact this
end Go.Proofs.Ytcaedajbkdploaa
