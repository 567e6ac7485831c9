import Derived.Test.YtjphfpfagnhelaaEd
namespace Go.Proofs.Ytjphfpfagnhelaa
open Go.RowKit

theorem ret11 {a : Act} {w : World} {R : Nat} {m : Ent} {n e : Int} {post : Ending → World → Prop} (hb : Box R w m) (h2 : a.tmps.getD 2 undef = .pointer (some ⟨R, 0, none⟩)) (h3 : a.tmps.getD 3 undef = .int .i64 n) (h4 : a.tmps.getD 4 undef = .int .i64 e) (hd : a.defers = []) (hp : post (.returned (.tuple #[m.v, .int .i64 n, .int .i64 e])) w) : bodyPost Try.prog Try.f48 post .ret a w := ret3 rfl hb h2 h3 h4 hd hp
/-- what Decode tells of what was read -/
def decX (x : Ent) (e : Int) : Ent := if e = 0 then (if rgt x then x else Ent.zero) else Ent.zero
def decN (x : Ent) (e n : Int) : Int := if e = 0 then (if rgt x then n else 0) else 0
def decE (x : Ent) (e : Int) : Int := if e = 0 then (if rgt x then 0 else 4) else e
set_option maxRecDepth 100000 in
set_option maxHeartbeats 1000000 in
theorem decode_go (s l : ByteArray) (x : Ent) (e : Int) (hs : s.size ≤ maxLen) (hl : l.size ≤ s.size)
    (HR : ∀ w, Calls Try.prog 62 #[.string s] w fun y w' => y = .returned (.tuple #[x.v, .int .i64 l.size, .int .i64 e]) ∧ Below w.heap.size w w') (w : World) :
    Calls Try.prog 48 #[.string s] w fun y w' => y = .returned (.tuple #[(decX x e).v, .int .i64 (decN x e ((s.size : Int) - (l.size : Int))), .int .i64 (decE x e)]) ∧ Below w.heap.size w w' := by
  have HK := hid (isRight_any x)
  replace HR := hid HR
  unfold maxLen at hs
  obtain ⟨V, C, R, K, A, N, p, t, d⟩ := x
  have hB0 : Box w.heap.size (w.alloc (.cells #[.int .i64 0, .int .i64 0, .int .i64 0, .int .i64 0, .int .i64 0, .int .i64 0, .string ⟨#[]⟩, .string ⟨#[]⟩, .string ⟨#[]⟩] 54)) Ent.zero := box_at _ _
  have HB0 := hid hB0
  clear hB0
  by_cases he : e = 0
  · subst he
    cases hri : rgt ⟨V, C, R, K, A, N, p, t, d⟩ with
    | true =>
      rw [hri] at HK
      have HX : Hid (decX ⟨V, C, R, K, A, N, p, t, d⟩ 0 = ⟨V, C, R, K, A, N, p, t, d⟩ ∧ decN ⟨V, C, R, K, A, N, p, t, d⟩ 0 ((s.size : Int) - (l.size : Int)) = (s.size : Int) - (l.size : Int) ∧ decE ⟨V, C, R, K, A, N, p, t, d⟩ 0 = 0) := by
        unfold decX decN decE; rw [hri]; exact ⟨rfl, rfl, rfl⟩
      rw [HX.out.1, HX.out.2.1, HX.out.2.2]
      clear hri HX
      simp only [Ent.v] at HR HK
      go_enter Try.func48, Try.ntmps48
      go_wp2_with (first
        | (go_at_call 62; refine (HR.out _).mono ?_; rintro v w1 ⟨rfl, b1⟩; have HB1 := hid (HB0.out.below b1 (by simp)); have HL1 : Hid (Below w.heap.size w w1) := hid ((below_alloc w _).next b1); clear b1 HR)
        | (go_at_call 63; refine (HK.out _).mono ?_; rintro v w2 ⟨rfl, b2⟩; have HB2 := hid ((HB1.out.below (below_alloc w1 _) HB1.out.lt).below b2 (by have := HB1.out.lt; simp; omega)); have HQ2 : Hid (Box w1.heap.size w2 ⟨V, C, R, K, A, N, p, t, d⟩) := hid ((show Box w1.heap.size _ ⟨V, C, R, K, A, N, p, t, d⟩ from box_at w1 _).below b2 (by simp)); have HL2 : Hid (Below w.heap.size w w2) := hid ((HL1.out.next (below_alloc w1 _)).next b2); clear b2 HK; obtain ⟨c0, c1, c2, c3, c4, c5, c6, c7, c8⟩ := HQ2.out.cells)
        | ((with_reducible refine at_store25 w.heap.size Ent.zero ⟨V, C, R, K, A, N, p, t, d⟩ ?_ ?_ HB2.out ?_); rfl; rfl; intro wr hBr hkr))
      exact ret11 hBr rfl rfl rfl rfl ⟨rfl, HL2.out.trans (hkr.below HL2.out.size (Nat.le_refl _))⟩
    | false =>
      rw [hri] at HK
      have HX : Hid (decX ⟨V, C, R, K, A, N, p, t, d⟩ 0 = Ent.zero ∧ decN ⟨V, C, R, K, A, N, p, t, d⟩ 0 ((s.size : Int) - (l.size : Int)) = 0 ∧ decE ⟨V, C, R, K, A, N, p, t, d⟩ 0 = 4) := by
        unfold decX decN decE; rw [hri]; exact ⟨rfl, rfl, rfl⟩
      rw [HX.out.1, HX.out.2.1, HX.out.2.2]
      clear hri HX
      simp only [Ent.v] at HR HK
      go_enter Try.func48, Try.ntmps48
      go_wp2_with (first
        | (go_at_call 62; refine (HR.out _).mono ?_; rintro v w1 ⟨rfl, b1⟩; have HB1 := hid (HB0.out.below b1 (by simp)); have HL1 : Hid (Below w.heap.size w w1) := hid ((below_alloc w _).next b1); clear b1 HR)
        | (go_at_call 63; refine (HK.out _).mono ?_; rintro v w2 ⟨rfl, b2⟩; have HB2 := hid ((HB1.out.below (below_alloc w1 _) HB1.out.lt).below b2 (by have := HB1.out.lt; simp; omega)); have HL2 : Hid (Below w.heap.size w w2) := hid ((HL1.out.next (below_alloc w1 _)).next b2); clear b2 HK)
        | ((with_reducible refine at_store25 w.heap.size Ent.zero Ent.zero ?_ ?_ HB2.out ?_); rfl; rfl; intro wr hBr hkr))
      exact ret11 hBr rfl rfl rfl rfl ⟨rfl, HL2.out.trans (hkr.below HL2.out.size (Nat.le_refl _))⟩
  · have HX : Hid (decX ⟨V, C, R, K, A, N, p, t, d⟩ e = Ent.zero ∧ decN ⟨V, C, R, K, A, N, p, t, d⟩ e ((s.size : Int) - (l.size : Int)) = 0 ∧ decE ⟨V, C, R, K, A, N, p, t, d⟩ e = e) := by
      unfold decX decN decE; rw [if_neg he, if_neg he, if_neg he]; exact ⟨rfl, rfl, rfl⟩
    rw [HX.out.1, HX.out.2.1, HX.out.2.2]
    have he' : (e != 0) = true := by simp [he]
    clear HX he
    simp only [Ent.v] at HR HK
    go_enter Try.func48, Try.ntmps48
    go_wp2_with (first
      | (go_at_call 62; refine (HR.out _).mono ?_; rintro v w1 ⟨rfl, b1⟩; have HB1 := hid (HB0.out.below b1 (by simp)); have HL1 : Hid (Below w.heap.size w w1) := hid ((below_alloc w _).next b1); clear b1 HR)
      | ((with_reducible refine at_store25 w.heap.size Ent.zero Ent.zero ?_ ?_ (HB1.out.below (below_alloc w1 _) HB1.out.lt) ?_); rfl; rfl; intro wr hBr hkr))
    exact ret11 hBr rfl rfl rfl rfl ⟨rfl, (HL1.out.next (below_alloc w1 _)).trans (hkr.below (HL1.out.next (below_alloc w1 _)).size (Nat.le_refl _))⟩
end Go.Proofs.Ytjphfpfagnhelaa
