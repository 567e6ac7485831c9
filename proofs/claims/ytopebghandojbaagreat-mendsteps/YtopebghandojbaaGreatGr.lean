import Derived.Test.YtopebghandojbaaGreatGp
import Derived.Test.YtopebghandojbaaGreatGh
import Derived.Test.YtopebghandojbaaGreatGm
import Derived.Deep.CutBlock
import Derived.Deep.CutRange
import Derived.Deep.DeepCutAuto
import Derived.Deep.LoopGhost
import Derived.Deep.RegionHeld3
import Derived.BigQuiet
namespace Go.Proofs.YtopebghandojbaaGreat
open Go.RowKit Go.Maps

theorem good_one {x y z a : Nat} {f : Nat → Option ByteArray} {st : Nat → ByteArray} (hy : 8 ≤ y) (h : GoodD x y z f 0 1 [] st) (ha : y < a) (dd : ByteArray) (hd : dd.size = 128) : GoodD x y z (one f a dd) 0 1 [] (fun k => if k = a then dd else st k) := by
  refine ⟨?_, ?_, h.tl, h.f1, h.fe, (fun L hL => by cases hL), h.us, rfl, ?_, ?_⟩
  · rw [val_one, if_neg (by omega)]; exact h.su
  · rw [val_one, if_neg (by omega)]; exact h.hd
  · intro k k1 k2
    show val _ k = _
    rw [val_one]
    by_cases e : k = a
    · rw [if_pos e, if_pos e]
    · rw [if_neg e, if_neg e]; exact h.hm k k1 k2
  · intro k
    rw [val_one]
    split
    · exact hd
    · exact h.sz k
theorem goodB {x y z : Nat} (hy : 8 ≤ y) : ∀ (L : List Chg) (f : Nat → Option ByteArray) (st : Nat → ByteArray), (∀ c ∈ L, (y : Int) < c.b ∧ c.d.size = 128) → GoodD x y z f 0 1 [] st → ∃ st', GoodD x y z (Dv.seen f (qsB L)) 0 1 [] st'
  | [], f, st, _, h => ⟨st, h⟩
  | c :: L, f, st, hm, h => by
    obtain ⟨h1, h2⟩ := hm c (List.mem_cons_self ..)
    have e : Dv.seen f (qsB (c :: L)) = Dv.seen (one f c.b.toNat c.d) (qsB L) := seen_cons _ _ _ h2
    rw [e]
    exact goodB hy L _ _ (fun k hk => hm k (List.mem_cons_of_mem _ hk)) (good_one hy h (by omega) c.d h2)
theorem good_fmtB (x y z : Nat) (h : Sh.okS x y z) (L : List Chg) (h9 : r9 x y (-1) L = true) : ∃ st, GoodD x y z (fmtB x y z L) 0 1 [] st := by
  have hy := h.1.2.1
  have hm := r9_mem x y L _ h9
  exact goodB (by omega) L _ _ (fun c hc => ⟨(hm c hc).1, (hm c hc).2.2⟩) (good_format x y z h)
/-- the program's Open of a formatted device -/
theorem pr_open {N0 B g N : Nat} {f : Nat → Option ByteArray} {fp : List Nat} {st : Nat → ByteArray} (x y z : Nat) (h : Sh.okS x y z) (hG : GoodD x y z f 0 1 [] st) (w : World) (hD : Dv.DIs B g w N ⟨x, f, []⟩ fp) (hN : N0 ≤ B) (hB : B ≤ w.heap.size) :
    Calls Tryz.prog 11 #[.pointer (some ⟨g, 0, none⟩)] w fun e w' => ∃ s j m, e = .returned (.tuple #[.pointer (some ⟨s, 0, none⟩), .int .i64 0]) ∧ PR N0 (fun b => b ∈ fp ∨ (w.heap.size ≤ b ∧ b < w'.heap.size)) s g x y z j m w' ⟨f, [], [], [], 0⟩ [] 0 1 [] ∧ Below w.heap.size w w' := by
  have hfl := hD.lo
  refine (open_good (S := ⟨x, f, []⟩) x y z h rfl hG w hD).mono ?_
  rintro e w' ⟨s, j, m, r, B1, rfl, ⟨⟨av, k1, k2⟩, k3, k4⟩, k5, k6, b0, b1, b2, b3, b4, d1, d2, d3, d4, kb⟩
  have ha : mendA y 0 1 [] = [] := rfl
  have hb : (0 + used []) % (y - 1) = 0 := Nat.zero_mod _
  have hc : ((1 : Nat) : Int) + (([] : List (List Chg)).length : Nat) - 1 = 0 := rfl
  rw [ha] at k2
  rw [hc] at k1
  rw [hb] at k5
  obtain ⟨ao, rfl⟩ : ∃ ao, av = .slice ao 0 0 := by
    rcases k2 with ⟨_, k2⟩ | ⟨k0, _⟩
    · exact k2
    · exact absurd rfl k0
  have hz := kb.size
  have hsl := k1.lt
  have hml := k6.lt
  have hjl := k5.lt
  refine ⟨s, j, m, rfl, ⟨⟨.slice ao 0 0, .slice none 0 0, N, B, fp, r, k1, k2.lie, fun _ => ⟨ao, rfl⟩, hD.below kb, by omega, CLie.nil _, k5, fun hm => by have := (hfl _ hm).2; omega, fun hm => by have := (hfl _ hm).2; omega, fun hm => by have := (hfl _ hm).2; omega, fun b hb => ?_, fun hA => absurd rfl hA, fun b hb => (by cases hb), fun b hb => .inl hb⟩, k6, Sml.nil, ⟨Sml.nil, by simp⟩, d1, d2, d3, .inr ⟨by omega, by omega⟩, .inr ⟨by omega, by omega⟩, .inr ⟨by omega, by omega⟩, fun b hb => ?_, fun b hb => ?_⟩, kb⟩
  · have := b3 b hb
    have h2 := (hjl.2 b hb).1
    obtain ⟨a1, a2, a3⟩ := d4 b hb
    exact ⟨fun hm => by have := (hfl _ hm).2; omega, a1, a2, a3, .inr ⟨by omega, by omega⟩⟩
  · rcases hb with e | e
    · have := (hfl b e).1; omega
    · omega
  · rcases hb with e | e
    · have := (hfl b e).2; omega
    · omega
/-- the document's Open of a formatted device -/
theorem rr_open {N0 B d : Nat} {f : Nat → Option ByteArray} {fp : List Nat} {st : Nat → ByteArray} (x y z : Nat) (h : Sh.okS x y z) (hG : GoodD x y z f 0 1 [] st) (w : World) (hD : Dv.XD B d w x f [] fp) (hN : N0 ≤ B) (hB : B ≤ w.heap.size) :
    Calls Tryz.prog 12 #[.pointer (some ⟨d, 0, none⟩)] w fun e w' => ∃ s j, e = .returned (.tuple #[.pointer (some ⟨s, 0, none⟩), .int .i64 0]) ∧ RR N0 (fun b => b ∈ fp ∨ (w.heap.size ≤ b ∧ b < w'.heap.size)) s d x y z j w' ⟨f, [], [], [], 0⟩ [] 0 1 [] ∧ Below w.heap.size w w' := by
  have hfl := hD.lo
  refine (ropen_fmt x y z h hG.su hG.hd hG.sz w hD).mono ?_
  rintro e w' ⟨s, j, r, rfl, k1, k2, k3, k4, k5, kb⟩
  obtain ⟨fp', g1, g2, _, g4⟩ := (hD.below kb).tight
  have hz := kb.size
  have hsl := k1.lt
  have hjl := k2.lt
  refine ⟨s, j, rfl, ⟨⟨.slice none 0 0, .slice none 0 0, .slice none 0 0, B, fp', r, [], [], k1, RRow.nil _, CLie.nil _, CLie.nil _, .inl rfl, g2, by omega, k2, rfl, fun b hb => (by cases hb), fun b hb => .inr ⟨k5 b hb, (hjl.2 b hb).1⟩, fun b hb => .inl (g1 b hb), g4, fun b hb => (by cases hb), fun hn => absurd rfl hn⟩, .inr ⟨by omega, by omega⟩, .inr ⟨by omega, by omega⟩, fun b hb => ?_, fun b hb => ?_, trivial, Sml.nil, ⟨Sml.nil, by simp⟩⟩, kb⟩
  · rcases hb with e | e
    · have := (hfl b e).1; omega
    · omega
  · rcases hb with e | e
    · have := (hfl b e).2; omega
    · omega
/-- both are opened -/
theorem both_open {N0 q BP BR g d N : Nat} {f : Nat → Option ByteArray} {fpP fpR : List Nat} {st : Nat → ByteArray} (x y z : Nat) (h : Sh.okS x y z) (hG : GoodD x y z f 0 1 [] st) (w : World) (hP : Dv.DIs BP g w N ⟨x, f, []⟩ fpP) (hR : Dv.XD BR d w x f [] fpR) (n1 : N0 ≤ BP) (n2 : BP ≤ w.heap.size) (n3 : N0 ≤ BR) (n4 : BR ≤ w.heap.size) (hd : ∀ b ∈ fpP, b ∉ fpR) (hq : q < N0) :
    Calls Tryz.prog 11 #[.pointer (some ⟨g, 0, none⟩)] w fun e w1 => ∃ s jp m, e = .returned (.tuple #[.pointer (some ⟨s, 0, none⟩), .int .i64 0]) ∧ Below w.heap.size w w1 ∧ Hid (∀ w2, Below w1.heap.size w1 w2 → Calls Tryz.prog 12 #[.pointer (some ⟨d, 0, none⟩)] w2 fun e w3 => ∃ r j, e = .returned (.tuple #[.pointer (some ⟨r, 0, none⟩), .int .i64 0]) ∧ Both N0 q s g jp m r d x y z j 1 w3 [] ∧ Below w2.heap.size w2 w3) := by
  have hlP := hP.lo
  have hlR := hR.lo
  have hy := h.1.2.1
  refine (pr_open x y z h hG w hP n1 n2).mono ?_
  rintro e w1 ⟨s, jp, m, rfl, k1, kb⟩
  refine ⟨s, jp, m, rfl, kb, hid fun w2 kb2 => ?_⟩
  have hz1 := kb.size
  have hz2 := kb2.size
  refine (rr_open x y z h hG w2 (hR.below (kb.next kb2)) n3 (by omega)).mono ?_
  rintro e w3 ⟨r, j, rfl, k3, kb3⟩
  refine ⟨r, j, rfl, ⟨_, _, ⟨f, [], [], [], 0⟩, 0, 1, [], (k1.below kb2).below kb3, k3, fun b hb hm => ?_, fun b hb => ?_, ⟨⟨st, trivial, f, [], hG, rfl, rfl, rfl⟩, ⟨(fun q hq => by cases hq), by simp⟩, by simp, Int.le_refl _, by simp, by simp⟩⟩, kb3⟩
  · rcases hb with e | e
    · rcases hm with e2 | e2
      · exact hd b e e2
      · have := (hlP b e).2; omega
    · rcases hm with e2 | e2
      · have := (hlR b e2).2; omega
      · omega
  · rcases hb with e | e
    · have := k1.lo b e; omega
    · have := k3.lo b e; omega
section
variable {N0 q s g jp m r d x y z j n : Nat} {w w' : World} {A : List AT}
/-- what both say when a block is read -/
theorem Both.reads (h : Both N0 q s g jp m r d x y z j n w A) (k : Int) (hk : inI k) : ∃ (a b : ByteArray) (c e : Int), (∀ w', Below w.heap.size w w' → Calls Tryz.prog 23 #[.pointer (some ⟨s, 0, none⟩), .int .i64 k] w' fun r w'' => r = .returned (.tuple #[.string a, .int .i64 c]) ∧ Below w'.heap.size w' w'') ∧ (∀ w', Below w.heap.size w w' → Calls Tryz.prog 24 #[.pointer (some ⟨r, 0, none⟩), .int .i64 k] w' fun r w'' => r = .returned (.tuple #[.string a, .int .i64 c]) ∧ Below w'.heap.size w' w'') ∧
    (∀ w', Below w.heap.size w w' → Calls Tryz.prog 25 #[.pointer (some ⟨g, 0, none⟩), .int .i64 k] w' fun r w'' => r = .returned (.tuple #[.string b, .int .i64 e]) ∧ Below w'.heap.size w' w'') ∧ (∀ w', Below w.heap.size w w' → Calls Tryz.prog 26 #[.pointer (some ⟨d, 0, none⟩), .int .i64 k] w' fun r w'' => r = .returned (.tuple #[.string b, .int .i64 e]) ∧ Below w'.heap.size w' w'') := by
  obtain ⟨MP, MR, σ, T, F, l, h1, h2, h3, h4, h5⟩ := h
  have hQ := h5.qok.2
  exact ⟨_, _, _, _, fun w' kb => (h1.below kb).read k hk, fun w' kb => (h2.below kb).read k (by omega), fun w' kb => (h1.below kb).dread k, fun w' kb => (h2.below kb).dread k (by omega)⟩
/-- what both say of their count, of being busy, of what waits -/
theorem Both.says (h : Both N0 q s g jp m r d x y z j n w A) : ∃ (c : Int) (k : Nat) (ao qo : Option Addr) (ac qc : Nat), k ≤ 1000000 ∧ A.length ≤ 1000 ∧ r < w.heap.size ∧ d < w.heap.size ∧ inI c ∧ (∀ w', Below w.heap.size w w' → Calls Tryz.prog 20 #[.pointer (some ⟨s, 0, none⟩)] w' fun e w'' => e = .returned (.int .i64 c) ∧ w'' = w') ∧ (∀ w', Below w.heap.size w w' → Calls Tryz.prog 21 #[.pointer (some ⟨s, 0, none⟩)] w' fun e w'' => e = .returned (.bool (decide (0 < A.length))) ∧ w'' = w') ∧ (∀ w', Below w.heap.size w w' → Calls Tryz.prog 22 #[.pointer (some ⟨g, 0, none⟩)] w' fun e w'' => e = .returned (.int .i64 k) ∧ w'' = w') ∧
    w.cell? ⟨r, 8, none⟩ = some (.int .i64 c) ∧ w.cell? ⟨r, 7, none⟩ = some (.slice ao A.length ac) ∧ w.cell? ⟨d, 1, none⟩ = some (.slice qo k qc) := by
  obtain ⟨MP, MR, σ, T, F, l, h1, h2, h3, h4, h5⟩ := h
  have hQ := h5.qok.2
  have hlen := h5.len
  have c0 := h5.c0
  have c1 := h5.c1
  obtain ⟨ov, nv, av, B, fp, r', vs, U, a1, a2, _, _, _, a6, _⟩ := h2.ex
  obtain ⟨_, _, _, _, _, _, _, d7, d8⟩ := a1.cells
  obtain ⟨ao, ac, hve, _⟩ := a2.len
  subst hve
  obtain ⟨L, ⟨⟨bl, qv, x1, _, x3, _⟩, _⟩, _⟩ := a6
  have hqv : ∃ qo qc, qv = .slice qo σ.Q.length qc := by
    obtain ⟨_, e2 | ⟨b, cap, cur, e3, _⟩⟩ := x3
    · exact ⟨none, 0, by rw [e2.1, e2.2]⟩
    · exact ⟨_, _, e3⟩
  obtain ⟨qo, qc, rfl⟩ := hqv
  exact ⟨σ.c, σ.Q.length, ao, qo, ac, qc, by omega, hlen, a1.lt, lt_of_block x1, by unfold inI; omega, fun w' kb => (h1.below kb).count, fun w' kb => (h1.below kb).busy, fun w' kb => (h1.below kb).waits, d8, d7, (two_cells x1).2⟩
end
end Go.Proofs.YtopebghandojbaaGreat
namespace Go.Proofs.YtopebghandojbaaGreat
open Go.RowKit Go.Maps

/-- a list of steps as an argument lays it -/
def TLie (w : World) (v : Value) (S : List (Int × Value × List Chg)) : Prop :=
  ∃ ao cap, v = .slice ao S.length cap ∧ S.length ≤ cap ∧ cap ≤ maxLen ∧ ∀ i (hi : i < S.length), ∃ gb off, ao = some ⟨gb, off, none⟩ ∧ gb < w.heap.size ∧ w.cell? ⟨gb, off + i * 2, none⟩ = some (.int .i64 S[i].1) ∧ w.cell? ⟨gb, off + i * 2 + 1, none⟩ = some S[i].2.1 ∧ CLie w S[i].2.1 S[i].2.2
theorem Fq.lo {N0 q : Nat} {w w' : World} (h : Fq N0 q w w') (hN : N0 ≤ w.heap.size) : Below N0 w w' := Keep.below h hN (fun _ hb => hb.1)
theorem CLie.blk2 {w : World} {v : Value} {L : List Chg} (h : CLie w v L) (hn : L ≠ []) : ∀ b, v.ownBlock = some b → b < w.heap.size := by
  obtain ⟨ao, cap, rfl, _, _, h3⟩ := h
  obtain ⟨gb, off, rfl, hg, _⟩ := h3 0 (List.length_pos_iff.2 hn)
  intro b hb
  cases hb
  exact hg
/-- a step of both, be it one or none -/
theorem Both.step2 {N0 q s g jp m r d x y z j n : Nat} {w : World} {A : List AT} (hok : Sh.okS x y z) (h : Both N0 q s g jp m r d x y z j n w A) (hq : q < w.heap.size) :
    ∃ (b : Bool) (c : Int) (A' : List AT), Calls Tryz.prog 18 #[.pointer (some ⟨s, 0, none⟩)] w fun e w1 => e = .returned (.tuple #[.bool b, .int .i64 c]) ∧ Fq N0 q w w1 ∧ Hid (∀ w2, Below w1.heap.size w1 w2 → Calls Tryz.prog 19 #[.pointer (some ⟨r, 0, none⟩)] w2 fun e w3 => e = .returned (.tuple #[.bool b, .int .i64 c]) ∧ Both N0 q s g jp m r d x y z j n w3 A' ∧ Fq N0 q w2 w3) := by
  match A, h with
  | [], h => exact ⟨_, _, [], h.step0⟩
  | a :: A, h => exact ⟨_, _, A, h.step hok hq⟩
theorem Both.step3 {N0 q s g jp m r d x y z j n : Nat} {w : World} {A : List AT} (hok : Sh.okS x y z) (h : Both N0 q s g jp m r d x y z j n w A) (hq : q < w.heap.size) :
    Calls Tryz.prog 18 #[.pointer (some ⟨s, 0, none⟩)] w fun e w1 => ∃ (b : Bool) (c : Int) (A' : List AT), (b != b) = false ∧ (c != c) = false ∧ e = .returned (.tuple #[.bool b, .int .i64 c]) ∧ Fq N0 q w w1 ∧ Hid (∀ w2, Below w1.heap.size w1 w2 → Calls Tryz.prog 19 #[.pointer (some ⟨r, 0, none⟩)] w2 fun e w3 => e = .returned (.tuple #[.bool b, .int .i64 c]) ∧ Both N0 q s g jp m r d x y z j n w3 A' ∧ Fq N0 q w2 w3) := by
  obtain ⟨b, c, A', h2⟩ := h.step2 hok hq
  refine h2.mono ?_
  rintro e w1 ⟨rfl, k1, k2⟩
  exact ⟨b, c, A', by simp, by simp, rfl, k1, k2⟩
theorem Both.commit2 {N0 q s g jp m r d x y z j n : Nat} {w : World} {A : List AT} (hok : Sh.okS x y z) (hn : n ≤ 10000) (h : Both N0 q s g jp m r d x y z j n w A) (hq : q < w.heap.size) (v : Value) (L : List Chg) (hL : CLie w v L) (hv : L ≠ [] → ∀ b, v.ownBlock = some b → b < N0) :
    Calls Tryz.prog 14 #[.pointer (some ⟨s, 0, none⟩), v] w fun e w1 => ∃ (c : Int) (A' : List AT) (n' : Nat), n' ≤ n + 1 ∧ (c != c) = false ∧ e = .returned (.int .i64 c) ∧ Fq N0 q w w1 ∧ Hid (∀ w2, Below w1.heap.size w1 w2 → Calls Tryz.prog 15 #[.pointer (some ⟨r, 0, none⟩), v] w2 fun e w3 => e = .returned (.int .i64 c) ∧ Both N0 q s g jp m r d x y z j n' w3 A' ∧ Fq N0 q w2 w3) := by
  obtain ⟨c, A', n', h1, h2⟩ := h.commit hok hn hq v L hL hv
  refine h2.mono ?_
  rintro e w1 ⟨rfl, k1, k2⟩
  exact ⟨c, A', n', h1, by simp, rfl, k1, k2⟩
theorem Both.check2 {N0 q s g jp m r d x y z j n : Nat} {w : World} {A : List AT} (hok : Sh.okS x y z) (hn : n ≤ 10000) (h : Both N0 q s g jp m r d x y z j n w A) (hq : q < w.heap.size) :
    Calls Tryz.prog 16 #[.pointer (some ⟨s, 0, none⟩)] w fun e w1 => ∃ (c : Int) (A' : List AT), (c != c) = false ∧ e = .returned (.int .i64 c) ∧ Fq N0 q w w1 ∧ Hid (∀ w2, Below w1.heap.size w1 w2 → Calls Tryz.prog 17 #[.pointer (some ⟨r, 0, none⟩)] w2 fun e w3 => e = .returned (.int .i64 c) ∧ Both N0 q s g jp m r d x y z j n w3 A' ∧ Fq N0 q w2 w3) := by
  obtain ⟨c, A', h2⟩ := h.check hok hn hq
  refine h2.mono ?_
  rintro e w1 ⟨rfl, k1, k2⟩
  exact ⟨c, A', by simp, rfl, k1, k2⟩
set_option maxRecDepth 100000 in
set_option maxHeartbeats 1500000 in
theorem steps_bad {W : World} (x y z : Int) (v sv : Value) (c : Int) (hc : c ≠ 0) (hF : ∀ w', Below W.heap.size W w' → Calls Tryz.prog 8 #[.agg #[.int .i64 x, .int .i64 y, .int .i64 z], v] w' fun e w'' => e = .returned (.tuple #[.pointer none, .int .i64 c]) ∧ Below w'.heap.size w' w'') (hR : ∀ w', Below W.heap.size W w' → Calls Tryz.prog 9 #[.agg #[.int .i64 x, .int .i64 y, .int .i64 z], v] w' fun e w'' => e = .returned (.tuple #[.pointer none, .int .i64 c]) ∧ Below w'.heap.size w' w'') :
    Calls Tryz.prog 3 #[.agg #[.int .i64 x, .int .i64 y, .int .i64 z], v, sv] W fun e w' => e = .returned (.bool true) ∧ Below W.heap.size W w' := by
  have HF := hid hF
  have HR := hid hR
  have HS := hid speaks_any
  have HB := hid (below_alloc W (.cells #[.int .i64 x, .int .i64 y, .int .i64 z] 23))
  obtain ⟨a0, a1, a2⟩ := three_cells (box_at W (.cells #[.int .i64 x, .int .i64 y, .int .i64 z] 23))
  have hz : W.heap.size < (W.alloc (.cells #[.int .i64 x, .int .i64 y, .int .i64 z] 23)).heap.size := by simp
  have HX := hid (box_at W (.cells #[.int .i64 x, .int .i64 y, .int .i64 z] 23))
  clear hF hR
  go_enter Tryz.func3, Tryz.ntmps3
  go_wp2_with (first
    | (go_at_call 8; refine (HF.out _ HB.out).mono ?_; rintro e w1 ⟨rfl, hb1⟩
       have HB1 := hid (HB.out.next hb1)
       obtain ⟨b0, b1, b2⟩ := three_cells ((hb1.block _ hz).trans HX.out))
    | (go_at_call 9; refine (HR.out _ HB1.out).mono ?_; rintro e w2 ⟨rfl, hb2⟩)
    | (go_at_call 10; refine (HS.out _).mono ?_; rintro e w3 ⟨rfl, hb3⟩))
  go_ret
  exact ⟨rfl, (HB1.out.next hb2).next hb3⟩
end Go.Proofs.YtopebghandojbaaGreat
