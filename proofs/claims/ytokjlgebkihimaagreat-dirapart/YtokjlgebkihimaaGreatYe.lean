import Derived.Test.YtokjlgebkihimaaGreatYd
namespace Go.Proofs.YtokjlgebkihimaaGreat
open Go.RowKit Go.Maps Go.Shelf

/-- two views in memory, apart -/
structure TV (W : World) (p q cap p' q' cap' : Nat) (B B' : List ByteArray) (wr : World) : Prop where
  ex : ∃ m m', VI sG p q cap m wr sF B ∧ VI sG p' q' cap' m' wr sF B' ∧ m ≠ m' ∧ W.heap.size ≤ m ∧ W.heap.size ≤ m'
  ne : p ≠ p'
  lo : W.heap.size ≤ p ∧ W.heap.size ≤ p'
  bel : Below W.heap.size W wr
theorem TV.swap {W : World} {p q cap p' q' cap' : Nat} {B B' : List ByteArray} {wr : World} (h : TV W p q cap p' q' cap' B B' wr) : TV W p' q' cap' p q cap B' B wr := by
  obtain ⟨m, m', h1, h2, h3, h4, h5⟩ := h.ex
  exact ⟨⟨m', m, h2, h1, fun e => h3 e.symm, h5, h4⟩, fun e => h.ne e.symm, ⟨h.lo.2, h.lo.1⟩, h.bel⟩
theorem TV.next {W : World} {p q cap p' q' cap' : Nat} {B B' : List ByteArray} {wr w2 : World} (h : TV W p q cap p' q' cap' B B' wr) (k : Below wr.heap.size wr w2) : TV W p q cap p' q' cap' B B' w2 := by
  obtain ⟨m, m', h1, h2, h3, h4, h5⟩ := h.ex
  exact ⟨⟨m, m', h1.below k, h2.below k, h3, h4, h5⟩, h.ne, h.lo, h.bel.next k⟩
theorem VI.qp {G : Geo} {p q cap m p' q' cap' m' : Nat} {w : World} {F B F' B' : List ByteArray} (h : VI G p q cap m w F B) (h' : VI G p' q' cap' m' w F' B') : q' ≠ p := by
  rintro rfl
  have h0 : 0 < F'.length := by have := h'.fl; have := h'.ok.sum; have := h'.ok.c4; omega
  have h1 := h'.row 0 h0
  have h2 := h.cell 0
  rw [h2] at h1
  simp [vwC] at h1
theorem VI.apm {G : Geo} {p q cap m p' q' cap' m' : Nat} {w : World} {F B F' B' : List ByteArray} (h : VI G p q cap m w F B) (h' : VI G p' q' cap' m' w F' B') : p' ≠ m ∧ q' ≠ m := by
  obtain ⟨M, hM, _⟩ := h.map
  obtain ⟨es, c, e⟩ := hM.isMap
  constructor
  · rintro rfl
    rw [h'.own] at e; cases e
  · rintro rfl
    have h0 : 0 < F'.length := by have := h'.fl; have := h'.ok.sum; have := h'.ok.c4; omega
    have := h'.row 0 h0
    simp [World.cell?, e] at this
theorem TV.one {W : World} {p q cap p' q' cap' m m' : Nat} {B B1 B' : List ByteArray} {wr w2 : World} (h : TV W p q cap p' q' cap' B B' wr) (h1 : VI sG p q cap m wr sF B) (h2 : VI sG p' q' cap' m' wr sF B') (h3 : m ≠ m') (h4 : W.heap.size ≤ m) (h5 : W.heap.size ≤ m') (k : VPd p q cap m B1 wr w2) : TV W p q cap p' q' cap' B1 B' w2 := by
  obtain ⟨m1, hv, ho, hm⟩ := k
  have hs := h.bel.size
  have a1 := h1.apm h2
  have a2 := h1.qp h2
  have a3 := h2.apm h1
  have hml := h2.ml
  refine ⟨⟨m1, m', hv, h2.only ho ?_ ?_ ?_, by omega, by omega, h5⟩, h.ne, h.lo, h.bel.trans (ho.below hs ?_)⟩
  · simp; exact ⟨fun e => h.ne e.symm, a1.1⟩
  · simp; exact ⟨a2, a1.2⟩
  · simp; exact ⟨fun e => a3.1 e.symm, fun e => h3 e.symm⟩
  · intro x hx
    simp at hx
    rcases hx with rfl | rfl
    · exact h.lo.1
    · exact h4
theorem put_t1 {W w1 : World} {p q cap p' q' cap' : Nat} {B B' : List ByteArray} {i : Nat} {S : List (List UInt8)} (t : ByteArray) (tn : Int) (h : TV W p q cap p' q' cap' B B' w1) (H : TI sG B) (f : FD B i S) (hi : i < 8) (hl : S.length < 400) :
    ∃ r B1 S1, PutR B i S t tn r B1 S1 ∧ Calls Tryz.prog 11 #[.pointer (some ⟨p, 0, none⟩), .int .i64 (i : Int), .string t, .int .i64 tn] w1 fun e w' => e = .returned (.int .i64 r) ∧ TV W p q cap p' q' cap' B1 B' w' ∧ KT 40 w1 w' := by
  obtain ⟨m, m', h1, h2, h3, h4, h5⟩ := h.ex
  obtain ⟨r, B1, S1, k1, k2⟩ := put_dir (i := i) t tn H f hi hl h1
  exact ⟨r, B1, S1, k1, k2.mono fun e w' ⟨g1, g2⟩ => ⟨g1, h.one h1 h2 h3 h4 h5 g2, g2.kt (by decide) h1⟩⟩
theorem put_t2 {W w1 : World} {p q cap p' q' cap' : Nat} {B B' : List ByteArray} {i : Nat} {S : List (List UInt8)} (t : ByteArray) (tn : Int) (h : TV W p q cap p' q' cap' B B' w1) (H : TI sG B') (f : FD B' i S) (hi : i < 8) (hl : S.length < 400) :
    ∃ r B1 S1, PutR B' i S t tn r B1 S1 ∧ Calls Tryz.prog 11 #[.pointer (some ⟨p', 0, none⟩), .int .i64 (i : Int), .string t, .int .i64 tn] w1 fun e w' => e = .returned (.int .i64 r) ∧ TV W p q cap p' q' cap' B B1 w' ∧ KT 40 w1 w' := by
  obtain ⟨r, B1, S1, k1, k2⟩ := put_t1 t tn h.swap H f hi hl
  exact ⟨r, B1, S1, k1, k2.mono fun e w' ⟨g1, g2, g3⟩ => ⟨g1, g2.swap, g3⟩⟩
theorem take_t1 {W w1 : World} {p q cap p' q' cap' : Nat} {B B' : List ByteArray} {i : Nat} {S : List (List UInt8)} (t : ByteArray) (h : TV W p q cap p' q' cap' B B' w1) (H : TI sG B) (f : FD B i S) (hi : i < 8) (hl : S.length < 400) :
    ∃ B1 S1, TakR B i S t B1 S1 ∧ Calls Tryz.prog 13 #[.pointer (some ⟨p, 0, none⟩), .int .i64 (i : Int), .string t] w1 fun e w' => e = .returned (.tuple #[.int .i64 (tkN S t : Int), .int .i64 (tkE S t)]) ∧ TV W p q cap p' q' cap' B1 B' w' ∧ KT 40 w1 w' := by
  obtain ⟨m, m', h1, h2, h3, h4, h5⟩ := h.ex
  obtain ⟨B1, S1, k1, k2⟩ := take_dir (i := i) t H f hi hl h1
  exact ⟨B1, S1, k1, k2.mono fun e w' ⟨g1, g2⟩ => ⟨g1, h.one h1 h2 h3 h4 h5 g2, g2.kt (by decide) h1⟩⟩
theorem take_t2 {W w1 : World} {p q cap p' q' cap' : Nat} {B B' : List ByteArray} {i : Nat} {S : List (List UInt8)} (t : ByteArray) (h : TV W p q cap p' q' cap' B B' w1) (H : TI sG B') (f : FD B' i S) (hi : i < 8) (hl : S.length < 400) :
    ∃ B1 S1, TakR B' i S t B1 S1 ∧ Calls Tryz.prog 13 #[.pointer (some ⟨p', 0, none⟩), .int .i64 (i : Int), .string t] w1 fun e w' => e = .returned (.tuple #[.int .i64 (tkN S t : Int), .int .i64 (tkE S t)]) ∧ TV W p q cap p' q' cap' B B1 w' ∧ KT 40 w1 w' := by
  obtain ⟨B1, S1, k1, k2⟩ := take_t1 t h.swap H f hi hl
  exact ⟨B1, S1, k1, k2.mono fun e w' ⟨g1, g2, g3⟩ => ⟨g1, g2.swap, g3⟩⟩
theorem find_t1 {W w1 : World} {p q cap p' q' cap' : Nat} {B B' : List ByteArray} {S : List (List UInt8)} (t : ByteArray) (h : TV W p q cap p' q' cap' B B' w1) (H : TI sG B) (f : FD B 0 S) :
    Calls Tryz.prog 15 #[.pointer (some ⟨p, 0, none⟩), .int .i64 0, .string t] w1 fun e w' => e = .returned (.tuple #[.int .i64 (tkN S t : Int), .int .i64 (tkE S t)]) ∧ Below w1.heap.size w1 w' := by
  obtain ⟨m, m', h1, h2, h3, h4, h5⟩ := h.ex
  exact find_dir (i := 0) t H f (by decide) h1
theorem names_t1 {W w1 : World} {p q cap p' q' cap' : Nat} {B B' : List ByteArray} {S : List (List UInt8)} (h : TV W p q cap p' q' cap' B B' w1) (H : TI sG B) (f : FD B 0 S) :
    Calls Tryz.prog 17 #[.pointer (some ⟨p, 0, none⟩), .int .i64 0] w1 fun e w' => ∃ v, e = .returned (.tuple #[v, .int .i64 0]) ∧ SRow w1.heap.size w' v (sortN (namesL S)) ∧ Below w1.heap.size w1 w' := by
  obtain ⟨m, m', h1, h2, h3, h4, h5⟩ := h.ex
  exact names_fd (i := 0) H f (by decide) h1
/-- what the law keeps: in both views directory 0 has the same slots -/
structure AV (W : World) (p q cap p' q' cap' : Nat) (B B' : List ByteArray) (S T : List (List UInt8)) (wr : World) : Prop where
  tv : TV W p q cap p' q' cap' B B' wr
  hv : TI sG B
  f0 : FD B 0 S
  f1 : FD B 1 T
  hw : TI sG B'
  fw : FD B' 0 S
  nw : ∀ j, 1 ≤ j → j < 8 → Non B' j
theorem AV.next {W : World} {p q cap p' q' cap' : Nat} {B B' : List ByteArray} {S T : List (List UInt8)} {wr w2 : World} (h : AV W p q cap p' q' cap' B B' S T wr) (k : Below wr.heap.size wr w2) : AV W p q cap p' q' cap' B B' S T w2 := ⟨h.tv.next k, h.hv, h.f0, h.f1, h.hw, h.fw, h.nw⟩
theorem PutR.non {B B' : List ByteArray} {i j : Nat} {S S' : List (List UInt8)} {t : ByteArray} {tn r : Int} (H : TI sG B) (h : PutR B i S t tn r B' S') (hj : j < 8) (hji : j ≠ i) (hn : Non B j) : Non B' j := by
  rcases h.res with ⟨_, _, e, _⟩ | ⟨_, _, _, _, hw⟩
  · rw [e]; exact hn
  · exact hw.non H hj hji hn
theorem TakR.non {B B' : List ByteArray} {i j : Nat} {S S' : List (List UInt8)} {t : ByteArray} (H : TI sG B) (h : TakR B i S t B' S') (hj : j < 8) (hji : j ≠ i) (hn : Non B j) : Non B' j := by
  rcases h.res with ⟨_, _, e⟩ | ⟨_, _, r, hw⟩
  · rw [e]; exact hn
  · exact hw.non H hj hji hn
/-- what was put in both views is the same, if there was room in the one that has more -/
theorem put_same {Bv Bw Bv' Bw' : List ByteArray} {S Sv Sw : List (List UInt8)} {t : ByteArray} {tn r r' : Int} (Hv : TI sG Bv) (fv : FD Bv 0 S) (Hw : TI sG Bw) (fw : FD Bw 0 S) (hl : S.length < 200) (hn : ∀ j, 1 ≤ j → j < 8 → Non Bw j)
    (h : PutR Bv 0 S t tn r Bv' Sv) (k : PutR Bw 0 S t tn r' Bw' Sw) (hr : r ≠ 306) : Sw = Sv := by
  rcases h.res with ⟨h1, h2, _, h4, h5⟩ | ⟨h1, h2, h3, _, h5⟩
  · have hp : pdE S t tn ≠ 0 := fun e => hr (h5 e).1
    rcases k.res with ⟨_, k2, _⟩ | ⟨_, k2, _⟩
    · rw [k2, h2]
    · exact absurd k2 hp
  · rcases k.res with ⟨_, _, _, _, k5⟩ | ⟨_, _, k3, _⟩
    · exfalso
      have hn0 : nmB t = 0 ∧ 1 ≤ tn ∧ tn < 64 := by
        unfold pdE at h2
        by_cases hn : nmB t ≠ 0
        · rw [if_pos hn] at h2; exact absurd h2 hn
        · rw [if_neg hn] at h2
          by_cases h1 : tn < 1 ∨ 63 < tn
          · rw [if_pos h1] at h2; exact absurd h2 (by decide)
          · omega
      refine (k5 h2).2 (lay_same Hv fv Hw fw hl hn (frk_le S) (by rw [st_size, newS_len]) (fun _ => by rw [st_of]; exact newS_first t _ (nmB_24 hn0.1) (by omega) (by omega)) ⟨Bv', ?_⟩)
      rw [← h1]; exact h5
    · rw [k3, h3]
theorem take_same {Bv Bw Bv' Bw' : List ByteArray} {S Sv Sw : List (List UInt8)} {t : ByteArray} (h : TakR Bv 0 S t Bv' Sv) (k : TakR Bw 0 S t Bw' Sw) : Sw = Sv := by
  rcases h.res with ⟨h1, h2, _⟩ | ⟨h1, h2, _⟩
  · rcases k.res with ⟨_, k2, _⟩ | ⟨k1, _⟩
    · rw [k2, h2]
    · exact absurd k1 h1
  · rcases k.res with ⟨k1, _⟩ | ⟨_, k2, _⟩
    · exact absurd h1 k1
    · rw [k2, h2]
/-- a slice that reads as texts -/
def SLie (w : World) (v : Value) (l : List ByteArray) : Prop :=
  ∃ ao cap, v = .slice ao l.length cap ∧ l.length ≤ cap ∧ cap ≤ maxLen ∧ ∀ i (hi : i < l.length), ∃ gb off, ao = some ⟨gb, off, none⟩ ∧ gb < w.heap.size ∧ w.cell? ⟨gb, off + i, none⟩ = some (.string l[i])
theorem SLie.below {w w' : World} {v : Value} {l : List ByteArray} (h : SLie w v l) (k : Below w.heap.size w w') : SLie w' v l := by
  obtain ⟨ao, cap, e, h1, h2, h3⟩ := h
  refine ⟨ao, cap, e, h1, h2, fun i hi => ?_⟩
  obtain ⟨gb, off, e1, hg, hc⟩ := h3 i hi
  exact ⟨gb, off, e1, Nat.lt_of_lt_of_le hg k.size, (k.cell (p := ⟨gb, off + i, none⟩) hg).trans hc⟩
theorem SRow.lie {base : Nat} {w : World} {v : Value} {l : List ByteArray} (h : SRow base w v l) : SLie w v l := by
  have hh := h
  obtain ⟨e1, ⟨rfl, hz⟩ | ⟨x, cap, cur, rfl, e4, e5, r1, r2, r3⟩⟩ := h
  · have : l = [] := List.eq_nil_of_length_eq_zero hz
    subst this
    exact ⟨none, 0, rfl, Nat.le_refl _, by decide, fun i hi => by simp at hi⟩
  · refine ⟨_, cap, rfl, r1, r2, fun i hi => ⟨x, 0, rfl, lt_of_block e5, ?_⟩⟩
    have := World.ownsRow.cellAt hh i (by omega)
    rw [Nat.zero_add, this, List.getElem?_map, List.getElem?_eq_getElem hi]
    rfl
set_option maxRecDepth 100000 in
set_option maxHeartbeats 1000000 in
theorem texts_same {w : World} {v u : Value} {l : List ByteArray} (h : SLie w v l) (k : SLie w u l) : Calls Tryz.prog 21 #[v, u] w fun e w' => e = .returned (.bool true) ∧ Below w.heap.size w w' := by
  obtain ⟨ao, cap, rfl, h1, h2, h3⟩ := h
  obtain ⟨bo, cap', rfl, k1, k2, k3⟩ := k
  replace h3 := hid h3
  replace k3 := hid k3
  obtain ⟨n, hn⟩ : ∃ n, n = l.length := ⟨_, rfl⟩
  rw [← hn] at h1 k1 ⊢
  have hm : n ≤ 9223372036854775807 := by unfold maxLen at h2; omega
  replace hn := hid hn
  clear h1 k1 h2 k2
  go_enter Tryz.func21, Tryz.ntmps21
  go_wp2
  go_loopw [13] (fun i wr => ∃ j : Nat, j ≤ n ∧ i = .int .i64 j ∧ Hid (Below w.heap.size w wr)) (fun i _ => n - (intOf i).toNat)
  case atStart => exact ⟨0, Nat.zero_le _, rfl, hid (Below.refl _ _)⟩
  case round =>
    obtain ⟨j, hj, rfl, HB⟩ := hrel
    by_cases hlt : j < n
    · have hj' : j < l.length := by rw [← hn.out]; exact hlt
      obtain ⟨ga, oa, ea, hga, ca⟩ := h3.out j hj'
      obtain ⟨gc, oc, ec, hgc, cc⟩ := k3.out j hj'
      subst ea ec
      obtain ⟨x, hx⟩ : ∃ x, x = l[j]'hj' := ⟨_, rfl⟩
      rw [← hx] at ca cc
      rw [← HB.out.cell (p := ⟨ga, oa + j, none⟩) hga] at ca
      rw [← HB.out.cell (p := ⟨gc, oc + j, none⟩) hgc] at cc
      clear hx hj'
      go_wp2
      go_quiet (fail)
      go_wp2
      go_roundw
      case rel => exact ⟨j + 1, hlt, by simp, hid (HB.out.dN _)⟩
      case measure => simp [intOf]; omega
    · go_wp2
      go_ret
      exact ⟨rfl, HB.out⟩
end Go.Proofs.YtokjlgebkihimaaGreat
