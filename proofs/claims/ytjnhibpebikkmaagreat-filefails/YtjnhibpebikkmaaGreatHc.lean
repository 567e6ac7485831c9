import Derived.Test.YtjnhibpebikkmaaGreatGb
import Derived.Test.YtjnhibpebikkmaaGreatHa
import Derived.Test.YtjnhibpebikkmaaGreatFw
namespace Go.Proofs.YtjnhibpebikkmaaGreat
open Go.RowKit Go.Maps

set_option maxRecDepth 100000 in
set_option maxHeartbeats 2000000 in
theorem same_any (v v' : Value) (l : List Chg) (w : World) (h : CLie w v l) (h' : CLie w v' l) : Calls Tryz.prog 14 #[v, v'] w fun e w' => e = .returned (.bool true) ∧ Below w.heap.size w w' := by
  obtain ⟨ao, cap, rfl, hlc, hcm, hcell⟩ := h
  obtain ⟨ao', cap', rfl, hlc', hcm', hcell'⟩ := h'
  have HC := hid hcell
  have HC' := hid hcell'
  clear hcell hcell'
  unfold maxLen at hcm hcm'
  obtain ⟨n, hn⟩ : ∃ n, n = l.length := ⟨_, rfl⟩
  have HN1 := hid hn
  have hnb : n ≤ 9223372036854775807 := by omega
  rw [← hn]
  clear hn
  go_enter Tryz.func14, Tryz.ntmps14
  go_wp2
  go_loopw [13] (fun i wr => ∃ (q : Nat), i = .int .i64 q ∧ q ≤ n ∧ Below w.heap.size w wr) (fun i _ => n - (intOf i).toNat)
  case atStart => exact ⟨0, rfl, Nat.zero_le _, Below.refl _ _⟩
  case round =>
    obtain ⟨q, rfl, hq, hB⟩ := hrel
    have HB := hid hB
    clear hB
    by_cases hqk : q < n
    · obtain ⟨gb, off, e, hgl, c0, c1⟩ := HC.out q (by rw [← HN1.out]; exact hqk)
      subst e
      obtain ⟨gb', off', e', hgl', d0, d1⟩ := HC'.out q (by rw [← HN1.out]; exact hqk)
      subst e'
      obtain ⟨c, hc⟩ : ∃ c, c = l[q]'(by rw [← HN1.out]; exact hqk) := ⟨_, rfl⟩
      rw [← hc] at c0 c1 d0 d1
      clear hc
      replace c0 := (HB.out.cell (p := ⟨gb, off + q * 2, none⟩) hgl).trans c0
      replace c1 := (HB.out.cell (p := ⟨gb, off + q * 2 + 1, none⟩) hgl).trans c1
      replace d0 := (HB.out.cell (p := ⟨gb', off' + q * 2, none⟩) hgl').trans d0
      replace d1 := (HB.out.cell (p := ⟨gb', off' + q * 2 + 1, none⟩) hgl').trans d1
      have hgr : gb < wr.heap.size := Nat.lt_of_lt_of_le hgl HB.out.size
      have hgr' : gb' < wr.heap.size := Nat.lt_of_lt_of_le hgl' HB.out.size
      go_wp2
      go_quiet ((fail))
      go_wp2
      go_roundw
      case rel => exact ⟨q + 1, by go_num, by omega, HB.out.dN _⟩
      case measure => simp [intOf]; omega
    · have hqe : q = n := by omega
      subst hqe
      go_wp2
      go_ret
      exact ⟨rfl, HB.out⟩
end Go.Proofs.YtjnhibpebikkmaaGreat
namespace Go.Proofs.YtjnhibpebikkmaaGreat
open Go.RowKit Go.Maps

/-- a list of changes stays, whatever a view changes of its own -/
theorem CLie.only {G : Geo} {p q cap m : Nat} {w w' : World} {F B : List ByteArray} {v : Value} {l : List Chg} (h : CLie w v l) (hv : VI G p q cap m w F B) (ho : Only [p, m] w w') : CLie w' v l := by
  obtain ⟨ao, cap', e, h1, h2, h3⟩ := h
  refine ⟨ao, cap', e, h1, h2, fun i hi => ?_⟩
  obtain ⟨gb, off, e1, hg, c0, c1⟩ := h3 i hi
  have hm : gb ≠ m := by
    rintro rfl
    obtain ⟨M, k1, _⟩ := hv.map
    obtain ⟨es, c, k2⟩ := k1.isMap
    simp [World.cell?, k2] at c1
  have hp : gb ≠ p := by
    rintro rfl
    rw [World.cell?, hv.own] at c1
    have hk : ∀ k : Nat, (vwC G q cap m)[k]? ≠ some (.string l[i].d) := by
      intro k
      unfold vwC
      match k with
      | 0 | 1 | 2 | 3 | 4 | 5 | 6 | 7 => simp
      | k + 8 => simp
    exact hk _ (by simpa using c1)
  have hb := ho.block gb hg (by simp [hm, hp])
  exact ⟨gb, off, e1, Nat.lt_of_lt_of_le hg ho.size, (cell_same hb _).trans c0, (cell_same hb _).trans c1⟩
set_option maxRecDepth 100000 in
set_option maxHeartbeats 2000000 in
theorem new_shape (x y z : Int) (h : ¬ Sh.okS x y z) (v : Value) (w : World) : Calls Tryz.prog 8 #[.agg #[.int .i64 x, .int .i64 y, .int .i64 z], v] w fun e w' => e = .returned (.tuple #[.pointer none, .int .i64 60]) ∧ Below w.heap.size w w' := by
  have HO := hid (Sh.of_bad x y z h)
  clear h
  go_enter Tryz.func8, Tryz.ntmps8
  go_wp2_with (go_at_call 22; fail)
  refine (HO.out _).mono ?_
  rintro e w2 ⟨rfl, hb2⟩
  have HB2 : Hid (Below w.heap.size w w2) := hid ((below_alloc w _).next hb2)
  clear hb2 HO
  go_wp2
  go_ret2
  exact ⟨rfl, HB2.out.next (below_alloc _ _)⟩
set_option maxRecDepth 100000 in
set_option maxHeartbeats 4000000 in
theorem new_len {x y z : Nat} (h : Sh.okS (x : Int) (y : Int) (z : Int)) (ao : Option Addr) (n c : Nat) (hn : n ≠ x) (w : World) : Calls Tryz.prog 8 #[.agg #[.int .i64 (x : Int), .int .i64 (y : Int), .int .i64 (z : Int)], .slice ao n c] w fun e w' => e = .returned (.tuple #[.pointer none, .int .i64 4]) ∧ Below w.heap.size w w' := by
  have HO := hid (Sh.of_ok (x : Int) (y : Int) (z : Int) h)
  rw [reg_geo h] at HO
  have hne : ((n : Int) != (x : Int)) = true := by simp; omega
  obtain ⟨bm, hbm⟩ : ∃ bm, bm = (geo x y z).bm := ⟨_, rfl⟩
  obtain ⟨t, ht⟩ : ∃ t, t = (geo x y z).t := ⟨_, rfl⟩
  obtain ⟨da, hda⟩ : ∃ da, da = (geo x y z).da := ⟨_, rfl⟩
  obtain ⟨ct, hct⟩ : ∃ ct, ct = (geo x y z).ct := ⟨_, rfl⟩
  rw [← hbm, ← ht, ← hda, ← hct] at HO
  clear hbm ht hda hct h hn
  go_enter Tryz.func8, Tryz.ntmps8
  go_wp2_with (go_at_call 22; fail)
  obtain ⟨w1, hw1⟩ : ∃ w1, w1 = w.alloc (.cells #[.int .i64 (x : Int), .int .i64 (y : Int), .int .i64 (z : Int)] 23) := ⟨_, rfl⟩
  have hA1 : w1.heap[w.heap.size]? = some (.cells #[.int .i64 (x : Int), .int .i64 (y : Int), .int .i64 (z : Int)] 23 (0, 0)) := by rw [hw1]; exact box_at _ _
  have hB1 : Below w.heap.size w w1 := by rw [hw1]; exact below_alloc w _
  rw [← hw1]
  clear hw1
  refine (HO.out _).mono ?_
  rintro e w2 ⟨rfl, hb2⟩
  have hA2 := (hb2.block _ (lt_of_block hA1)).trans hA1
  have HB2 := hid (hB1.next hb2)
  clear hA1 hB1 hb2
  have hs2 := lt_of_block hA2
  obtain ⟨a0, a1, a2⟩ := three_cells hA2
  go_wp2
  go_ret2
  exact ⟨rfl, HB2.out.next (below_alloc _ _)⟩
set_option maxRecDepth 100000 in
set_option maxHeartbeats 4000000 in
theorem new_size {x y z : Nat} (h : Sh.okS (x : Int) (y : Int) (z : Int)) (b off c : Nat) (F : List ByteArray) (hF : F.length = x) (hs : (F.any fun s => decide (s.size ≠ 128)) = true) (w : World) (hc : ∀ j (h : j < F.length), w.cell? ⟨b, off + j, none⟩ = some (.string F[j])) (hb : b < w.heap.size) :
    Calls Tryz.prog 8 #[.agg #[.int .i64 (x : Int), .int .i64 (y : Int), .int .i64 (z : Int)], .slice (some ⟨b, off, none⟩) x c] w fun e w' => e = .returned (.tuple #[.pointer none, .int .i64 4]) ∧ Below w.heap.size w w' := by
  have HO := hid (Sh.of_ok (x : Int) (y : Int) (z : Int) h)
  rw [reg_geo h] at HO
  have hx : 0 < x ∧ x ≤ 1024 := by obtain ⟨⟨h1, _⟩, _⟩ := h; omega
  have hcb : ∀ w', Below w.heap.size w w' → ∀ j (h : j < F.length), w'.cell? ⟨b, off + j, none⟩ = some (.string F[j]) := fun w' hb' j hj => (cell_same (hb'.block b hb) (off + j)).trans (hc j hj)
  have HCT := hid (fun w' (hb' : Below w.heap.size w w') => contains_any b off x c F w' hF.symm (by omega) (hcb w' hb'))
  rw [hs] at HCT
  obtain ⟨bm, hbm⟩ : ∃ bm, bm = (geo x y z).bm := ⟨_, rfl⟩
  obtain ⟨t, ht⟩ : ∃ t, t = (geo x y z).t := ⟨_, rfl⟩
  obtain ⟨da, hda⟩ : ∃ da, da = (geo x y z).da := ⟨_, rfl⟩
  obtain ⟨ct, hct⟩ : ∃ ct, ct = (geo x y z).ct := ⟨_, rfl⟩
  rw [← hbm, ← ht, ← hda, ← hct] at HO
  clear hbm ht hda hct h hx hcb hF hs hc hb
  go_enter Tryz.func8, Tryz.ntmps8
  go_wp2_with (go_at_call 22; fail)
  obtain ⟨w1, hw1⟩ : ∃ w1, w1 = w.alloc (.cells #[.int .i64 (x : Int), .int .i64 (y : Int), .int .i64 (z : Int)] 23) := ⟨_, rfl⟩
  have hA1 : w1.heap[w.heap.size]? = some (.cells #[.int .i64 (x : Int), .int .i64 (y : Int), .int .i64 (z : Int)] 23 (0, 0)) := by rw [hw1]; exact box_at _ _
  have hB1 : Below w.heap.size w w1 := by rw [hw1]; exact below_alloc w _
  rw [← hw1]
  clear hw1
  refine (HO.out _).mono ?_
  rintro e w2 ⟨rfl, hb2⟩
  have hA2 := (hb2.block _ (lt_of_block hA1)).trans hA1
  have HB2 := hid (hB1.next hb2)
  clear hA1 hB1 hb2
  have hs2 := lt_of_block hA2
  obtain ⟨a0, a1, a2⟩ := three_cells hA2
  go_wp2_with (go_at_call 23; fail)
  refine (HCT.out _ (HB2.out.next (below_alloc _ _))).mono ?_
  rintro e w4 ⟨rfl, q4, hw4⟩
  have HB4 : Hid (Below w.heap.size w w4) := by rw [hw4]; exact hid ((HB2.out.next (below_alloc _ _)).dN _)
  clear hw4 a0 a1 a2 hA2
  go_wp2
  go_ret2
  exact ⟨rfl, HB4.out⟩
/-- New, of whatever -/
theorem vnew_any (x y z : Int) (v : Value) (F : List ByteArray) (w : World) (hS : SLie w v F) : Calls Tryz.prog 8 #[.agg #[.int .i64 x, .int .i64 y, .int .i64 z], v] w fun e w' => Below w.heap.size w w' ∧ ((∃ r, r ≠ 0 ∧ e = .returned (.tuple #[.pointer none, .int .i64 r])) ∨ ∃ G p q cap m, e = .returned (.tuple #[.pointer (some ⟨p, 0, none⟩), .int .i64 0]) ∧ VI G p q cap m w' F F ∧ w.heap.size ≤ p ∧ w.heap.size ≤ m) := by
  by_cases h : Sh.okS x y z
  · have hp : 0 ≤ x ∧ 0 ≤ y ∧ 0 ≤ z := by obtain ⟨⟨h1, h2, h3⟩, h4⟩ := h; omega
    obtain ⟨X, rfl⟩ : ∃ X : Nat, x = X := ⟨x.toNat, by omega⟩
    obtain ⟨Y, rfl⟩ : ∃ Y : Nat, y = Y := ⟨y.toNat, by omega⟩
    obtain ⟨Z, rfl⟩ : ∃ Z : Nat, z = Z := ⟨z.toNat, by omega⟩
    obtain ⟨ao, cap, rfl, h1, h2, h3⟩ := hS
    by_cases hl : F.length = X
    · have hx : 0 < X := by obtain ⟨⟨h1, _⟩, _⟩ := h; omega
      obtain ⟨gb, off, rfl, hg, _⟩ := h3 0 (by omega)
      have hc : ∀ j (h : j < F.length), w.cell? ⟨gb, off + j, none⟩ = some (.string F[j]) := by
        intro j hj
        obtain ⟨gb', off', e, _, hc'⟩ := h3 j hj
        obtain ⟨rfl, rfl, _⟩ : gb = gb' ∧ off = off' ∧ True := by cases e; exact ⟨rfl, rfl, trivial⟩
        exact hc'
      rw [hl]
      by_cases hs : (F.any fun s => decide (s.size ≠ 128)) = true
      · exact (new_size h gb off cap F hl hs w hc hg).mono fun e w' ⟨he, hb⟩ => ⟨hb, .inl ⟨4, by decide, he⟩⟩
      · have hs' : ∀ s ∈ F, s.size = 128 := by
          intro s hm
          have : (F.any fun s => decide (s.size ≠ 128)) = false := by simpa using hs
          rw [List.any_eq_false] at this
          have := this s hm
          simpa using this
        exact (new_ok h gb off cap F hl hs' w hc hg).mono fun e w' ⟨p, he, hn⟩ => by
          obtain ⟨q, c, m, hv, _, hm⟩ := hn.ex
          exact ⟨hn.bel, .inr ⟨_, p, q, c, m, he, hv, hn.le, hm⟩⟩
    · exact (new_len h ao F.length cap hl w).mono fun e w' ⟨he, hb⟩ => ⟨hb, .inl ⟨4, by decide, he⟩⟩
  · exact (new_shape x y z h v w).mono fun e w' ⟨he, hb⟩ => ⟨hb, .inl ⟨60, by decide, he⟩⟩
end Go.Proofs.YtjnhibpebikkmaaGreat
