import Derived.Test.YtokjlgebkihimaaGreatGe
import Derived.Test.YtokjlgebkihimaaGreatFw
namespace Go.Proofs.YtokjlgebkihimaaGreat
open Go.RowKit Go.Maps Go.Shelf

set_option maxRecDepth 100000 in
set_option maxHeartbeats 1000000 in
/-- Read of an inode that is there and not free -/
theorem read_ok {G : Geo} {p q cap m : Nat} {w : World} {F B : List ByteArray} (i : Int) (x k z : Nat) (hk : k ≤ 1024) (hx : x ≤ 9000000000000000000) (hu : usdE G B i = 0) (hz : (usdI G B i).z = (z : Int)) (hz1 : z ≤ 533248) (h : VI G p q cap m w F B) :
    Calls Tryz.prog 76 #[.pointer (some ⟨p, 0, none⟩), .int .i64 i, .int .i64 (x : Int), .int .i64 (k : Int)] w fun e w' => e = .returned (.tuple #[.string (st (bys G B (usdI G B i) (min x z) (min (min x z + k) z - min x z))), .int .i64 0]) ∧ Below w.heap.size w w' := by
  have HV := hid h
  have HN := hid (vnone_any h)
  have HU := hid (used_any i h)
  rw [hu] at HU
  obtain ⟨fr, hfr⟩ : ∃ fr, fr = min x z := ⟨_, rfl⟩
  obtain ⟨tt, htt⟩ : ∃ tt, tt = min (fr + k) z := ⟨_, rfl⟩
  rw [← hfr, ← htt]
  have HB := hid (fun w' (hv : VI G p q cap m w' F B) => bytes_any (w := w') (usdI G B i) fr (tt - fr) (by omega) (by omega) hv)
  rw [show fr + (tt - fr) = tt by omega] at HB
  have hm1 : min (x : Int) (z : Int) = (fr : Int) := by omega
  have hw1 : IntKind.i64.wrap ((fr : Int) + (k : Int)) = (fr : Int) + (k : Int) := by rw [IntKind.wrap_i64]; omega
  have hm2 : min ((fr : Int) + (k : Int)) (z : Int) = (tt : Int) := by omega
  have hk1 : decide ((1024 : Int) < (k : Int)) = false := by simp; omega
  have hk2 : ¬ 1024 < k := by omega
  obtain ⟨n, hn⟩ : ∃ n, n = usdI G B i := ⟨_, rfl⟩
  rw [← hn] at HU HB hz ⊢
  obtain ⟨rs, hrs⟩ : ∃ rs, rs = st (bys G B n fr (tt - fr)) := ⟨_, rfl⟩
  rw [← hrs] at HB ⊢
  clear h hu hn hrs hfr htt hk hx hz1
  obtain ⟨nk, nl, nz, na, nb, nc, nd, ne, nf, ns, nt⟩ := n
  simp only at hz
  subst hz
  simp only [Ino.v] at HU HB
  go_enter Tryz.func76, Tryz.ntmps76
  go_wp2_with (first
    | (go_at_call 55; refine HN.out.mono ?_; rintro e w0 ⟨rfl, hw⟩; have hw := hw.symm; subst hw)
    | (go_at_call 94; refine HU.out.mono ?_; rintro e w1 ⟨rfl, hb1⟩; have HB1 := hid hb1; clear hb1)
    | (go_at_call 103; refine (HB.out _ (by exact (HV.out.below HB1.out).below (below_alloc w1 _))).mono ?_; rintro e w2 ⟨rfl, hb2⟩))
  go_ret2
  exact ⟨rfl, (HB1.out.next (below_alloc _ _)).next hb2⟩
/-- a row of the call's own: texts -/
def SRow (base : Nat) (w : World) (v : Value) (l : List ByteArray) : Prop := w.ownsRow base 9 1 v l.length (l.map Value.string)
set_option maxRecDepth 100000 in
theorem SRow.nil (base : Nat) (w : World) : SRow base w (.slice none 0 0) [] := ⟨rfl, .inl ⟨rfl, rfl⟩⟩
set_option maxRecDepth 100000 in
theorem SRow.below {base : Nat} {w w' : World} {v : Value} {l : List ByteArray} (h : SRow base w v l) (k : Below w.heap.size w w') : SRow base w' v l := by
  obtain ⟨e1, e2 | ⟨x, cap, cur, e3, e4, e5, e6⟩⟩ := h
  · exact ⟨e1, .inl e2⟩
  · exact ⟨e1, .inr ⟨x, cap, cur, e3, e4, (k.block x (lt_of_block e5)).trans e5, e6⟩⟩
set_option maxRecDepth 100000 in
theorem SRow.own {base : Nat} {w : World} {v : Value} {l : List ByteArray} (h : SRow base w v l) : ∀ x, v.ownBlock = some x → base ≤ x ∧ x < w.heap.size := by
  obtain ⟨e1, ⟨rfl, _⟩ | ⟨x, cap, cur, rfl, e4, e5, e6⟩⟩ := h
  · intro x hx; cases hx
  · intro y hy; cases hy; exact ⟨e4, lt_of_block e5⟩
set_option maxRecDepth 100000 in
theorem SRow.len {base : Nat} {w : World} {v : Value} {l : List ByteArray} (h : SRow base w v l) : ∃ ao cap, v = .slice ao l.length cap := by
  rcases h.2 with ⟨rfl, hz⟩ | ⟨gb, cap, cur, rfl, _, _, r1, r2, _⟩
  · exact ⟨none, 0, by rw [hz]⟩
  · exact ⟨_, cap, rfl⟩
set_option maxRecDepth 100000 in
theorem pushS {ops : Array Oper} {rest : List Oper} {o : Oper} {a : Act} {Q : Exit → Act → World → Prop} {w0 : World} (hgd : o.guard = none) (s x : Operand)
    (ho : o.op = .call { callee := .builtin .append, args := #[s, x], argTypes := #[24, 24] }) (B1 bb : Nat) (v : Value) (T : List ByteArray) (y : ByteArray)
    (hs : a.eval s = v) (hx : a.eval x = .slice (some ⟨bb, 0, none⟩) 1 1) (hbb : bb = w0.heap.size) (hA : SRow B1 w0 v T) (hn : T.length ≤ 2000) (hbase : B1 ≤ w0.heap.size)
    (h : ∀ v' w', SRow B1 w' v' (T ++ [y]) → Below B1 w0 w' → wpList Tryz.prog ops Q rest (a.put o.dst v') w') :
    wpList Tryz.prog ops Q (o :: rest) a (w0.alloc (.cells #[.string y] 9)) := by
  subst hbb
  obtain ⟨i0, hi, hz0, hz1, hz2⟩ := info_parts Tryz.info9
  have ho2 := hA.own
  refine wpList_append_own _ hgd s x 24 ho B1 9 i0 (.string ⟨#[]⟩) 1 16 Tryz.underlying24 hi hz0 hz1 hz2 rfl (by decide) v T.length (T.map Value.string) hs (World.ownsRow.alloc hA _) ⟨w0.heap.size, 0, none⟩ 1 1 [.string y] hx rfl (by
      intro j u hu
      match j, hu with
      | 0, hu => simp at hu; subst hu; simp [Addr.add]
      | j + 1, hu => simp at hu) (by intro u hu; simp at hu; subst hu; rfl) (by unfold maxLen; omega) (by omega) (by simp; omega) ?_
  intro v' w' hown hg _
  refine h v' w' ?_ ?_
  · unfold SRow
    rw [List.map_append, List.length_append]
    exact hown
  · refine (below_alloc w0 (.cells #[.string y] 9)).mono hbase |>.trans ⟨hg.os, hg.tape, hg.output, hg.size, fun k hk => hg.block k ?_ ?_⟩
    · simp; omega
    · intro e
      have := (ho2 k e.symm).1
      omega
end Go.Proofs.YtokjlgebkihimaaGreat
namespace Go.Proofs.YtokjlgebkihimaaGreat
open Go.RowKit Go.Maps Go.Shelf

set_option maxRecDepth 100000 in
theorem s_geo : geo 40 20 8 = sG := rfl
set_option maxRecDepth 100000 in
theorem s_okS : Sh.okS ((40 : Nat) : Int) ((20 : Nat) : Int) ((8 : Nat) : Int) := by
  refine ⟨⟨⟨?_, ?_⟩, ⟨?_, ?_⟩, ⟨?_, ?_⟩⟩, ?_⟩ <;> decide
set_option maxRecDepth 100000 in
theorem s_sz : ∀ s ∈ sF, s.size = 128 := by
  intro s hs
  rw [List.eq_of_mem_replicate hs]
  exact Zs_size 128
set_option maxRecDepth 100000 in
theorem s_len : sF.length = 40 := List.length_replicate
/-- the view of 'speaks', in a world above w -/
structure SV (w : World) (p : Nat) (B : List ByteArray) (w' : World) : Prop where
  ex : ∃ q cap m, VI sG p q cap m w' sF B ∧ w.heap.size ≤ q ∧ w.heap.size ≤ m
  le : w.heap.size ≤ p
  bel : Below w.heap.size w w'
set_option maxRecDepth 100000 in
theorem SV.next {w w1 w2 : World} {p : Nat} {B : List ByteArray} (h : SV w p B w1) (k : Below w1.heap.size w1 w2) : SV w p B w2 := by
  obtain ⟨⟨q, cap, m, hv, hq, hm⟩, hp, hb⟩ := h
  exact ⟨⟨q, cap, m, hv.below k, hq, hm⟩, hp, hb.next k⟩
set_option maxRecDepth 100000 in
theorem sv_new {w w1 : World} {v : Value} (hb : Below w.heap.size w w1) (hs : SRow w.heap.size w1 v sF) : ∃ ao cp, v = .slice ao 40 cp ∧ Calls Tryz.prog 7 #[.agg #[.int .i64 40, .int .i64 20, .int .i64 8], v] w1 fun e w' => ∃ p, e = .returned (.tuple #[.pointer (some ⟨p, 0, none⟩), .int .i64 0]) ∧ SV w p sF w' := by
  have h40 : sF.length = 40 := s_len
  unfold SRow at hs
  rw [h40] at hs
  obtain ⟨g, cp, rfl, hg, hc⟩ := own_row hs (by decide)
  refine ⟨some ⟨g, 0, none⟩, cp, rfl, ?_⟩
  have hrow : ∀ j (hj : j < sF.length), w1.cell? ⟨g, 0 + j, none⟩ = some (.string sF[j]) := fun j hj => by
    rw [Nat.zero_add, hc j (by simpa using hj)]
    simp
  have hlt : g < w1.heap.size := row_lt (F := sF) (by rw [h40]; decide) (fun i hi => by have := hrow i hi; rwa [Nat.zero_add] at this)
  refine (new_ok (x := 40) (y := 20) (z := 8) s_okS g 0 cp sF h40 s_sz w1 hrow hlt).mono ?_
  rintro e w' ⟨p, rfl, hnv⟩
  obtain ⟨⟨q, cap, m, hvi, hq, hm⟩, hp, hbn⟩ := hnv
  rw [s_geo] at hvi
  have hsz := hb.size
  exact ⟨p, rfl, ⟨⟨q, cap, m, hvi, by omega, by omega⟩, by omega, hb.next hbn⟩⟩
end Go.Proofs.YtokjlgebkihimaaGreat
