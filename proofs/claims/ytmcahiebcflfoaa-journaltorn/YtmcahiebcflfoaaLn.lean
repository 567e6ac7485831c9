import Derived.Test.YtmcahiebcflfoaaLk
import Derived.Test.YtmcahiebcflfoaaOn
namespace Go.Proofs.Ytmcahiebcflfoaa
open Go.ChangeShapes Go.WideShapes Go.ChangeAt Go.RowKit Go.Joins Go.Deep
theorem cells4b : Try.prog.cellsOf 4 = 1 := by kernel_rfl
theorem open_bools {H : Type} {enc : TypeId × Value → H} {W : World} {fuel : Nat} {ao : Option Addr} {len cap : Nat} {x : DataW H × List MemPlace}
    (h : DataW.trod enc Try.prog W 0 (fun _ => true) true fuel 66 [.slice ao len cap] = some x) : ∃ l, BLie W (.slice ao len cap) l := by
  rcases open_slice Try.underlying66 h with ⟨h0, hx⟩ | ⟨a, len', cap', m, n, D, Pl, hcs, hb, hl, hm, hmm, hx, hel⟩
  · simp at h0
    obtain ⟨rfl, rfl, rfl⟩ := h0
    exact ⟨[], none, 0, rfl, Nat.le_refl _, by decide, fun i hi => by simp at hi⟩
  · simp at hcs
    obtain ⟨rfl, rfl, rfl⟩ := hcs
    have hlm : len ≤ m := by rw [hmm]; split <;> omega
    have each : ∀ i, i < len → ∃ y : Bool, W.cell? (a.add i) = some (.bool y) := by
      intro i hi
      obtain ⟨cs', h1, h2⟩ := hel i (by omega)
      rw [cells4b] at h1
      obtain ⟨_, hlen, hcell⟩ := World.cells?_some h1
      match cs', hlen with
      | [v0], _ =>
        have e0 := hcell 0 (by omega)
        rw [Deep.add_add] at e0
        obtain ⟨bb, q0, _⟩ := DataW.trod_bool Try.underlying4 h2
        simp at q0
        subst q0
        exact ⟨bb, by simpa using e0⟩
    obtain ⟨it, hit⟩ := choose_lt each
    refine ⟨(List.range len).map it, some a, cap, by simp, by simpa using hl, hm, fun i hi => ?_⟩
    rw [range_get]
    have hi' : i < len := by simpa using hi
    have a0 := hit i hi'
    have a00 := hit 0 (by omega)
    obtain ⟨b, off, sp⟩ := a
    have hsp : sp = none := by simpa [Addr.add] using World.cell?_spot a00
    subst hsp
    have hadd : ∀ j, (⟨b, off, none⟩ : Addr).add j = ⟨b, off + j, none⟩ := fun j => by unfold Addr.add; split <;> simp_all
    have hblk : b < W.heap.size := by
      obtain ⟨cs', h1, _⟩ := hel i (by omega)
      rw [cells4b, hadd] at h1
      exact World.cells?_block h1 (by decide)
    rw [hadd] at a0
    exact ⟨b, off, rfl, hblk, a0⟩
end Go.Proofs.Ytmcahiebcflfoaa
namespace Go.Proofs.Ytmcahiebcflfoaa
open Go.RowKit Go.Maps
/-- a reopened journal and the region beside it: what stands behind some appends of nothing -/
structure TS (w1 : World) (rb g : Nat) (r : Option Nat) (w : World) (p T F S : Nat) (M : List Int) (hd : ByteArray) (A : List ByteArray) (u0 : Nat) (E : List ByteArray) : Prop where
  js : JS g r w p T F S M
  rg : RG w rb (hd :: A)
  al : A.length = p
  az : ∀ b ∈ A, b.size = 128
  ta : (rot A T).take u0 = E
  rl : rb < w1.heap.size
  b1 : w1.heap.size ≤ g
  b2 : ∀ x, r = some x → w1.heap.size ≤ x
  sz : w1.heap.size ≤ w.heap.size
  fr : ∀ x, x < w1.heap.size → x ≠ rb → w.heap[x]? = w1.heap[x]?
  os : w.os = w1.os
  tape : w.tape = w1.tape
  output : w.output = w1.output
  pos : ∀ x ∈ M, 1 ≤ x
  sum : sumI M ≤ p
  su : (u0 : Int) ≤ sumI M
section
variable {w1 : World} {rb g : Nat} {r : Option Nat} {w w' : World} {p T F S : Nat} {M : List Int} {hd : ByteArray} {A : List ByteArray} {u0 : Nat} {E : List ByteArray}
theorem TS.keep (h : TS w1 rb g r w p T F S M hd A u0 E) (k : Below w.heap.size w w') : TS w1 rb g r w' p T F S M hd A u0 E :=
  ⟨h.js.below k, h.rg.same (k.block rb h.rg.lt), h.al, h.az, h.ta, h.rl, h.b1, h.b2, Nat.le_trans h.sz k.size, fun x hx hn => (k.block x (Nat.lt_of_lt_of_le hx h.sz)).trans (h.fr x hx hn), k.os.trans h.os, k.tape.trans h.tape, k.output.trans h.output, h.pos, h.sum, h.su⟩
theorem TS.jstep {r' : Option Nat} {M' : List Int} (h : TS w1 rb g r w p T F S M hd A u0 E) (hj : JS g r' w' p T F S M') (hn : New w r r') (hf : JFr g r w w') (hp : ∀ x ∈ M', 1 ≤ x) (hs : sumI M' ≤ p) (hu : (u0 : Int) ≤ sumI M') : TS w1 rb g r' w' p T F S M' hd A u0 E := by
  have hsz := h.sz
  have hrl := h.rl
  have hb1 := h.b1
  have fr : ∀ x, x < w1.heap.size → w'.heap[x]? = w.heap[x]? := fun x hx => hf.block x (by omega) (by omega) (fun e => by have := h.b2 x e.symm; omega)
  refine ⟨hj, h.rg.same (fr rb h.rl), h.al, h.az, h.ta, h.rl, h.b1, fun x hx => ?_, Nat.le_trans h.sz hf.size, fun x hx hn => (fr x hx).trans (h.fr x hx hn), hf.os.trans h.os, hf.tape.trans h.tape, hf.output.trans h.output, hp, hs, hu⟩
  rcases hn with rfl | ⟨k, rfl, hk⟩
  · exact h.b2 x hx
  · cases hx; omega
theorem TS.rset {u : Nat} {x : ByteArray} (h : TS w1 rb g r w p T F S M hd A u0 E) (hT : T < p) (hu0 : u0 ≤ u) (hu : u < p) (hx : x.size = 128) : TS w1 rb g r (w.setCell ⟨rb, (T + u) % p + 1, none⟩ (.string x)) p T F S M hd (A.set ((T + u) % p) x) u0 E := by
  have hrl := h.rl
  have hb1 := h.b1
  have hm := Nat.mod_lt (T + u) (show 0 < p by omega)
  have hs : ∀ y, y ≠ rb → (w.setCell ⟨rb, (T + u) % p + 1, none⟩ (.string x)).heap[y]? = w.heap[y]? := fun y hy => Below.heap_setCell _ _ _ _ hy
  have hal := h.al
  have hrg := h.rg.set (i := (T + u) % p + 1) (by simp [hal]; omega) x
  rw [List.set_cons_succ] at hrg
  refine ⟨h.js.set (by omega) (fun e => by have := h.b2 rb e.symm; omega) _ _, hrg, by rw [List.length_set]; exact hal, fun b hb => ?_, ?_, h.rl, h.b1, h.b2, by simpa using h.sz, fun y hy hn => (hs y hn).trans (h.fr y hy hn), h.os, h.tape, h.output, h.pos, h.sum, h.su⟩
  · rcases List.mem_or_eq_of_mem_set hb with hb | hb
    · exact h.az b hb
    · rw [hb]; exact hx
  · rw [← hal, rot_set A (by omega) (by omega) x, List.take_set_of_le hu0]
    exact h.ta
theorem TS.below (h : TS w1 rb g r w p T F S M hd A u0 E) {B : Nat} (hB : B ≤ rb) : Below B w1 w :=
  ⟨h.os, h.tape, h.output, h.sz, fun k hk => h.fr k (by have := h.rl; omega) (by omega)⟩
/-- what an append of nothing has answered -/
def AV (w1 : World) (p T u0 : Nat) (av fv : Value) (w : World) : Prop :=
  (av = .slice none 0 0 ∧ fv = .int .i64 5) ∨ ∃ wb u d, av = .slice (some ⟨wb, 0, none⟩) 1 1 ∧ fv = .int .i64 0 ∧ w1.heap.size ≤ wb ∧ u0 ≤ u ∧ u < p ∧ CLie w av [⟨1 + (((T + u) % p : Nat) : Int), d⟩]
theorem CLie.empty (w : World) (ao : Option Addr) (cap : Nat) (hc : cap ≤ maxLen) : CLie w (.slice ao 0 cap) [] := ⟨ao, cap, rfl, Nat.zero_le _, hc, fun i hi => by simp at hi⟩
theorem append_e (h : TS w1 rb g r w p T F S M hd A u0 E) (hp : 7 ≤ p ∧ p ≤ 255) (hT : T < p) (hF : 1 ≤ F) (hF2 : F ≤ 400) (ao : Option Addr) (cap : Nat) (hc : cap ≤ maxLen) : Calls Try.prog 12 #[.pointer (some ⟨g, 0, none⟩), .slice ao 0 cap] w fun e w' => ∃ r' M' av fv, e = .returned (.tuple #[av, fv]) ∧ TS w1 rb g r' w' p T F S M' hd A u0 E ∧ AV w1 p T u0 av fv w' := by
  have hlen := sumI_len h.pos
  have hs := h.sum
  have hsu := h.su
  have hnn : ∀ x ∈ M, 0 ≤ x := fun x hx => by have := h.pos x hx; omega
  have hr : right ([] : List Chg) = true := rfl
  by_cases hfu : sumI M + 1 ≤ p
  · refine (jappend g r p T F S M (.slice ao 0 cap) [] (by omega) (by omega) (by omega) hF (by omega) (by omega) hnn (by simp; omega) hr w h.js (CLie.empty w ao cap hc)).mono ?_
    rintro e w' ⟨wb, r', rfl, hwb, _, hC, hJ, hN, hFr⟩
    refine ⟨r', _, _, _, rfl, h.jstep hJ hN hFr (fun x hx => ?_) (by rw [sumI_snoc]; simpa using hfu) (by rw [sumI_snoc]; simp; omega), .inr ⟨wb, (sumI M).toNat, headB (F + M.length) [], rfl, rfl, Nat.le_trans h.sz hwb, by omega, by omega, ?_⟩⟩
    · rcases List.mem_append.1 hx with hx | hx
      · exact h.pos x hx
      · simp at hx; omega
    · have e1 : encL (F + M.length) ([] : List Chg) = [headB (F + M.length) []] := by rw [encL_eq]; rfl
      rw [e1] at hC
      have e2 : wrL (p : Int) ((T : Int) + sumI M) [headB (F + M.length) []] = [⟨1 + (((T + (sumI M).toNat) % p : Nat) : Int), headB (F + M.length) []⟩] := by
        apply List.ext_getElem
        · simp [wrL_len]
        · intro i h1 h2
          have hi : i = 0 := by simp at h2; omega
          subst hi
          rw [wrL_get _ _ _ 0 (by simp [wrL_len]) (by simp)]
          have e4 : ((sumI M).toNat : Int) = sumI M := by omega
          rw [Int.natCast_emod, Int.natCast_add, e4]
          simp
      rw [e2] at hC
      exact hC
  · refine (jappend_full g r p T F S M (.slice ao 0 cap) [] (by omega) (by omega) hF (by omega) (by omega) hnn hs (.inl (by simp; omega)) hr w h.js (CLie.empty w ao cap hc)).mono ?_
    rintro e w' ⟨rfl, hb⟩
    exact ⟨r, M, _, _, rfl, h.keep hb, .inl ⟨rfl, rfl⟩⟩
end
theorem VL.frame {w w' : World} {v : Value} {Ls : List (List Chg)} {rb : Nat} {X : List ByteArray} (h : VL w v Ls) (hr : RG w rb X) (hs : w.heap.size ≤ w'.heap.size) (k : ∀ x, x < w.heap.size → x ≠ rb → w'.heap[x]? = w.heap[x]?) : VL w' v Ls := by
  obtain ⟨cur, r1, r2, r3⟩ := hr
  have only : ∀ o u, w.cell? ⟨rb, o, none⟩ = some u → ∃ s, u = .string s := by
    intro o u hu
    rw [cell_of r1] at hu
    have ho : o < X.length := by
      rw [← r2]
      exact (Array.getElem?_eq_some_iff.1 hu).1
    rw [r3 o ho] at hu
    exact ⟨_, (Option.some.inj hu).symm⟩
  obtain ⟨ao, cap, e, h1, h2, h3⟩ := h
  refine ⟨ao, cap, e, h1, h2, fun i hi => ?_⟩
  obtain ⟨gb, off, u, e, hg, c, hc⟩ := h3 i hi
  have hne : gb ≠ rb := by
    rintro rfl
    obtain ⟨s, rfl⟩ := only _ _ c
    obtain ⟨_, _, e, _⟩ := hc
    cases e
  refine ⟨gb, off, u, e, Nat.lt_of_lt_of_le hg hs, ?_, ?_⟩
  · rw [← c]
    simp only [World.cell?, k gb hg hne]
  · obtain ⟨a2, c2, e2, k1, k2, k3⟩ := hc
    refine ⟨a2, c2, e2, k1, k2, fun j hj => ?_⟩
    obtain ⟨gb2, off2, e3, hg2, c3, c4⟩ := k3 j hj
    have hne2 : gb2 ≠ rb := by
      rintro rfl
      obtain ⟨s, hs⟩ := only _ _ c3
      cases hs
    refine ⟨gb2, off2, e3, Nat.lt_of_lt_of_le hg2 hs, ?_, ?_⟩
    · rw [← c3]
      simp only [World.cell?, k gb2 hg2 hne2]
    · rw [← c4]
      simp only [World.cell?, k gb2 hg2 hne2]
end Go.Proofs.Ytmcahiebcflfoaa
namespace Go.Proofs.Ytmcahiebcflfoaa
open Go.RowKit Go.Maps
theorem stp_first {w : World} {la : Option Addr} {lc : Nat} {L : List Chg} (h : CLie w (.slice la L.length lc) L) (hL : 0 < L.length) : ∃ gb off d, la = some ⟨gb, off, none⟩ ∧ gb < w.heap.size ∧ w.cell? ⟨gb, off + 1, none⟩ = some (.string d) := by
  obtain ⟨ao, cap, e, h1, h2, h3⟩ := h
  injection e with e1 e2 e3
  subst e1
  obtain ⟨gb, off, e, hg, c, hc⟩ := h3 0 hL
  exact ⟨gb, off, _, e, hg, by simpa using hc⟩
set_option maxRecDepth 100000 in
set_option maxHeartbeats 8000000 in
theorem torn_walk (n : Int) (v pv : Value) (l : List Stp) (bs : List Bool) (W : World) (hl : TLie W v l) (hbs : BLie W pv bs) : Calls Try.prog 6 #[.int .i64 n, v, pv] W fun e w' => e = .returned (.bool true) ∧ Below W.heap.size W w' := by
  have HSp := hid (fun w => speaks_any w)
  have HT := hid hl
  have HBS := hid hbs
  obtain ⟨ao, cap, rfl, hlc, hcm, hcell⟩ := hl
  have HC := hid hcell
  clear hcell
  obtain ⟨po, pc, rfl, hp1, hp2, _⟩ := hbs
  unfold maxLen at hcm hp2
  by_cases hl3 : 300 < l.length
  · go_enter Try.func6, Try.ntmps6
    go_wp2_with (first
      | (go_at_call 11; refine (HSp.out _).mono ?_; rintro e w2 ⟨rfl, hb2⟩))
    go_ret
    exact ⟨rfl, hb2⟩
  · by_cases hn : 8 ≤ n ∧ n ≤ 256
    · obtain ⟨p, rfl⟩ : ∃ p : Nat, n = (p : Int) + 1 := ⟨(n - 1).toNat, by omega⟩
      have hp : 7 ≤ p ∧ p ≤ 255 := by omega
      have HPl := hid (played_go p hp _ _ l bs (by omega) W HT.out HBS.out)
      clear hn
      go_enter Try.func6, Try.ntmps6
      go_wp2_with (go_at_call 29; fail)
      refine (HPl.out).mono ?_
      rintro e w1 hPP
      obtain ⟨g, r, rb, T, F, S, Ls, A, hv, vs, ho, hcap, rfl, hP, hO, hR, hV, hB⟩ := hPP
      have HP := hid hP
      have HV := hid hV
      have HB := hid hB
      have hal := hP.al
      have o1 := hO.t
      have o2 := hO.f
      have o3 := hO.fm
      have o4 := hO.s
      have o5 := hO.len
      rw [List.length_map] at o3 o4 o5
      have o6 := hO.sum
      rw [sum_used] at o6
      have hus := used_cut Ls S
      have hTk : (Ls.take S).length = S := by rw [List.length_take]; omega
      have HRi : Hid (∀ L ∈ Ls.take S, right L = true) := hid (fun L hL => hP.ri L (List.mem_of_mem_take hL))
      have HD : Hid (decs F (A.drop T ++ A.take T) (Ls.take S)) := hid (decs_encs HRi.out o2 (by omega) hR.s)
      have hSp : S ≤ p := by
        have := sumI_len hO.pos
        rw [List.length_map, sum_used] at this
        omega
      have HOpen : Hid (∀ (A' : List ByteArray) (w : World), A'.length = p → (∀ b ∈ A', b.size = 128) → RG w rb (hdB T F (F + S) :: A') → Calls Try.prog 26 #[.slice (some ⟨rb, 0, none⟩) (p + 1) (p + 1)] w fun e w' => OP w.heap.size p T F S (A'.drop T ++ A'.take T) e w' ∧ Below w.heap.size w w') := by
        intro A' w hA' hz hrg
        have := open_go (.slice (some ⟨rb, 0, none⟩) (p + 1) (p + 1)) (hdB T F (F + S)) A' w (by have := hrg.lie (by simp [hA']; omega); rw [List.length_cons, hA'] at this; exact this) (by
          intro b hb
          rcases List.mem_cons.1 hb with rfl | hb
          · rw [hdB_size]; decide
          · rw [hz b hb]; decide) (by omega) T F S (hdB_isHdr (by omega) (by omega) (by omega)) (by omega) o2 (by omega) (by omega)
        rw [hA'] at this
        exact this
      have HRg := hid hP.rg
      have hWrb := hP.b3
      have hrl1 := hP.rg.lt
      have HAz := hid hP.az
      have HRs := hid hR.s
      obtain ⟨U, hU⟩ : ∃ U, U = hdB T F (F + S) := ⟨_, rfl⟩
      rw [← hU] at HOpen HRg
      have hpos : ∀ x ∈ (Ls.take S).map szL, 1 ≤ x := by
        intro x hx
        rw [List.map_take] at hx
        exact hO.pos x (List.mem_of_mem_take hx)
      have HPos := hid hpos
      clear hpos hU hP hO hR hV hB
      go_wp2_with (go_at_call 26; fail)
      refine (HOpen.out A _ hal HAz.out HRg.out).mono ?_
      rintro e w2 ⟨⟨hyes, _⟩, hb2⟩
      obtain ⟨g2, r2, tb, vs2, rfl, hOS⟩ := hyes _ hTk HD.out
      have HV2 := hid (HV.out.below hb2)
      have HR2 := hid (HRg.out.same (hb2.block rb HRg.out.lt))
      have HTr : Hid (VL w2 (.slice (some ⟨tb, 0, none⟩) S S) (Ls.take S)) := by
        have k := hOS.tr
        have k3 : (Ls.take S).length ≤ 300 := by rw [hTk]; omega
        have k4 : TR w2 tb (Ls.take S).length vs2 (Ls.take S) := by rw [hTk]; exact k
        have k5 := k4.vl k3
        rw [hTk] at k5
        exact hid k5
      have HTS0 : Hid (TS w1 rb g2 r2 w2 p T F S ((Ls.take S).map szL) U A (used (Ls.take S)) (encs F (Ls.take S))) :=
        hid ⟨hOS.js, HR2.out, hal, HAz.out, HRs.out, HRg.out.lt, hOS.b1, hOS.b2, hb2.size, fun x hx _ => hb2.block x hx, hb2.os, hb2.tape, hb2.output, HPos.out, by rw [sum_used]; omega, by rw [sum_used]; exact Int.le_refl _⟩
      have HTS := hid (fun w tb h h' => told_same (.slice (some ⟨tb, 0, none⟩) S S) (.slice ho S hcap) (Ls.take S) w h h')
      have HDec : Hid (∀ A' : List ByteArray, (rot A' T).take (used (Ls.take S)) = encs F (Ls.take S) → decs F (A'.drop T ++ A'.take T) (Ls.take S)) := fun A' h => decs_encs HRi.out o2 (by omega) h
      obtain ⟨K, hK⟩ : ∃ K, K = Ls.take S := ⟨_, rfl⟩
      rw [← hK] at HTS0 HTS HDec HTr HV2 hTk HRi HV
      clear hK
      obtain ⟨M0, hM0⟩ : ∃ M0, M0 = K.map szL := ⟨_, rfl⟩
      obtain ⟨u0, hu0⟩ : ∃ u0, u0 = used K := ⟨_, rfl⟩
      obtain ⟨E0, hE0⟩ : ∃ E0, E0 = encs F K := ⟨_, rfl⟩
      rw [← hM0, ← hu0, ← hE0] at HTS0
      rw [← hu0, ← hE0] at HDec
      clear hM0 hu0 hE0 hyes hb2 hOS HD HR2 HRs HAz HPos HPl hus
      have hs0 := HTS0.out.sum
      have hs1 := HTS0.out.su
      go_wp2_with (first
        | (go_at_call 28; refine (HTS.out _ _ HTr.out HV2.out).mono ?_; rintro e w3 ⟨rfl, hb3⟩; have HTS3 := hid (HTS0.out.keep hb3); clear hb3)
        | (go_at_call 22; refine (jfree _ _ _ _ _ _ _ (by omega) (by omega) (fun x hx => by have := HTS3.out.pos x hx; omega) HTS3.out.sum _ HTS3.out.js).mono ?_; rintro e w4 ⟨rfl, q4, hw4⟩; have HTS4 := hid (HTS3.out.keep (w' := w4) (by rw [hw4]; exact ⟨rfl, rfl, rfl, Nat.le_refl _, fun _ _ => rfl⟩)); clear hw4)
        | (go_at_call 12; fail))
      obtain ⟨fr, hfr⟩ : ∃ fr, fr = (p : Int) - sumI M0 := ⟨_, rfl⟩
      rw [← hfr]
      have hfr1 : 0 ≤ fr ∧ fr ≤ 300 := by omega
      clear hfr
      have HTS4a := hid (HTS4.out.keep (below_alloc w4 (.cells #[] 68)))
      refine (append_e HTS4a.out hp (by omega) o2 (by omega) _ 0 (by decide)).mono ?_
      rintro e w5 ⟨r5, M5, av, fv, rfl, hTS5, hAV5⟩
      have HTS5 := hid hTS5
      have HAV5 := hid hAV5
      have HAp : Hid (∀ (g : Nat) (r : Option Nat) (w : World) (M : List Int) (A : List ByteArray), TS w1 rb g r w p T F S M U A u0 E0 → ∀ (ao : Option Addr), Calls Try.prog 12 #[.pointer (some ⟨g, 0, none⟩), .slice ao 0 0] w fun e w' => ∃ r' M' av fv, e = .returned (.tuple #[av, fv]) ∧ TS w1 rb g r' w' p T F S M' U A u0 E0 ∧ AV w1 p T u0 av fv w') := fun g r w M A h ao => append_e h hp (by omega) o2 (by omega) ao 0 (by decide)
      clear hTS5 hAV5 HTS0 HTS3 HTS4 HTS4a hs0 hs1
      go_wp2
      go_loopw [14, 15, 16] (fun av fv i wr => ∃ (q : Nat) (r' : Option Nat) (M' : List Int) (A' : List ByteArray), i = .int .i64 q ∧ q ≤ l.length ∧ TS w1 rb g2 r' wr p T F S M' U A' u0 E0 ∧ AV w1 p T u0 av fv wr) (fun _ _ i _ => l.length - (intOf i).toNat)
      case atStart => exact ⟨0, r5, M5, A, rfl, Nat.zero_le _, HTS5.out, HAV5.out⟩
      case round =>
        obtain ⟨q, r6, M6, A6, rfl, hq, hT6, hA6⟩ := hrel
        have HT6 := hid hT6
        clear hT6 HTS5 HAV5
        rcases hA6 with ⟨rfl, rfl⟩ | ⟨wb, u, d, rfl, rfl, hwb, hu1, hu2, hC6⟩
        · have HK1 : Hid (Below W.heap.size W wr) := hid (HB.out.trans (HT6.out.below hWrb))
          have HV6 : Hid (VL wr (.slice ho S hcap) K) := hid (HV.out.frame HRg.out HT6.out.sz HT6.out.fr)
          go_wp2_with (go_at_call 26; fail)
          refine (HOpen.out A6 _ HT6.out.al HT6.out.az HT6.out.rg).mono ?_
          rintro e w7 ⟨⟨hy7, _⟩, hb7⟩
          obtain ⟨g7, r7, tb7, vs7, rfl, hOS7⟩ := hy7 _ hTk (HDec.out A6 HT6.out.ta)
          have HV7 := hid (HV6.out.below hb7)
          have HK7 := hid (HK1.out.next hb7)
          have HTr7 : Hid (VL w7 (.slice (some ⟨tb7, 0, none⟩) S S) K) := by
            have k := hOS7.tr
            have k3 : K.length ≤ 300 := by omega
            rw [← hTk] at k
            have k5 := k.vl k3
            rw [hTk] at k5
            exact hid k5
          clear hy7 hb7 hOS7
          go_wp2_with (first
            | (go_at_call 28; refine (HTS.out _ _ HTr7.out HV7.out).mono ?_; rintro e w8 ⟨rfl, hb8⟩; have HK8 := hid (HK7.out.next hb8); clear hb8)
            | (go_at_call 11; refine (HSp.out _).mono ?_; rintro e w9 ⟨rfl, hb9⟩; have HK9 := hid (HK8.out.next hb9); clear hb9))
          go_ret
          exact ⟨rfl, HK9.out⟩
        · have HC6 := hid hC6
          clear hC6
          by_cases hqf : q < fr
          · by_cases hql : q < l.length
            · have hwrl := lt_of_block (show wr.heap[rb]? = _ from HT6.out.rg.choose_spec.1)
              go_wp2
              go_loopw [88] (fun i wz => ∃ (k : Nat) (A7 : List ByteArray), i = .int .i64 k ∧ k ≤ 1 ∧ TS w1 rb g2 r6 wz p T F S M6 U A7 u0 E0 ∧ CLie wz (.slice (some ⟨wb, 0, none⟩) 1 1) [⟨1 + (((T + u) % p : Nat) : Int), d⟩]) (fun i _ => 1 - (intOf i).toNat)
              case atStart => exact ⟨0, A6, rfl, by omega, HT6.out, HC6.out⟩
              case round =>
                obtain ⟨k, A7, rfl, hk1, hT7, hC7⟩ := hrel
                have HT7 := hid hT7
                have HC7 := hid hC7
                clear hT7 hC7 HT6 HC6 hwrl
                by_cases hk0 : k < 1
                · have hke : k = 0 := by omega
                  subst hke
                  obtain ⟨zz, hzz⟩ : ∃ zz, zz = (T + u) % p := ⟨_, rfl⟩
                  have hzl : zz < p := by rw [hzz]; exact Nat.mod_lt _ (by omega)
                  obtain ⟨ww, hww⟩ : ∃ ww, ww = zz + 1 := ⟨_, rfl⟩
                  obtain ⟨_, _, e0, _, _, hcc⟩ := HC7.out
                  injection e0 with e1 e2 e3
                  obtain ⟨gb, of9, e4, hgb, v0, v1⟩ := hcc 0 (by simp)
                  rw [← e1] at e4
                  injection e4 with e5
                  injection e5 with e6 e7 e8
                  subst e6 e7
                  simp only [List.getElem_cons_zero, Nat.zero_mul, Nat.add_zero, Nat.zero_add] at v0 v1
                  rw [← hzz, show 1 + (zz : Int) = (ww : Int) by omega] at v0
                  have HZ := hid hzz
                  have HW := hid hww
                  have hw1 : 1 ≤ ww ∧ ww < p + 1 := by omega
                  clear hcc e1 e2 e3 hzz hww
                  obtain ⟨bb, off, rfl, hbW, s0, s1, s2, s3⟩ := HC.out q hql
                  obtain ⟨y, hy⟩ : ∃ y, y = l[q] := ⟨_, rfl⟩
                  rw [← hy] at s0 s1 s2 s3
                  clear hy
                  obtain ⟨KK, NN, lv, L⟩ := y
                  simp only at s0 s1 s2 s3
                  have HLW := hid s3
                  obtain ⟨la, lcap, rfl, hla1, hla2, _⟩ := s3
                  unfold maxLen at hla2
                  have HK7 : Hid (Below W.heap.size W wr) := hid (HB.out.trans (HT7.out.below hWrb))
                  have HBa := hid (below_alloc wr (.cells #[.int .i64 (ww : Int), .string d] 42))
                  have HTa := hid (HT7.out.keep HBa.out)
                  have HCa := hid (HC7.out.below HBa.out)
                  have HKa := hid (HK7.out.next HBa.out)
                  have hV := box_at wr (.cells #[.int .i64 (ww : Int), .string d] 42)
                  have HVx := hid hV
                  clear hV s0 s1
                  have hzb : (wr.alloc (.cells #[.int .i64 (ww : Int), .string d] 42)).heap.size = wr.heap.size + 1 := by simp
                  go_upto_region 17 with fail
                  obtain ⟨xb, hxb⟩ : ∃ xb, xb = wr.alloc (.cells #[.int .i64 (ww : Int), .string d] 42) := ⟨_, rfl⟩
                  rw [← hxb] at HTa HCa HKa HVx hzb ⊢
                  clear hxb HBa HT7 HC7 HK7 v0 v1
                  obtain ⟨y0, y1⟩ := two_cells HVx.out
                  have hlb : wr.heap.size < xb.heap.size := by omega
                  have t2 := (HKa.out.cell (p := ⟨bb, off + q * 3 + 2, none⟩) hbW).trans s2
                  have hbr : bb < xb.heap.size := Nat.lt_of_lt_of_le hbW HKa.out.size
                  clear s2
                  by_cases hL : 0 < L.length
                  · obtain ⟨gL, oL, dd, rfl, hgL, cL⟩ := stp_first HLW.out hL
                    have cL := (HKa.out.cell (p := ⟨gL, oL + 1, none⟩) hgL).trans cL
                    have hgLx : gL < xb.heap.size := Nat.lt_of_lt_of_le hgL HKa.out.size
                    by_cases hd : dd.size = 128
                    · have HTs := hid (HTa.out.rset (u := u) (x := dd) (by omega) hu1 hu2 hd)
                      have HCs : Hid (CLie (xb.setCell ⟨rb, (T + u) % p + 1, none⟩ (.string dd)) (.slice (some ⟨wb, 0, none⟩) 1 1) [⟨1 + (((T + u) % p : Nat) : Int), d⟩]) := hid (HCa.out.same (by simp) (by intro x hx; cases hx; exact Below.heap_setCell _ _ _ _ (Nat.ne_of_gt (Nat.lt_of_lt_of_le hrl1 hwb))))
                      rw [← HZ.out, ← HW.out] at HTs HCs
                      obtain ⟨y9, c9⟩ : ∃ y9, xb.cell? ⟨rb, ww, none⟩ = some (.string y9) := ⟨_, HTa.out.rg.cell ww (by simp [HTa.out.al]; omega)⟩
                      have f9 := HTa.out.rg.free ww
                      have l9 := HTa.out.rg.lt
                      go_wp2
                      go_region
                      all_goals
                        go_wp2
                        go_roundw
                        case rel => exact ⟨1, A7.set zz dd, by go_num, by omega, HTs.out.keep ⟨rfl, rfl, rfl, Nat.le_refl _, fun _ _ => rfl⟩, by rw [HZ.out] at HCs; exact HCs.out.below ⟨rfl, rfl, rfl, Nat.le_refl _, fun _ _ => rfl⟩⟩
                        case measure => simp [intOf]
                    · have hd2 : ((dd.size : Int) == 128) = false := by simp; omega
                      go_wp2
                      go_roundw
                      case rel => exact ⟨1, A7, by go_num, by omega, HTa.out, HCa.out⟩
                      case measure => simp [intOf]
                  · go_wp2
                    go_roundw
                    case rel => exact ⟨1, A7, by go_num, by omega, HTa.out, HCa.out⟩
                    case measure => simp [intOf]
                · have hke : k = 1 := by omega
                  subst hke
                  go_wp2_with (go_at_call 12; fail)
                  have HTa := hid (HT7.out.keep (below_alloc _ (.cells #[] 68)))
                  refine (HAp.out _ _ _ _ _ HTa.out _).mono ?_
                  rintro e w8 ⟨r8, M8, av8, fv8, rfl, hT8, hA8⟩
                  go_wp2
                  go_roundw
                  case rel => exact ⟨q + 1, r8, M8, A7, by go_num, by omega, hT8, hA8⟩
                  case measure => simp [intOf]; omega
            · have HK1 : Hid (Below W.heap.size W wr) := hid (HB.out.trans (HT6.out.below hWrb))
              have HV6 : Hid (VL wr (.slice ho S hcap) K) := hid (HV.out.frame HRg.out HT6.out.sz HT6.out.fr)
              go_wp2_with (go_at_call 26; fail)
              refine (HOpen.out A6 _ HT6.out.al HT6.out.az HT6.out.rg).mono ?_
              rintro e w7 ⟨⟨hy7, _⟩, hb7⟩
              obtain ⟨g7, r7, tb7, vs7, rfl, hOS7⟩ := hy7 _ hTk (HDec.out A6 HT6.out.ta)
              have HV7 := hid (HV6.out.below hb7)
              have HK7 := hid (HK1.out.next hb7)
              have HTr7 : Hid (VL w7 (.slice (some ⟨tb7, 0, none⟩) S S) K) := by
                have k := hOS7.tr
                have k3 : K.length ≤ 300 := by omega
                rw [← hTk] at k
                have k5 := k.vl k3
                rw [hTk] at k5
                exact hid k5
              clear hy7 hb7 hOS7
              go_wp2_with (first
                | (go_at_call 28; refine (HTS.out _ _ HTr7.out HV7.out).mono ?_; rintro e w8 ⟨rfl, hb8⟩; have HK8 := hid (HK7.out.next hb8); clear hb8)
                | (go_at_call 11; refine (HSp.out _).mono ?_; rintro e w9 ⟨rfl, hb9⟩; have HK9 := hid (HK8.out.next hb9); clear hb9))
              go_ret
              exact ⟨rfl, HK9.out⟩
          · have HK1 : Hid (Below W.heap.size W wr) := hid (HB.out.trans (HT6.out.below hWrb))
            have HV6 : Hid (VL wr (.slice ho S hcap) K) := hid (HV.out.frame HRg.out HT6.out.sz HT6.out.fr)
            go_wp2_with (go_at_call 26; fail)
            refine (HOpen.out A6 _ HT6.out.al HT6.out.az HT6.out.rg).mono ?_
            rintro e w7 ⟨⟨hy7, _⟩, hb7⟩
            obtain ⟨g7, r7, tb7, vs7, rfl, hOS7⟩ := hy7 _ hTk (HDec.out A6 HT6.out.ta)
            have HV7 := hid (HV6.out.below hb7)
            have HK7 := hid (HK1.out.next hb7)
            have HTr7 : Hid (VL w7 (.slice (some ⟨tb7, 0, none⟩) S S) K) := by
              have k := hOS7.tr
              have k3 : K.length ≤ 300 := by omega
              rw [← hTk] at k
              have k5 := k.vl k3
              rw [hTk] at k5
              exact hid k5
            clear hy7 hb7 hOS7
            go_wp2_with (first
              | (go_at_call 28; refine (HTS.out _ _ HTr7.out HV7.out).mono ?_; rintro e w8 ⟨rfl, hb8⟩; have HK8 := hid (HK7.out.next hb8); clear hb8)
              | (go_at_call 11; refine (HSp.out _).mono ?_; rintro e w9 ⟨rfl, hb9⟩; have HK9 := hid (HK8.out.next hb9); clear hb9))
            go_ret
            exact ⟨rfl, HK9.out⟩
    · have HPl := hid (fun w => played_no n hn (.slice ao l.length cap) (.slice po bs.length pc) w)
      by_cases hn8 : n < 8
      · clear hn
        go_enter Try.func6, Try.ntmps6
        go_wp2_with (first
          | (go_at_call 29; refine (HPl.out _).mono ?_; rintro e w1 ⟨rfl, hw⟩; have hw := hw.symm; subst hw)
          | (go_at_call 11; refine (HSp.out _).mono ?_; rintro e w2 ⟨rfl, hb2⟩))
        go_ret
        exact ⟨rfl, hb2⟩
      · have hn9 : 256 < n := by omega
        clear hn
        go_enter Try.func6, Try.ntmps6
        go_wp2_with (first
          | (go_at_call 29; refine (HPl.out _).mono ?_; rintro e w1 ⟨rfl, hw⟩; have hw := hw.symm; subst hw)
          | (go_at_call 11; refine (HSp.out _).mono ?_; rintro e w2 ⟨rfl, hb2⟩))
        go_ret
        exact ⟨rfl, hb2⟩
end Go.Proofs.Ytmcahiebcflfoaa
