import Derived.Sort.OwnSortedInts
import Derived.Test.YtmemelamgldpcaaVd
namespace Go.Proofs.Ytmemelamgldpcaa
open Go.RowKit Go.Shelf Go.Maps Go.Sort

/-- a slice reads as numbers -/
def ILie (w : World) (v : Value) (l : List Int) : Prop :=
  ∃ ao cap, v = .slice ao l.length cap ∧ l.length ≤ cap ∧ cap ≤ maxLen ∧ ∀ i (hi : i < l.length), ∃ gb off, ao = some ⟨gb, off, none⟩ ∧ gb < w.heap.size ∧ w.cell? ⟨gb, off + i, none⟩ = some (.int .i64 l[i])
theorem ILie.below {w w' : World} {v : Value} {l : List Int} (h : ILie w v l) (k : Below w.heap.size w w') : ILie w' v l := by
  obtain ⟨ao, cap, e, h1, h2, h3⟩ := h
  refine ⟨ao, cap, e, h1, h2, fun i hi => ?_⟩
  obtain ⟨gb, off, e1, hg, c0⟩ := h3 i hi
  exact ⟨gb, off, e1, Nat.lt_of_lt_of_le hg k.size, (k.cell (p := ⟨gb, off + i, none⟩) hg).trans c0⟩
theorem ILie.some {w : World} {v : Value} {l : List Int} (h : ILie w v l) (hl : 0 < l.length) : ∃ b off cap, v = .slice (some ⟨b, off, none⟩) l.length cap ∧ b < w.heap.size ∧ ∀ i (hi : i < l.length), w.cell? ⟨b, off + i, none⟩ = some (.int .i64 l[i]) := by
  obtain ⟨ao, cap, e, h1, h2, h3⟩ := h
  obtain ⟨gb, off, e1, hg, _⟩ := h3 0 hl
  subst e1
  refine ⟨gb, off, cap, e, hg, fun i hi => ?_⟩
  obtain ⟨gb', off', e2, _, c⟩ := h3 i hi
  cases e2
  exact c
def srt (l : List Int) : List Int := l.mergeSort fun x y => decide (x ≤ y)
theorem srt_length (l : List Int) : (srt l).length = l.length := List.length_mergeSort _
set_option maxRecDepth 100000 in
theorem collect_any {sv : Value} {zs : List Int} {Bs m : Nat} {w : World} (hlen : zs.length ≤ 8) (hBs : Bs < w.heap.size) (hm : m ≤ w.heap.size) (hc : w.cell? ⟨Bs, 0, none⟩ = some sv) (hI : Ints m w sv zs) :
    Calls Try.prog 47 #[.func (.func 49) #[] #[.pointer (some ⟨Bs, 0, none⟩)]] w fun e W' => ∃ v, e = .returned v ∧ W'.ownsRow w.heap.size 3 1 v zs.length (zs.map (Value.int .i64)) ∧ Below w.heap.size w W' := by
  have cA : Calls Try.prog 63 _ w _ := (callsIn_wide (n := 5)).1 (appendSeq_in Fence.wide 5 trivial trivial rfl (by omega) sv zs (by unfold maxLen; omega) (by omega) Bs m w hBs hm hc hI)
  go_enter Try.func47, Try.ntmps47
  go_wp2_with (first | (go_at_call 63; refine cA.mono ?_; rintro e w' ⟨v, rfl, hr, hb⟩))
  go_ret
  exact ⟨v, rfl, hr, hb⟩
set_option maxRecDepth 100000 in
theorem sorted_any {sv : Value} {zs : List Int} {Bs m : Nat} {w : World} (hlen : zs.length ≤ 8) (hz : 0 < zs.length) (hBs : Bs < w.heap.size) (hm : m ≤ w.heap.size) (hc : w.cell? ⟨Bs, 0, none⟩ = some sv) (hI : Ints m w sv zs) :
    Calls Try.prog 27 #[.func (.func 49) #[] #[.pointer (some ⟨Bs, 0, none⟩)]] w fun e W' => ∃ g cap, e = .returned (.slice (some ⟨g, 0, none⟩) zs.length cap) ∧ W'.ownsRow w.heap.size 3 1 (.slice (some ⟨g, 0, none⟩) zs.length cap) zs.length ((srt zs).map (Value.int .i64)) ∧ Below w.heap.size w W' := by
  have cC := collect_any hlen hBs hm hc hI
  have cS := fun blk off cap W hH hb hs => AnyM.slices_Sort_int Try.sortA blk off cap zs W hH hb hs
  change ∀ blk off cap W, _ → _ → _ → Calls Try.prog 48 _ _ _ at cS
  clear hc hI
  go_enter Try.func27, Try.ntmps27
  go_wp2_with (go_at_call 47; refine cC.mono ?_; rintro e w1 ⟨v, rfl, hrow, hb⟩; rcases hrow.2 with ⟨rfl, hz'⟩ | ⟨gb, cap, cur, rfl, hbase, hgb, r1, r2, r3, r4⟩)
  · omega
  · have hH : Holds (Value.int .i64) w1 gb 0 zs.toArray := holds_of_blockI hgb (by simpa using r4)
    have hgl : gb < w1.heap.size := (Array.getElem?_eq_some_iff.1 hgb).1
    have cT := cS gb 0 cap w1 hH hgl (by omega)
    clear cS cC
    go_wp2_with (first | (go_at_call 48; refine cT.mono ?_; rintro e w2 ⟨rfl, nn, os, rfl⟩))
    go_ret
    exact ⟨gb, cap, rfl, ownsRow_sortedI (srt_length zs) hbase hgb r1 r2 r3, hb.grown (grownBy_sortedI _) hb.size (fun j hj => by cases hj; exact hbase)⟩
set_option maxRecDepth 100000 in
theorem wrong_any (x : Int) (w : World) : Calls Try.prog 26 #[.int .i64 x] w fun e w' => e = .returned (.bool (!up x 1099511627776)) ∧ w' = w := by
  go_enter Try.func26, Try.ntmps26
  go_wp2_with (first | (go_at_call 24; refine (isUpTo_any _ _ _).mono ?_; rintro e w' ⟨rfl, rfl⟩))
  go_ret
  exact ⟨rfl, rfl⟩
def comK (l : List Int) : Bool := nod (l.length : Int) && !(l.any fun x => !up x 1099511627776)
def comR (l : List Int) : Int := if comK l then (srt l).getD (l.length / 2) 0 else 0
def comE (l : List Int) : Int := if comK l then 0 else 1
theorem contains_any {v : Value} {l : List Int} {w : World} (h : ILie w v l) (hl : 0 < l.length) (h8 : l.length ≤ 8) : Calls Try.prog 25 #[v, .func (.func 26) #[] #[]] w fun e w' => e = .returned (.bool (l.any fun x => !up x 1099511627776)) ∧ ∃ q, w' = w.drewN q := by
  obtain ⟨b, off, cap, rfl, hb, hc⟩ := h.some hl
  have hcon := AnyE.slices_ContainsFunc Try.containsF (Value.int .i64) (fun x => !up x 1099511627776) 26 #[] (enters_of Try.func26 (by kernel_rfl) rfl) b off l.length cap l w (fun W s _ => (wrong_any s W).mono fun e w' ⟨he, hw⟩ => ⟨he, 0, hw⟩) (Nat.le_refl _) (by omega) (fun j hj => by rw [hc j hj]; congr 2; exact (getElem!_pos l j hj).symm)
  rw [List.take_length] at hcon
  exact hcon
theorem _root_.Go.RowKit.Below.dN {B : Nat} {w w' : World} (h : Below B w w') (n : Nat) : Below B w (w'.drewN n) := ⟨h.os, h.tape, h.output, h.size, h.block⟩
set_option maxRecDepth 100000 in
set_option maxHeartbeats 1000000 in
theorem commit_any {v : Value} {l : List Int} {w : World} (h : ILie w v l) : Calls Try.prog 15 #[v] w fun e w' => e = .returned (.tuple #[.int .i64 (comR l), .int .i64 (comE l)]) ∧ Below w.heap.size w w' := by
  rcases hn : nod (l.length : Int) with _ | _
  · have e1 : comK l = false := by unfold comK; rw [hn]; rfl
    have e2 : comR l = 0 := by unfold comR; rw [e1]; rfl
    have e3 : comE l = 1 := by unfold comE; rw [e1]; rfl
    have e4 : enoE (l.length : Int) = 1 := by unfold enoE; rw [hn]; rfl
    rw [e2, e3]
    clear e1 e2 e3
    obtain ⟨ao, cap, rfl, _, _, _⟩ := h
    obtain ⟨n, hn'⟩ : ∃ n, n = l.length := ⟨_, rfl⟩
    rw [← hn'] at e4 ⊢
    clear hn' hn
    go_enter Try.func15, Try.ntmps15
    go_wp2_with (first | (go_at_call 9; refine (enough_any _ _).mono ?_; rintro e w' ⟨rfl, rfl⟩; rw [e4]))
    go_ret2
    exact ⟨rfl, Below.refl _ _⟩
  · have hl : l.length = 1 ∨ l.length = 3 ∨ l.length = 5 ∨ l.length = 7 := by have := (nod_iff _).1 hn; omega
    have e4 : enoE (l.length : Int) = 0 := by unfold enoE; rw [hn]; rfl
    have e5 : enoR (l.length : Int) = ((l.length / 2 : Nat) : Int) + 1 := by unfold enoR; rw [hn]; simp
    have hC := hid (fun W (hi : ILie W v l) => contains_any hi (by omega) (by omega))
    rcases hu : l.any (fun x => !up x 1099511627776) with _ | _
    · have e1 : comK l = true := by unfold comK; rw [hn, hu]; rfl
      have e2 : comR l = (srt l).getD (l.length / 2) 0 := by unfold comR; rw [e1]; rfl
      have e3 : comE l = 0 := by unfold comE; rw [e1]; rfl
      rw [hu] at hC
      rw [e2, e3]
      clear e1 e2 e3
      obtain ⟨b, off, cap, rfl, hb, hc⟩ := h.some (by omega)
      have hi := hid h
      have hS := hid (fun (W : World) (hB : Below w.heap.size w W) => sorted_any (sv := .slice (some ⟨b, off, none⟩) l.length cap) (zs := l) (Bs := W.heap.size) (m := W.heap.size) (w := W.alloc (.cells #[.slice (some ⟨b, off, none⟩) l.length cap] 32)) (by omega) (by omega) (by simp) (by simp) (by rw [World.cell?_alloc_at _ _ _ _ rfl]; rfl) (.inr ⟨b, off, cap, rfl, Nat.lt_of_lt_of_le hb hB.size, fun j hj => by
        rw [((Below.refl _ _).alloc (Nat.le_refl _) _ : Below W.heap.size W (W.alloc _)).cell (p := ⟨b, off + j, none⟩) (Nat.lt_of_lt_of_le hb hB.size), hB.cell (p := ⟨b, off + j, none⟩) hb]; exact hc j hj⟩))
      obtain ⟨x, hx⟩ : ∃ x, x = (srt l).getD (l.length / 2) 0 := ⟨_, rfl⟩
      have hN := hid (srt_length l)
      have hX : Hid (∀ (W : World) (n g cp : Nat), W.ownsRow n 3 1 (.slice (some ⟨g, 0, none⟩) l.length cp) l.length ((srt l).map (Value.int .i64)) → W.cell? ⟨g, l.length / 2, none⟩ = some (.int .i64 x)) := hid fun W n g cp hr => by
        have := hr.cellAt (l.length / 2) (by omega)
        rw [hx]
        simpa [srt_length, show l.length / 2 < l.length by omega] using this
      rw [← hx]
      obtain ⟨n, hn'⟩ : ∃ n, n = l.length := ⟨_, rfl⟩
      rw [← hn'] at e4 e5 hS hX ⊢
      obtain ⟨m, hm⟩ : ∃ m, m = n / 2 := ⟨_, rfl⟩
      rw [← hm] at e5 hX
      have hmn : n = 2 * m + 1 := by omega
      have hm3 : m ≤ 3 := by omega
      have hi' : Hid (∀ W, Below w.heap.size w W → ILie W (.slice (some ⟨b, off, none⟩) n cap) l) := hid fun W hB => by rw [hn']; exact hi.out.below hB
      rw [← hn'] at hC
      clear hn hl hu h hc hi
      replace hn' := hid hn'
      replace hx := hid hx
      replace hm := hid hm
      have hq : (n : Int) - ((m : Int) + 1) = (m : Int) := by omega
      have hn7 : n ≤ 7 := by omega
      have hmlt : m < n := by omega
      replace hmn := hid hmn
      go_enter Try.func15, Try.ntmps15
      go_wp2_with (first
        | (go_at_call 9; refine (enough_any _ _).mono ?_; rintro e w' ⟨rfl, he⟩; have he := he.symm; subst he; rw [e4, e5])
        | (go_at_call 25; refine (hC.out _ (hi'.out _ (Below.refl _ _))).mono ?_; rintro e w1 ⟨rfl, q, hq1⟩; have hB1 : Below w.heap.size w w1 := (by rw [hq1]; exact (Below.refl _ _).dN q); clear hq1)
        | (go_at_call 28; refine (values_any _ _ _ _).mono ?_; rintro e w2 ⟨rfl, rfl⟩)
        | (go_at_call 27; refine (hS.out _ hB1).mono ?_; rintro e w3 ⟨g, cp, rfl, hr3, hb3⟩; have hx3 := hX.out _ _ _ _ hr3; rw [World.size_alloc] at hb3))
      go_ret2
      exact ⟨rfl, hB1.trans (((Below.refl _ _).alloc hB1.size _).trans (hb3.mono (by have := hB1.size; omega)))⟩
    · have e1 : comK l = false := by unfold comK; rw [hn, hu]; rfl
      have e2 : comR l = 0 := by unfold comR; rw [e1]; rfl
      have e3 : comE l = 1 := by unfold comE; rw [e1]; rfl
      rw [hu] at hC
      rw [e2, e3]
      clear e1 e2 e3
      obtain ⟨b, off, cap, rfl, hb, hc⟩ := h.some (by omega)
      have hi := hid h
      obtain ⟨n, hn'⟩ : ∃ n, n = l.length := ⟨_, rfl⟩
      rw [← hn'] at e4 hC hi ⊢
      clear hn hl hu h hc e5
      replace hn' := hid hn'
      go_enter Try.func15, Try.ntmps15
      go_wp2_with (first
        | (go_at_call 9; refine (enough_any _ _).mono ?_; rintro e w' ⟨rfl, he⟩; have he := he.symm; subst he; rw [e4])
        | (go_at_call 25; refine (hC.out _ hi.out).mono ?_; rintro e w1 ⟨rfl, q, hq1⟩; have hB1 : Below w.heap.size w w1 := (by rw [hq1]; exact (Below.refl _ _).dN q); clear hq1))
      go_ret2
      exact ⟨rfl, hB1⟩
end Go.Proofs.Ytmemelamgldpcaa
