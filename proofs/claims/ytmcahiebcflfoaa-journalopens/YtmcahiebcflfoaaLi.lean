import Derived.Test.YtmcahiebcflfoaaLf
import Derived.Test.YtmcahiebcflfoaaLg
import Derived.Test.YtmcahiebcflfoaaOs
namespace Go.Proofs.Ytmcahiebcflfoaa
open Go.RowKit Go.Maps
/-- a slice reads as transactions -/
def VL (w : World) (v : Value) (Ls : List (List Chg)) : Prop :=
  ∃ ao cap, v = .slice ao Ls.length cap ∧ Ls.length ≤ cap ∧ cap ≤ maxLen ∧ ∀ i (hi : i < Ls.length), ∃ gb off u, ao = some ⟨gb, off, none⟩ ∧ gb < w.heap.size ∧ w.cell? ⟨gb, off + i, none⟩ = some u ∧ CLie w u Ls[i]
theorem VL.below {w w' : World} {v : Value} {Ls : List (List Chg)} (h : VL w v Ls) (k : Below w.heap.size w w') : VL w' v Ls := by
  obtain ⟨ao, cap, e, h1, h2, h3⟩ := h
  refine ⟨ao, cap, e, h1, h2, fun i hi => ?_⟩
  obtain ⟨gb, off, u, e, hg, c, hc⟩ := h3 i hi
  exact ⟨gb, off, u, e, Nat.lt_of_lt_of_le hg k.size, (k.cell (p := ⟨gb, _, none⟩) hg).trans c, hc.below k⟩
theorem TR.vl {w : World} {tb : Nat} {vs : List Value} {Ls : List (List Chg)} (h : TR w tb Ls.length vs Ls) (hl : Ls.length ≤ 300) : VL w (.slice (some ⟨tb, 0, none⟩) Ls.length Ls.length) Ls := by
  obtain ⟨cur, h1, h2, h3, h4, h5⟩ := h
  refine ⟨_, _, rfl, Nat.le_refl _, by unfold maxLen; omega, fun i hi => ⟨tb, 0, vs[i]'(by omega), rfl, lt_of_block h1, ?_, h5 i (by omega) hi⟩⟩
  rw [Nat.zero_add, cell_of h1]
  exact h4 i (by omega)
theorem VRow.vl {w : World} {v : Value} {vs : List Value} {Ls : List (List Chg)} (h : VRow w v vs) (hl : vs.length = Ls.length) (hc : ∀ i (hi : i < vs.length) (hj : i < Ls.length), CLie w vs[i] Ls[i]) : VL w v Ls := by
  obtain ⟨ao, cap, rfl, h1, h2⟩ := h.len
  refine ⟨ao, cap, by rw [hl], by omega, h2, fun i hi => ?_⟩
  obtain ⟨b, off, e, hb, c⟩ := h.cell i (by omega)
  exact ⟨b, off, _, e, hb, c, hc i (by omega) hi⟩
theorem sameC_refl (l : List Chg) : sameC l l = true := (sameC_iff l l).2 rfl
set_option maxRecDepth 100000 in
theorem told_same (v v' : Value) (Ls : List (List Chg)) (w : World) (h : VL w v Ls) (h' : VL w v' Ls) : Calls Try.prog 28 #[v, v'] w fun e w' => e = .returned (.bool true) ∧ Below w.heap.size w w' := by
  have HA := hid h
  have HA' := hid h'
  obtain ⟨ao, cap, rfl, hlc, hcm, hcell⟩ := h
  obtain ⟨ao', cap', rfl, hlc', hcm', hcell'⟩ := h'
  clear hcell hcell'
  unfold maxLen at hcm hcm'
  go_enter Try.func28, Try.ntmps28
  go_wp2
  go_loopw [13] (fun i wr => ∃ (q : Nat), i = .int .i64 q ∧ q ≤ Ls.length ∧ Below w.heap.size w wr) (fun i _ => Ls.length - (intOf i).toNat)
  case atStart => exact ⟨0, rfl, Nat.zero_le _, Below.refl _ _⟩
  case round =>
    obtain ⟨q, rfl, hq, hB⟩ := hrel
    have HB := hid hB
    clear hB
    by_cases hqk : q < Ls.length
    · obtain ⟨_, _, e, _, _, hc⟩ := HA.out.below HB.out
      injection e with e1 e2 e3
      subst e1
      obtain ⟨gb, off, u, rfl, hgl, c0, hu⟩ := hc q hqk
      obtain ⟨_, _, e', _, _, hc'⟩ := HA'.out.below HB.out
      injection e' with e1' e2' e3'
      subst e1'
      obtain ⟨gb', off', u', rfl, hgl', c0', hu'⟩ := hc' q hqk
      have HU := hid hu
      have HU' := hid hu'
      obtain ⟨ua, uc, rfl, _, _, _⟩ := hu
      obtain ⟨ua', uc', rfl, _, _, _⟩ := hu'
      obtain ⟨L, hL⟩ : ∃ L, L = Ls[q] := ⟨_, rfl⟩
      rw [← hL] at HU HU' c0 c0'
      have HS := hid (fun w h h' => changes_any (.slice ua L.length uc) (.slice ua' L.length uc') L L w h h')
      rw [sameC_refl] at HS
      clear hc hc' e2 e3 e2' e3' hL
      go_wp2
      go_region_held3 (fun w' => w'.cell? ⟨gb, off + q, none⟩ = some (.slice ua L.length uc) ∧ w'.cell? ⟨gb', off' + q, none⟩ = some (.slice ua' L.length uc')) (first | exact ⟨c0, c0'⟩ | exact d1 | go_keep) (first
        | (go_at_call 52; refine (HS.out _ (by exact HU.out.below ⟨rfl, rfl, rfl, Nat.le_refl _, fun _ _ => rfl⟩) (by exact HU'.out.below ⟨rfl, rfl, rfl, Nat.le_refl _, fun _ _ => rfl⟩)).mono ?_; rintro e wa ⟨rfl, hba⟩; have d1 : wa.cell? ⟨gb, off + q, none⟩ = some (.slice ua L.length uc) ∧ wa.cell? ⟨gb', off' + q, none⟩ = some (.slice ua' L.length uc') := ⟨(hba.cell (p := ⟨gb, off + q, none⟩) hgl).trans c0, (hba.cell (p := ⟨gb', off' + q, none⟩) hgl').trans c0'⟩; have HBa : Hid (Below w.heap.size w wa) := hid (HB.out.next ⟨hba.os, hba.tape, hba.output, hba.size, hba.block⟩); clear hba))
      all_goals
        go_wp2
        go_roundw
        case rel => exact ⟨q + 1, by go_num, by omega, HBa.out⟩
        case measure => simp [intOf]; omega
    · go_wp2
      go_ret
      exact ⟨rfl, HB.out⟩
/-- a region in memory -/
def RG (w : World) (rb : Nat) (X : List ByteArray) : Prop := ∃ cur, w.heap[rb]? = some (.cells cur 9 (0, 0)) ∧ cur.size = X.length ∧ ∀ i (hi : i < X.length), cur[i]? = some (.string X[i])
theorem RG.cell {w : World} {rb : Nat} {X : List ByteArray} (h : RG w rb X) (i : Nat) (hi : i < X.length) : w.cell? ⟨rb, i, none⟩ = some (.string X[i]) := by
  obtain ⟨cur, h1, h2, h3⟩ := h
  rw [cell_of h1]
  exact h3 i hi
theorem RG.free {w : World} {rb : Nat} {X : List ByteArray} (h : RG w rb X) (i : Nat) : w.frozen? ⟨rb, i, none⟩ = false := by
  obtain ⟨cur, h1, _⟩ := h
  exact frees h1 i
theorem RG.lt {w : World} {rb : Nat} {X : List ByteArray} (h : RG w rb X) : rb < w.heap.size := by
  obtain ⟨cur, h1, _⟩ := h
  exact lt_of_block h1
theorem RG.same {w w' : World} {rb : Nat} {X : List ByteArray} (h : RG w rb X) (k : w'.heap[rb]? = w.heap[rb]?) : RG w' rb X := by
  obtain ⟨cur, h1, h2⟩ := h
  exact ⟨cur, k.trans h1, h2⟩
theorem RG.set {w : World} {rb : Nat} {X : List ByteArray} (h : RG w rb X) {i : Nat} (hi : i < X.length) (x : ByteArray) : RG (w.setCell ⟨rb, i, none⟩ (.string x)) rb (X.set i x) := by
  obtain ⟨cur, h1, h2, h3⟩ := h
  refine ⟨_, cells_set h1 _, by simp [h2], fun j hj => ?_⟩
  rw [Array.set!_eq_setIfInBounds, List.getElem_set]
  rw [List.length_set] at hj
  by_cases hij : i = j
  · subst hij
    rw [if_pos rfl, Array.getElem?_setIfInBounds_self_of_lt (by omega)]
  · rw [if_neg hij, Array.getElem?_setIfInBounds_ne hij]
    exact h3 j hj
theorem RG.lie {w : World} {rb : Nat} {X : List ByteArray} (h : RG w rb X) (hl : X.length ≤ 1000) : SLie w (.slice (some ⟨rb, 0, none⟩) X.length X.length) X := by
  refine ⟨_, _, rfl, Nat.le_refl _, by unfold maxLen; omega, fun i hi => ⟨rb, 0, rfl, h.lt, ?_⟩⟩
  rw [Nat.zero_add]
  exact h.cell i hi
theorem mkR (n : Nat) (hn : n ≤ 300) : ∃ cs, (∀ w : World, (Instr.makeSlice 58 (.int .i64 (n : Int)) (.int .i64 (n : Int))).run Try.prog w = .ok (.slice (some ⟨w.heap.size, 0, none⟩) n n) (w.alloc (.cells cs 9))) ∧ ∀ w : World, RG (w.alloc (.cells cs 9)) w.heap.size (List.replicate n ⟨#[]⟩) := by
  obtain ⟨i0, hi, hz0, hz1, hz2⟩ := info_parts Try.infoR9
  refine ⟨madeCells (Value.string ⟨#[]⟩).cells n, fun w => ?_, fun w => ⟨_, box_at _ _, by simp [size_madeCells], fun i hi => ?_⟩⟩
  · have := run_makeSlice (P := Try.prog) w 58 9 i0 (.string ⟨#[]⟩) Try.underlying58 hi hz0 .i64 .i64 (n : Int) (n : Int) (by omega) (by omega) (by rw [hz1]; omega) (by rw [hz2]; omega) (by omega)
    have e1 : (n : Int).toNat = n := by omega
    rw [e1, hz1, Nat.mul_one] at this
    exact this
  · rw [List.length_replicate] at hi
    simp [madeCells, Value.cells, hi, Nat.mod_one]
end Go.Proofs.Ytmcahiebcflfoaa
namespace Go.Proofs.Ytmcahiebcflfoaa
open Go.RowKit Go.Maps
/-- a journal, its region, and what the law has of it -/
structure PB (W : World) (g : Nat) (r : Option Nat) (rb : Nat) (w : World) (P T F S : Nat) (M : List Int) (hd : ByteArray) (A : List ByteArray) (hv : Value) (vs : List Value) (Ls : List (List Chg)) : Prop where
  js : JS g r w P T F S M
  rg : RG w rb (hd :: A)
  hr : VRow w hv vs
  hl : vs.length = Ls.length
  hc : ∀ i (hi : i < vs.length) (hj : i < Ls.length), CLie W vs[i] Ls[i]
  al : A.length = P
  az : ∀ b ∈ A, b.size = 128
  ri : ∀ L ∈ Ls, right L = true
  n1 : rb ≠ g
  n2 : some rb ≠ r
  n3 : ∀ x, hv.ownBlock = some x → x ≠ g ∧ some x ≠ r ∧ x ≠ rb
  b1 : W.heap.size ≤ g
  b2 : ∀ x, r = some x → W.heap.size ≤ x
  b3 : W.heap.size ≤ rb
  b4 : ∀ x, hv.ownBlock = some x → W.heap.size ≤ x
section
variable {W : World} {g : Nat} {r : Option Nat} {rb : Nat} {w w' : World} {P T F S : Nat} {M : List Int} {hd : ByteArray} {A : List ByteArray} {hv : Value} {vs : List Value} {Ls : List (List Chg)}
theorem PB.hlt (h : PB W g r rb w P T F S M hd A hv vs Ls) : ∀ x, hv.ownBlock = some x → x < w.heap.size := fun x hx => by
  obtain ⟨cur, hc⟩ := h.hr.own x hx
  exact lt_of_block hc
theorem PB.keep (h : PB W g r rb w P T F S M hd A hv vs Ls) (k : Below w.heap.size w w') : PB W g r rb w' P T F S M hd A hv vs Ls :=
  ⟨h.js.below k, h.rg.same (k.block rb h.rg.lt), h.hr.same fun x hx => k.block x (h.hlt x hx), h.hl, h.hc, h.al, h.az, h.ri, h.n1, h.n2, h.n3, h.b1, h.b2, h.b3, h.b4⟩
theorem PB.jstep {r' : Option Nat} {T' F' S' : Nat} {M' : List Int} (h : PB W g r rb w P T F S M hd A hv vs Ls) (hj : JS g r' w' P T' F' S' M') (hn : New w r r') (hf : JFr g r w w') : PB W g r' rb w' P T' F' S' M' hd A hv vs Ls ∧ Below W.heap.size w w' := by
  have hB : W.heap.size ≤ w.heap.size := Nat.le_trans h.b1 (Nat.le_of_lt h.js.lt.1)
  have hrl := h.rg.lt
  refine ⟨⟨hj, h.rg.same (hf.block rb hrl h.n1 h.n2), h.hr.same fun x hx => hf.block x (h.hlt x hx) (h.n3 x hx).1 (h.n3 x hx).2.1, h.hl, h.hc, h.al, h.az, h.ri, h.n1, ?_, fun x hx => ⟨(h.n3 x hx).1, ?_, (h.n3 x hx).2.2⟩, h.b1, fun x hx => ?_, h.b3, h.b4⟩, hf.below hB h.b1 h.b2⟩
  · rcases hn with rfl | ⟨k, rfl, hk⟩
    · exact h.n2
    · intro e; cases e; omega
  · have := h.hlt x hx
    rcases hn with rfl | ⟨k, rfl, hk⟩
    · exact (h.n3 x hx).2.1
    · intro e; cases e; omega
  · rcases hn with rfl | ⟨k, rfl, hk⟩
    · exact h.b2 x hx
    · cases hx; omega
theorem PB.rset (h : PB W g r rb w P T F S M hd A hv vs Ls) {i : Nat} {x hd' : ByteArray} {A' : List ByteArray} (hi : i < A.length + 1) (he : (hd :: A).set i x = hd' :: A') (hx : x.size = 128) : PB W g r rb (w.setCell ⟨rb, i, none⟩ (.string x)) P T F S M hd' A' hv vs Ls ∧ Below W.heap.size w (w.setCell ⟨rb, i, none⟩ (.string x)) := by
  have hs : ∀ y, y ≠ rb → (w.setCell ⟨rb, i, none⟩ (.string x)).heap[y]? = w.heap[y]? := fun y hy => Below.heap_setCell _ _ _ _ hy
  have hrg := h.rg.set (i := i) (by simpa using hi) x
  rw [he] at hrg
  have hl : A'.length = A.length := by
    have := congrArg List.length he
    simpa using this.symm
  refine ⟨⟨h.js.set h.n1 h.n2 _ _, hrg, h.hr.same fun y hy => hs y (h.n3 y hy).2.2, h.hl, h.hc, hl.trans h.al, fun b hb => ?_, h.ri, h.n1, h.n2, h.n3, h.b1, h.b2, h.b3, h.b4⟩, (Below.refl _ _).setCell h.b3 _⟩
  cases i with
  | zero =>
    simp only [List.set_cons_zero] at he
    injection he with e1 e2
    subst e2
    exact h.az b hb
  | succ i =>
    simp only [List.set_cons_succ] at he
    injection he with e1 e2
    subst e2
    rcases List.mem_or_eq_of_mem_set hb with hb | hb
    · exact h.az b hb
    · rw [hb]; exact hx
theorem PB.hstep {hv' : Value} {vs' : List Value} {Ls' : List (List Chg)} (h : PB W g r rb w P T F S M hd A hv vs Ls) (hr : VRow w' hv' vs') (hg : w.grownBy w' hv.ownBlock) (hn : hv'.ownBlock = hv.ownBlock ∨ ∃ k, hv'.ownBlock = some k ∧ w.heap.size ≤ k) (hl : vs'.length = Ls'.length) (hc : ∀ i (hi : i < vs'.length) (hj : i < Ls'.length), CLie W vs'[i] Ls'[i]) (hri : ∀ L ∈ Ls', right L = true) :
    PB W g r rb w' P T F S M hd A hv' vs' Ls' ∧ Below W.heap.size w w' := by
  have hjl := h.js.lt
  have hrl := h.rg.lt
  have hB : W.heap.size ≤ w.heap.size := Nat.le_trans h.b1 (Nat.le_of_lt hjl.1)
  refine ⟨⟨h.js.same (hg.block g hjl.1 fun e => (h.n3 g e.symm).1 rfl) (fun x hx => hg.block x (hjl.2 x hx).1 fun e => (h.n3 x e.symm).2.1 hx.symm), h.rg.same (hg.block rb hrl fun e => (h.n3 rb e.symm).2.2 rfl), hr, hl, hc, h.al, h.az, hri, h.n1, h.n2, fun x hx => ?_, h.b1, h.b2, h.b3, fun x hx => ?_⟩, ⟨hg.os, hg.tape, hg.output, hg.size, fun k hk => hg.block k (by omega) fun e => by have := h.b4 k e.symm; omega⟩⟩
  · rcases hn with e | ⟨k, e, hk⟩
    · exact h.n3 x (e.symm.trans hx)
    · rw [hx] at e
      cases e
      refine ⟨by omega, fun e => ?_, by omega⟩
      have := (hjl.2 x e.symm).1
      omega
  · rcases hn with e | ⟨k, e, hk⟩
    · exact h.b4 x (e.symm.trans hx)
    · rw [hx] at e
      cases e
      omega
theorem PB.hslice {hv' : Value} {k : Nat} (h : PB W g r rb w P T F S M hd A hv vs Ls) (hr : VRow w hv' (vs.drop k)) (e : hv'.ownBlock = hv.ownBlock) : PB W g r rb w P T F S M hd A hv' (vs.drop k) (Ls.drop k) :=
  ⟨h.js, h.rg, hr, by rw [List.length_drop, List.length_drop, h.hl], fun i hi hj => by
    rw [List.length_drop] at hi hj
    rw [List.getElem_drop, List.getElem_drop]
    exact h.hc (k + i) (by omega) (by omega), h.al, h.az, fun L hL => h.ri L (List.mem_of_mem_drop hL), h.n1, h.n2, fun x hx => h.n3 x (e.symm.trans hx), h.b1, h.b2, h.b3, fun x hx => h.b4 x (e.symm.trans hx)⟩
end
/-- a slice reads as picks -/
def BLie (w : World) (v : Value) (l : List Bool) : Prop :=
  ∃ ao cap, v = .slice ao l.length cap ∧ l.length ≤ cap ∧ cap ≤ maxLen ∧ ∀ i (hi : i < l.length), ∃ gb off, ao = some ⟨gb, off, none⟩ ∧ gb < w.heap.size ∧ w.cell? ⟨gb, off + i, none⟩ = some (.bool l[i])
theorem BLie.nil (w : World) : BLie w (.slice none 0 0) [] := ⟨none, 0, rfl, Nat.le_refl _, by decide, fun i hi => by simp at hi⟩
/-- what the region holds of the transactions -/
structure RV (T F S : Nat) (A : List ByteArray) (Ls : List (List Chg)) (all : Prop) : Prop where
  a : all → (rot A T).take (used Ls) = encs F Ls
  s : (rot A T).take (used (Ls.take S)) = encs F (Ls.take S)
theorem map_szL_take (Ls : List (List Chg)) (k : Nat) : sumI ((Ls.map szL).take k) = (used (Ls.take k) : Int) := by rw [← List.map_take, sum_used]
theorem RV.done {T F S P k : Nat} {A : List ByteArray} {Ls : List (List Chg)} (h : RV T F S A Ls True) (hA : A.length = P) (hT : T < P) (hk : k ≤ S) (hS : S ≤ Ls.length) (hu : used Ls ≤ P) : RV ((T + used (Ls.take k)) % P) (F + k) (S - k) A (Ls.drop k) True := by
  subst hA
  have hc := used_cut Ls k
  have hrl := rot_len A (T := T) (by omega)
  have e1 := rot_rot A (T := T) (u := used (Ls.take k)) hT (by omega)
  have hh := h.a trivial
  have key : (rot (rot A T) (used (Ls.take k))).take (used (Ls.drop k)) = encs (F + k) (Ls.drop k) := by
    have e2 := encs_app F (Ls.take k) (Ls.drop k)
    rw [List.take_append_drop, ← hh, show (Ls.take k).length = k by rw [List.length_take]; omega] at e2
    show ((rot A T).drop (used (Ls.take k)) ++ _).take _ = _
    rw [List.take_append_of_le_length (by rw [List.length_drop]; omega)]
    have e3 : ((rot A T).take (used Ls)).drop (used (Ls.take k)) = encs (F + k) (Ls.drop k) := by
      rw [e2, ← encs_len F (Ls.take k), List.drop_left]
    rw [← e3, List.drop_take]
    congr 1
    omega
  refine ⟨fun _ => by rw [e1]; exact key, ?_⟩
  rw [e1]
  have hc2 := used_cut (Ls.drop k) (S - k)
  have e4 := encs_app (F + k) ((Ls.drop k).take (S - k)) ((Ls.drop k).drop (S - k))
  rw [List.take_append_drop] at e4
  have e5 : (rot (rot A T) (used (Ls.take k))).take (used ((Ls.drop k).take (S - k))) = ((rot (rot A T) (used (Ls.take k))).take (used (Ls.drop k))).take (used ((Ls.drop k).take (S - k))) := by
    rw [List.take_take]
    congr 1
    omega
  rw [e5, key, e4, ← encs_len (F + k) ((Ls.drop k).take (S - k)), List.take_left]
theorem RV.seal {T F S : Nat} {A : List ByteArray} {Ls : List (List Chg)} (h : RV T F S A Ls True) : RV T F Ls.length A Ls True := by
  refine ⟨h.a, ?_⟩
  rw [List.take_length]
  exact h.a trivial
theorem RV.weaken {T F S : Nat} {A : List ByteArray} {Ls : List (List Chg)} {p q : Prop} (h : RV T F S A Ls p) (k : q → p) : RV T F S A Ls q := ⟨fun hq => h.a (k hq), h.s⟩
end Go.Proofs.Ytmcahiebcflfoaa
