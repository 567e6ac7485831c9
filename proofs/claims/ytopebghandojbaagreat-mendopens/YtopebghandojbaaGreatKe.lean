import Derived.Test.YtopebghandojbaaGreatJr
import Derived.Deep.RegionHeld3
import Derived.Deep.DeepCutAuto
import Derived.Deep.CutBlock
import Derived.BigRegion
import Derived.Test.YtopebghandojbaaGreatTr
import Derived.Test.YtopebghandojbaaGreatZm
namespace Go.Proofs.YtopebghandojbaaGreat
open Go.RowKit Go.Maps
/-- the reference's journal in memory -/
def RI (g : Nat) (w : World) (P T F S : Int) (Lv : Value) : Prop := w.heap[g]? = some (.cells #[.int .i64 P, .int .i64 T, .int .i64 F, .int .i64 S, Lv] 113 (0, 0))
set_option maxRecDepth 100000 in
theorem RI.cells {g : Nat} {w : World} {P T F S : Int} {sv : Value} (h : RI g w P T F S sv) : w.cell? ⟨g, 0, none⟩ = some (.int .i64 P) ∧ w.cell? ⟨g, 1, none⟩ = some (.int .i64 T) ∧ w.cell? ⟨g, 2, none⟩ = some (.int .i64 F) ∧ w.cell? ⟨g, 3, none⟩ = some (.int .i64 S) ∧ w.cell? ⟨g, 4, none⟩ = some sv := by
  unfold RI at h
  refine ⟨?_, ?_, ?_, ?_, ?_⟩ <;> simp [World.cell?, h]
set_option maxRecDepth 100000 in
theorem RI.lt {g : Nat} {w : World} {P T F S : Int} {sv : Value} (h : RI g w P T F S sv) : g < w.heap.size := lt_of_block h
set_option maxRecDepth 100000 in
theorem RI.below {g : Nat} {w w' : World} {P T F S : Int} {sv : Value} (h : RI g w P T F S sv) (k : Below w.heap.size w w') : RI g w' P T F S sv := (k.block g h.lt).trans h
set_option maxRecDepth 100000 in
theorem RI.set1 {g : Nat} {w : World} {P T F S : Int} {sv : Value} (h : RI g w P T F S sv) (T' : Int) : RI g (w.setCell ⟨g, 1, none⟩ (.int .i64 T')) P T' F S sv := by
  unfold RI at *
  simp [World.setCell, Array.getElem?_modify, h]
set_option maxRecDepth 100000 in
theorem RI.set2 {g : Nat} {w : World} {P T F S : Int} {sv : Value} (h : RI g w P T F S sv) (F' : Int) : RI g (w.setCell ⟨g, 2, none⟩ (.int .i64 F')) P T F' S sv := by
  unfold RI at *
  simp [World.setCell, Array.getElem?_modify, h]
set_option maxRecDepth 100000 in
theorem RI.set3 {g : Nat} {w : World} {P T F S : Int} {sv : Value} (h : RI g w P T F S sv) (S' : Int) : RI g (w.setCell ⟨g, 3, none⟩ (.int .i64 S')) P T F S' sv := by
  unfold RI at *
  simp [World.setCell, Array.getElem?_modify, h]
set_option maxRecDepth 100000 in
theorem RI.set4 {g : Nat} {w : World} {P T F S : Int} {sv : Value} (h : RI g w P T F S sv) (sv' : Value) : RI g (w.setCell ⟨g, 4, none⟩ sv') P T F S sv' := by
  unfold RI at *
  simp [World.setCell, Array.getElem?_modify, h]
/-- a row of slices, maybe cut at its front -/
def VRow (w : World) (v : Value) (l : List Value) : Prop :=
  (v = .slice none 0 0 ∧ l = []) ∨ ∃ b off cap cur, v = .slice (some ⟨b, off, none⟩) l.length cap ∧ w.heap[b]? = some (.cells cur 24 (0, 0)) ∧ l.length ≤ cap ∧ cap ≤ maxLen ∧ off + cap ≤ cur.size ∧ ∀ i (hi : i < l.length), cur[off + i]? = some l[i]
set_option maxRecDepth 100000 in
theorem VRow.nil (w : World) : VRow w (.slice none 0 0) [] := .inl ⟨rfl, rfl⟩
set_option maxRecDepth 100000 in
theorem VRow.same {w w' : World} {v : Value} {l : List Value} (h : VRow w v l) (k : ∀ x, v.ownBlock = some x → w'.heap[x]? = w.heap[x]?) : VRow w' v l := by
  obtain h | ⟨b, off, cap, cur, rfl, h1, h2⟩ := h
  · exact .inl h
  · exact .inr ⟨b, off, cap, cur, rfl, (k b rfl).trans h1, h2⟩
set_option maxRecDepth 100000 in
theorem VRow.own {w : World} {v : Value} {l : List Value} (h : VRow w v l) : ∀ x, v.ownBlock = some x → ∃ cur, w.heap[x]? = some (.cells cur 24 (0, 0)) := by
  obtain ⟨rfl, _⟩ | ⟨b, off, cap, cur, rfl, h1, h2⟩ := h
  · intro x hx; cases hx
  · intro x hx; cases hx; exact ⟨_, h1⟩
set_option maxRecDepth 100000 in
theorem VRow.len {w : World} {v : Value} {l : List Value} (h : VRow w v l) : ∃ ao cap, v = .slice ao l.length cap ∧ l.length ≤ cap ∧ cap ≤ maxLen := by
  obtain ⟨rfl, rfl⟩ | ⟨b, off, cap, cur, rfl, h1, h2, h3, _⟩ := h
  · exact ⟨none, 0, rfl, by simp, by decide⟩
  · exact ⟨_, cap, rfl, h2, h3⟩
set_option maxRecDepth 100000 in
theorem VRow.cell {w : World} {ao : Option Addr} {n cap : Nat} {l : List Value} (h : VRow w (.slice ao n cap) l) (i : Nat) (hi : i < l.length) : ∃ b off, ao = some ⟨b, off, none⟩ ∧ b < w.heap.size ∧ w.cell? ⟨b, off + i, none⟩ = some l[i] := by
  obtain ⟨_, rfl⟩ | ⟨b, off, cap, cur, e, h1, h2, h3, _, h4⟩ := h
  · simp at hi
  · injection e with e1
    exact ⟨b, off, e1, lt_of_block h1, by simp [World.cell?, h1, h4 i hi]⟩
set_option maxRecDepth 100000 in
theorem Tryz.infoV31 : (Tryz.prog.info? 24).map (fun i => (i.zero, i.size, i.bytes)) = some (some (.slice none 0 0), 1, 24) := by kernel_rfl
set_option maxRecDepth 100000 in
theorem run_size31 (w : World) : (sizeOf (Tryz.prog.elem 69)).run Tryz.prog w = .ok 1 w := by
  obtain ⟨i0, hi, hz0, hz1, hz2⟩ := info_parts Tryz.infoV31
  have e : Tryz.prog.elem 69 = 24 := by simp [Program.elem, Tryz.underlying69]
  rw [e]
  simp [sizeOf, typeInfo, hi, hz1]
set_option maxRecDepth 100000 in
theorem under54 : Tryz.prog.underlying 69 = some (.slice (Tryz.prog.elem 69)) := by
  have e : Tryz.prog.elem 69 = 24 := by simp [Program.elem, Tryz.underlying69]
  rw [e]
  exact Tryz.underlying69
set_option maxRecDepth 100000 in
theorem VRow.cut {w0 : World} {ao : Option Addr} {cap k : Nat} {l : List Value} (h0 : VRow w0 (.slice ao l.length cap) l) (hlc : l.length ≤ cap) (hcm : cap ≤ maxLen) (hk : k ≤ l.length) :
    ∃ ao' m m', (∀ w : World, (Instr.slice 69 (.slice ao l.length cap) (some (.int .i64 (k : Int))) none none).run Tryz.prog w = .ok (.slice ao' m m') w) ∧ (Value.slice ao' m m').ownBlock = (Value.slice ao l.length cap).ownBlock ∧ ∀ w : World, VRow w (.slice ao l.length cap) l → VRow w (.slice ao' m m') (l.drop k) := by
  refine ⟨(if cap = k then ao else ao.map (·.add (k * 1))), l.length - k, cap - k, fun w => ?_, ?_, fun w h => ?_⟩
  · have := run_slice_l (P := Tryz.prog) w 69 ao l.length cap under54 .i64 (k : Int) (by omega) (by omega)
    rw [this, run_size31]
    simp [Result.andThen, sliced]
  · by_cases h : cap = k
    · rw [if_pos h]; cases ao <;> rfl
    · rw [if_neg h]
      obtain ⟨e, _⟩ | ⟨b, off, cap', cur, e, _⟩ := h0
      · injection e with e0 e1 e3
        rw [e0]; rfl
      · injection e with e0 e1 e3
        rw [e0]; simp only [Option.map_some, Value.ownBlock, Addr.add]; split <;> rfl
  · have hl : (l.drop k).length = l.length - k := List.length_drop
    obtain ⟨e, e2⟩ | ⟨b, off, cap', cur, e, h1, h2, h3, h4, h5⟩ := h
    · injection e with e0 e1 e3
      subst e0
      subst e2
      have : k = 0 := by simpa using hk
      subst this
      subst e3
      exact .inl ⟨rfl, rfl⟩
    · injection e with e0 e1 e3
      subst e0 e3
      by_cases hkl : cap = k
      · rw [if_pos hkl]
        refine .inr ⟨b, off, cap - k, cur, by rw [hl], h1, by omega, by omega, by omega, fun i hi => by omega⟩
      · rw [if_neg hkl]
        refine .inr ⟨b, off + k, cap - k, cur, by rw [hl]; simp [Addr.add], h1, by omega, by omega, by omega, fun i hi => ?_⟩
        rw [List.getElem_drop, show off + k + i = off + (k + i) by omega]
        exact h5 (k + i) (by omega)
set_option maxRecDepth 100000 in
theorem VRow.of {base : Nat} {w : World} {v : Value} {l : List Value} (h : w.ownsRow base 24 1 v l.length l) : VRow w v l := by
  obtain ⟨e1, ⟨rfl, hz⟩ | ⟨x, cap, cur, rfl, e4, e5, r1, r2, r3, r4⟩⟩ := h
  · exact .inl ⟨rfl, List.eq_nil_of_length_eq_zero hz⟩
  · refine .inr ⟨x, 0, cap, cur, rfl, e5, r1, r2, by omega, fun i hi => ?_⟩
    have e1 : cur.toList[i]? = l[i]? := by rw [← r4, List.getElem?_take_of_lt (by omega)]
    rw [Array.getElem?_toList, List.getElem?_eq_getElem hi] at e1
    rw [Nat.zero_add, e1]
set_option maxRecDepth 100000 in
theorem pushV {ops : Array Oper} {rest : List Oper} {o : Oper} {a : Act} {Q : Exit → Act → World → Prop} {w0 : World} (hgd : o.guard = none) (s x : Operand)
    (ho : o.op = .call { callee := .builtin .append, args := #[s, x], argTypes := #[69, 69] }) (bb : Nat) (v : Value) (T : List Value) (y : Value) (hy : y.oneCell' = true)
    (hs : a.eval s = v) (hx : a.eval x = .slice (some ⟨bb, 0, none⟩) 1 1) (hbb : bb = w0.heap.size) (hA : VRow w0 v T) (hn : T.length ≤ 2000)
    (h : ∀ v' w', VRow w' v' (T ++ [y]) → w0.grownBy w' v.ownBlock → (v'.ownBlock = v.ownBlock ∨ ∃ k, v'.ownBlock = some k ∧ w0.heap.size ≤ k) → wpList Tryz.prog ops Q rest (a.put o.dst v') w') :
    wpList Tryz.prog ops Q (o :: rest) a (w0.alloc (.cells #[y] 24)) := by
  subst hbb
  obtain ⟨i0, hi, hz0, hz1, hz2⟩ := info_parts Tryz.infoV31
  have hnew : ∀ j u, [y][j]? = some u → (w0.alloc (.cells #[y] 24)).cell? ((⟨w0.heap.size, 0, none⟩ : Addr).add j) = some u := cell_one_new w0 y 24
  have grow : ∀ {row : Option Nat} {w'}, (w0.alloc (.cells #[y] 24)).grownBy w' row → w0.grownBy w' row := fun hg => ⟨hg.os, hg.tape, hg.output, by have := hg.size; simp at this; omega, fun k hk hne => (hg.block k (by simp; omega) hne).trans (Below.heap_alloc _ _ k hk)⟩
  have back : ∀ {base : Nat} {w' v'}, w'.ownsRow base 24 1 v' (T.length + 1) (T ++ [y]) → VRow w' v' (T ++ [y]) := by
    intro base w' v' hown
    refine VRow.of (base := base) ?_
    rw [List.length_append]
    exact hown
  rcases hA with ⟨rfl, rfl⟩ | ⟨b, off, cap, cur, rfl, h1, h2, h3, h4, h5⟩
  · refine wpList_append_own_at _ hgd s x 69 ho 0 24 i0 (.slice none 0 0) 1 24 Tryz.underlying69 hi hz0 hz1 hz2 rfl (by decide) _ 0 [] hs (World.ownsRow_nil _ _ _ _) ⟨w0.heap.size, 0, none⟩ 1 1 [y] hx rfl hnew (by intro u hu; simp at hu; subst hu; exact hy) (by decide) (by decide) (Nat.zero_le _) ?_
    intro v' w' hown hg _ hat
    refine h v' w' (back hown) (grow hg) ?_
    rcases hat with e | e
    · exact .inl e
    · exact .inr ⟨_, e, by simp⟩
  · have hb := lt_of_block h1
    have hb1 : (w0.alloc (.cells #[y] 24)).heap[b]? = some (.cells cur 24 (0, 0)) := (Below.heap_alloc _ _ b hb).trans h1
    have hcell : ∀ j, (w0.alloc (.cells #[y] 24)).cell? ⟨b, j, none⟩ = cur[j]? := fun j => cell_of hb1 j
    refine wpList_append_arg _ hgd s x 69 ho 24 i0 (.slice none 0 0) 1 24 Tryz.underlying69 hi hz0 hz1 hz2 rfl (by decide) b off T.length cap T hs (by simp) ?_ ⟨w0.heap.size, 0, none⟩ 1 1 [y] hx rfl hnew (by intro u hu; simp at hu; subst hu; exact hy) ?_ (by unfold maxLen; omega) (by omega) ?_ ?_
    · intro j u hu
      by_cases hj : j < T.length
      · rw [List.getElem?_eq_getElem hj] at hu
        injection hu with hu
        subst hu
        rw [hcell]
        exact h5 j hj
      · rw [List.getElem?_eq_none (by omega)] at hu; cases hu
    · intro hr j hj
      have hj0 : j = 0 := by simp at hj; exact hj
      subst hj0
      refine ⟨?_, frees hb1 _⟩
      rw [hcell, Array.getElem?_eq_getElem (show off + T.length * 1 + 0 < cur.size by omega)]
      rfl
    · intro hr
      refine h _ _ ?_ ?_ (.inl rfl)
      · refine .inr ⟨b, off, cap, cur.set! (off + T.length * 1) y, by simp, cells_set hb1 _, by simp; omega, h3, by simp; omega, fun i hi => ?_⟩
        rw [Nat.mul_one, Array.set!_eq_setIfInBounds]
        by_cases hit : i < T.length
        · rw [Array.getElem?_setIfInBounds_ne (by omega), List.getElem_append_left hit]
          exact h5 i hit
        · have hie : i = T.length := by simp at hi; omega
          subst hie
          rw [Array.getElem?_setIfInBounds_self_of_lt (by omega)]
          simp
      · refine ⟨rfl, rfl, rfl, by simp [World.setCells], fun k hk hne => ?_⟩
        show ((w0.alloc (.cells #[y] 24)).setCell ⟨b, off + T.length * 1, none⟩ y).heap[k]? = _
        rw [Below.heap_setCell _ _ _ _ (by rintro rfl; exact hne rfl)]
        exact Below.heap_alloc _ _ k hk
    · intro hr v' w' hown hg
      have hg2 := grow hg
      refine h v' w' (back hown) ⟨hg2.os, hg2.tape, hg2.output, hg2.size, fun k hk _ => hg2.block k hk (by simp)⟩ ?_
      rcases hown.2 with ⟨_, hz⟩ | ⟨k, _, _, rfl, hk, _⟩
      · omega
      · exact .inr ⟨k, rfl, by simp at hk; omega⟩
/-- how many places a transaction needs -/
def szOf : Value → Int
  | .slice _ n _ => (n : Int) + 1
  | _ => 1
def Slc (v : Value) : Prop := ∃ a n c, v = .slice a n c ∧ n ≤ 48
/-- the reference's journal: its transactions' slices, the block of their row -/
def RK (g : Nat) (r : Option Nat) (w : World) (P : Int) (T F S : Nat) (vs : List Value) : Prop := ∃ Lv, Lv.ownBlock = r ∧ RI g w P T F S Lv ∧ VRow w Lv vs ∧ ∀ v ∈ vs, Slc v
set_option maxRecDepth 100000 in
theorem RK.lt {g : Nat} {r : Option Nat} {w : World} {P : Int} {T F S : Nat} {l : List Value} (h : RK g r w P T F S l) : g < w.heap.size ∧ ∀ x, r = some x → x < w.heap.size ∧ x ≠ g := by
  obtain ⟨sv, rfl, h1, h2, _⟩ := h
  refine ⟨h1.lt, fun x hx => ?_⟩
  obtain ⟨cur, hc⟩ := h2.own x hx
  refine ⟨lt_of_block hc, ?_⟩
  rintro rfl
  unfold RI at h1
  rw [h1] at hc
  simp at hc
set_option maxRecDepth 100000 in
theorem RK.same {g : Nat} {r : Option Nat} {w w' : World} {P : Int} {T F S : Nat} {l : List Value} (h : RK g r w P T F S l) (k : w'.heap[g]? = w.heap[g]?) (kr : ∀ x, r = some x → w'.heap[x]? = w.heap[x]?) : RK g r w' P T F S l := by
  obtain ⟨sv, h0, h1, h2, h3⟩ := h
  exact ⟨sv, h0, k.trans h1, h2.same fun x hx => kr x (h0.symm.trans hx), h3⟩
set_option maxRecDepth 100000 in
theorem RK.below {g : Nat} {r : Option Nat} {w w' : World} {P : Int} {T F S : Nat} {l : List Value} (h : RK g r w P T F S l) (k : Below w.heap.size w w') : RK g r w' P T F S l :=
  h.same (k.block g h.lt.1) (fun x hx => k.block x (h.lt.2 x hx).1)
set_option maxRecDepth 100000 in
theorem RK.drew {g : Nat} {r : Option Nat} {w : World} {P : Int} {T F S : Nat} {l : List Value} (h : RK g r w P T F S l) (q : Nat) : RK g r (w.drewN q) P T F S l := h
set_option maxRecDepth 100000 in
theorem refNext_j (g : Nat) (r : Option Nat) (P : Int) (T F S : Nat) (vs : List Value) (hl : vs.length ≤ 300) (hF : F ≤ 1099511628000) (w : World) (h : RK g r w P T F S vs) : Calls Tryz.prog 59 #[.pointer (some ⟨g, 0, none⟩)] w fun e w' => e = .returned (.int .i64 ((F : Int) + vs.length)) ∧ ∃ q, w' = w.drewN q := by
  obtain ⟨Lv, hr, h1, h2, h3⟩ := h
  obtain ⟨ao, cap, rfl, hlc, hcm⟩ := h2.len
  obtain ⟨c0, c1, c2, c3, c4⟩ := h1.cells
  clear h3 h2
  go_enter Tryz.func59, Tryz.ntmps59
  go_wp2
  go_quiet ((fail))
  go_wp2
  go_ret
  exact ⟨rfl, _, rfl⟩
end Go.Proofs.YtopebghandojbaaGreat
namespace Go.Proofs.YtopebghandojbaaGreat
open Go.RowKit Go.Maps
set_option maxRecDepth 100000 in
theorem cat_list (a b : ByteArray) : (a ++ b).data.toList = a.data.toList ++ b.data.toList := by simp
/-- a number's bytes -/
def fx (n k : Int) : ByteArray := st (fEnc n.toNat k.toNat)
set_option maxRecDepth 100000 in
theorem fx_any (n k : Int) (h0 : 0 ≤ n) (h1 : n ≤ 9223372036854775807) (h2 : 0 ≤ k) (h3 : k ≤ 8) (w : World) : Calls Tryz.prog 93 #[.int .i64 n, .int .i64 k] w fun e w' => e = .returned (.string (fx n k)) ∧ Below w.heap.size w w' := by
  obtain ⟨n, rfl⟩ : ∃ m : Nat, n = m := ⟨n.toNat, by omega⟩
  obtain ⟨k, rfl⟩ : ∃ m : Nat, k = m := ⟨k.toNat, by omega⟩
  exact refFixed n k (by omega) (by omega) w
set_option maxRecDepth 100000 in
set_option maxHeartbeats 4000000 in
theorem refHeader_j (g : Nat) (r : Option Nat) (P : Int) (T F S : Nat) (vs : List Value) (hT : T < 65536) (hF : F + S ≤ 9223372036854775807) (w : World) (h : RK g r w P T F S vs) : Calls Tryz.prog 48 #[.pointer (some ⟨g, 0, none⟩)] w fun e w' => e = .returned (.string (hdB T F (F + S))) ∧ Below w.heap.size w w' := by
  obtain ⟨Lv, hr, h1, h2, h3⟩ := h
  obtain ⟨c0, c1, c2, c3, c4⟩ := h1.cells
  have hgl := h1.lt
  clear h2 h3 h1
  have HFx := hid (fun n k h0 h1 h2 h3 w => fx_any n k h0 h1 h2 h3 w)
  have HL : Hid (((⟨#[72]⟩ : ByteArray) ++ fx T 2 ++ fx F 8 ++ fx ((F : Int) + (S : Int)) 8).data.toList = hdL T F (F + S)) := by
    show _ = _
    rw [cat_list, cat_list, cat_list]
    unfold fx hdL
    rw [show ((F : Int) + (S : Int)).toNat = F + S by omega]
    simp [st_list]
  have z1 : (fx T 2).size = 2 := by unfold fx; rw [st_size, fEnc_len]; rfl
  have z2 : (fx F 8).size = 8 := by unfold fx; rw [st_size, fEnc_len]; rfl
  have z3 : (fx ((F : Int) + (S : Int)) 8).size = 8 := by unfold fx; rw [st_size, fEnc_len]; rfl
  obtain ⟨f, hf⟩ : ∃ f, f = fx := ⟨_, rfl⟩
  rw [← hf] at HFx HL z1 z2 z3
  clear hf
  obtain ⟨u, hu⟩ : ∃ u, (⟨#[72]⟩ : ByteArray) ++ f T 2 ++ f F 8 ++ f ((F : Int) + (S : Int)) 8 = u := ⟨_, rfl⟩
  have HK := hid (fun w => refBlock u (by rw [← len_list, ← hu, HL.out, hdL_len]; decide) w)
  rw [← hu, HL.out] at HK
  have HU := hid hu
  obtain ⟨R, hR⟩ : ∃ R, R = hdB T F (F + S) := ⟨_, rfl⟩
  have HKR : Hid (∀ w : World, Calls Tryz.prog 92 #[.string ((⟨#[72]⟩ : ByteArray) ++ f T 2 ++ f F 8 ++ f ((F : Int) + (S : Int)) 8)] w fun e w' => e = .returned (.tuple #[.string R, .int .i64 0]) ∧ Below w.heap.size w w') := by
    intro w
    rw [hR]
    exact HK.out w
  rw [← hR]
  clear hu hR HK HL
  have hwr : IntKind.i64.wrap ((F : Int) + (S : Int)) = (F : Int) + (S : Int) := by
    rw [IntKind.wrap_i64]; omega
  go_enter Tryz.func48, Tryz.ntmps48
  go_wp2
  go_region_held3 (fun w' => w'.cell? ⟨g, 1, none⟩ = some (.int .i64 (T : Int)) ∧ w'.cell? ⟨g, 2, none⟩ = some (.int .i64 (F : Int)) ∧ w'.cell? ⟨g, 3, none⟩ = some (.int .i64 (S : Int))) (first | exact ⟨c1, c2, c3⟩ | exact d4 | exact d3 | exact d2 | exact d1 | go_keep) (first
    | (go_at_call 92; refine (HKR.out _).mono ?_; rintro e w4 ⟨rfl, hb4⟩; have HB4 : Hid (Below w.heap.size w w4) := hid (HB3.out.next ⟨hb4.os, hb4.tape, hb4.output, hb4.size, hb4.block⟩); have d4 : w4.cell? ⟨g, 1, none⟩ = some (.int .i64 (T : Int)) ∧ w4.cell? ⟨g, 2, none⟩ = some (.int .i64 (F : Int)) ∧ w4.cell? ⟨g, 3, none⟩ = some (.int .i64 (S : Int)) := ⟨(HB4.out.cell (p := ⟨g, 1, none⟩) hgl).trans c1, (HB4.out.cell (p := ⟨g, 2, none⟩) hgl).trans c2, (HB4.out.cell (p := ⟨g, 3, none⟩) hgl).trans c3⟩; clear hb4)
    | (go_at_call 93; have hk := HB2; clear hk; refine (HFx.out _ _ (by omega) (by omega) (by decide) (by decide) _).mono ?_; rintro e w3 ⟨rfl, hb3⟩; have HB3 : Hid (Below w.heap.size w w3) := hid (HB2.out.next ⟨hb3.os, hb3.tape, hb3.output, hb3.size, hb3.block⟩); have d3 : w3.cell? ⟨g, 1, none⟩ = some (.int .i64 (T : Int)) ∧ w3.cell? ⟨g, 2, none⟩ = some (.int .i64 (F : Int)) ∧ w3.cell? ⟨g, 3, none⟩ = some (.int .i64 (S : Int)) := ⟨(HB3.out.cell (p := ⟨g, 1, none⟩) hgl).trans c1, (HB3.out.cell (p := ⟨g, 2, none⟩) hgl).trans c2, (HB3.out.cell (p := ⟨g, 3, none⟩) hgl).trans c3⟩; clear hb3)
    | (go_at_call 93; have hk := HB1; clear hk; refine (HFx.out _ _ (by omega) (by omega) (by decide) (by decide) _).mono ?_; rintro e w2 ⟨rfl, hb2⟩; have HB2 : Hid (Below w.heap.size w w2) := hid (HB1.out.next ⟨hb2.os, hb2.tape, hb2.output, hb2.size, hb2.block⟩); have d2 : w2.cell? ⟨g, 1, none⟩ = some (.int .i64 (T : Int)) ∧ w2.cell? ⟨g, 2, none⟩ = some (.int .i64 (F : Int)) ∧ w2.cell? ⟨g, 3, none⟩ = some (.int .i64 (S : Int)) := ⟨(HB2.out.cell (p := ⟨g, 1, none⟩) hgl).trans c1, (HB2.out.cell (p := ⟨g, 2, none⟩) hgl).trans c2, (HB2.out.cell (p := ⟨g, 3, none⟩) hgl).trans c3⟩; clear hb2)
    | (go_at_call 93; refine (HFx.out _ _ (by omega) (by omega) (by decide) (by decide) _).mono ?_; rintro e w1 ⟨rfl, hb1⟩; have HB1 : Hid (Below w.heap.size w w1) := hid ⟨hb1.os, hb1.tape, hb1.output, hb1.size, hb1.block⟩; have d1 : w1.cell? ⟨g, 1, none⟩ = some (.int .i64 (T : Int)) ∧ w1.cell? ⟨g, 2, none⟩ = some (.int .i64 (F : Int)) ∧ w1.cell? ⟨g, 3, none⟩ = some (.int .i64 (S : Int)) := ⟨(HB1.out.cell (p := ⟨g, 1, none⟩) hgl).trans c1, (HB1.out.cell (p := ⟨g, 2, none⟩) hgl).trans c2, (HB1.out.cell (p := ⟨g, 3, none⟩) hgl).trans c3⟩; clear hb1))
  all_goals
    go_wp2
    go_ret
    exact ⟨rfl, HB4.out⟩
end Go.Proofs.YtopebghandojbaaGreat
namespace Go.Proofs.YtopebghandojbaaGreat
open Go.RowKit Go.Maps
set_option maxRecDepth 100000 in
theorem refEncode_txn (seq : Int) (v : Value) (l : List Chg) (h : 1 ≤ seq ∧ seq ≤ 1099511627776) (w : World) (hC : CLie w v l) (hr : right l = false) : Calls Tryz.prog 116 #[.int .i64 seq, v] w fun e w' => e = .returned (.tuple #[.slice none 0 0, .int .i64 70]) ∧ Below w.heap.size w w' := by
  have HC := hid (right_any v l w hC)
  rw [hr] at HC
  obtain ⟨k1, k2⟩ := h
  clear hC hr
  go_enter Tryz.func116, Tryz.ntmps116
  go_wp2_with (first
    | (go_at_call 33; refine (HC.out).mono ?_; rintro e w2 ⟨rfl, hb2⟩))
  go_ret2
  exact ⟨rfl, hb2⟩
set_option maxRecDepth 100000 in
theorem SRow.one (w : World) (x : ByteArray) : SRow w.heap.size (w.alloc (.cells #[.string x] 9)) (.slice (some ⟨w.heap.size, 0, none⟩) 1 1) [x] :=
  ⟨rfl, .inr ⟨w.heap.size, 1, #[.string x], rfl, Nat.le_refl _, box_at _ _, Nat.le_refl _, by decide, rfl, rfl⟩⟩
set_option maxRecDepth 100000 in
set_option maxHeartbeats 8000000 in
theorem refEncode_ok (n : Nat) (v : Value) (l : List Chg) (h1 : 1 ≤ n) (h2 : n ≤ 1099511627776) (w : World) (hC : CLie w v l) (hr : right l = true) : Calls Tryz.prog 116 #[.int .i64 n, v] w fun e w' => ∃ v', e = .returned (.tuple #[v', .int .i64 0]) ∧ SLie w' v' (encL n l) ∧ Below w.heap.size w w' := by
  have HR := hid (right_any v l w hC)
  rw [hr] at HR
  have h48 : l.length ≤ 48 := right_len hr
  have HF8 := hid (fun w => refFixed n 8 (by omega) (by decide) w)
  have HF1 := hid (fun w => refFixed l.length 1 (by omega) (by decide) w)
  rw [show ((8 : Nat) : Int) = 8 from rfl] at HF8
  rw [show ((1 : Nat) : Int) = 1 from rfl] at HF1
  have HXX := hid (right_iff.1 hr).2.2
  have HSZ := hid (headL_short (l := l) n (crc (allD (l.map (·.d)))) hr)
  have HEQ := hid (encL_eq n l)
  obtain ⟨x8, hx8⟩ : ∃ x, x = st (fEnc n 8) := ⟨_, rfl⟩
  obtain ⟨x1, hx1⟩ : ∃ x, x = st (fEnc l.length 1) := ⟨_, rfl⟩
  rw [← hx8] at HF8
  rw [← hx1] at HF1
  have s8 : x8.size = 8 := by rw [hx8, st_size, fEnc_len]
  have s1 : x1.size = 1 := by rw [hx1, st_size, fEnc_len]
  have HX8 : Hid (x8.data.toList = fEnc n 8) := by show _ = _; rw [hx8, st_list]
  have HX1 : Hid (x1.data.toList = fEnc l.length 1) := by show _ = _; rw [hx1, st_list]
  clear hx8 hx1 hr
  obtain ⟨ao, cap, rfl, hlc, hcm, hcell⟩ := hC
  have HC := hid hcell
  unfold maxLen at hcm
  clear hcell
  go_enter Tryz.func116, Tryz.ntmps116
  go_wp2_with (first
    | (go_at_call 33; refine (HR.out).mono ?_; rintro e w1 ⟨rfl, hb1⟩; have HB1 := hid hb1; clear hb1)
    | (go_at_call 93; have hk := HB2; clear hk; refine (HF1.out _).mono ?_; rintro e w3 ⟨rfl, hb3⟩; have HB3 := hid (HB2.out.next hb3); clear hb3)
    | (go_at_call 93; refine (HF8.out _).mono ?_; rintro e w2 ⟨rfl, hb2⟩; have HB2 := hid (HB1.out.next hb2); clear hb2))
  go_loopw [6, 7, 33] (fun s6 s7 i wr => ∃ (q : Nat) (t a : ByteArray), i = .int .i64 q ∧ q ≤ l.length ∧ s6 = .string t ∧ s7 = .string a ∧ t.data.toList = [84] ++ (fEnc n 8 ++ fEnc l.length 1 ++ plE ((l.take q).map (·.b))) ∧ a.data.toList = allD ((l.take q).map (·.d)) ∧ a.size = 128 * q ∧ Below w.heap.size w wr) (fun _ _ i _ => l.length - (intOf i).toNat)
  case atStart =>
    refine ⟨0, _, _, rfl, Nat.zero_le _, rfl, rfl, ?_, rfl, rfl, HB3.out⟩
    rw [cat_list, cat_list, HX8.out, HX1.out]
    simp [plE]
  case round =>
    obtain ⟨q, t, a, rfl, hq, rfl, rfl, ht, hal, has, hBq⟩ := hrel
    have hts : t.size = 10 + 2 * q := by
      rw [← len_list, ht]
      simp only [List.length_append, fEnc_len, plE_len, List.length_map, List.length_take, List.length_cons, List.length_nil]
      omega
    have HT := hid ht
    have HAL := hid hal
    have HBq := hid hBq
    clear ht hal hBq
    by_cases hqk : q < l.length
    · obtain ⟨gb, off, e, hgl, c0, c1⟩ := HC.out q hqk
      subst e
      have HTK := hid (List.take_succ_eq_append_getElem hqk)
      obtain ⟨y1, y2, y3⟩ := HXX.out _ (List.getElem_mem hqk)
      obtain ⟨c, hc⟩ : ∃ c, c = l[q] := ⟨_, rfl⟩
      rw [← hc] at c0 c1 HTK y1 y2 y3
      clear hc
      obtain ⟨p, hp⟩ : ∃ p : Nat, c.b = (p : Int) := ⟨c.b.toNat, by omega⟩
      rw [hp] at c0 y2
      have HP : Hid (c.b.toNat = p) := by show _ = _; omega
      clear hp y1
      replace c0 := (HBq.out.cell (p := ⟨gb, off + q * 2, none⟩) hgl).trans c0
      replace c1 := (HBq.out.cell (p := ⟨gb, off + q * 2 + 1, none⟩) hgl).trans c1
      have hgr : gb < wr.heap.size := Nat.lt_of_lt_of_le hgl HBq.out.size
      have HF2 := hid (fun w => refFixed p 2 (by omega) (by decide) w)
      rw [show ((2 : Nat) : Int) = 2 from rfl] at HF2
      obtain ⟨x2, hx2⟩ : ∃ x, x = st (fEnc p 2) := ⟨_, rfl⟩
      rw [← hx2] at HF2
      have s2 : x2.size = 2 := by rw [hx2, st_size, fEnc_len]
      have HX2 : Hid (x2.data.toList = fEnc p 2) := by show _ = _; rw [hx2, st_list]
      clear hx2
      have HV := hid (box_at wr (.cells #[.int .i64 (p : Int), .string c.d] 94))
      go_wp2_with (first
        | (go_at_call 93; refine (HF2.out _).mono ?_; rintro e w5 ⟨rfl, hb5⟩
           have HV5 := hid ((hb5.block _ (lt_of_block HV.out)).trans HV.out)
           obtain ⟨q0, q1⟩ := two_cells HV5.out
           have hl5 := lt_of_block HV5.out
           have HB5 := hid (HBq.out.next ((below_alloc _ _).next hb5))
           clear hb5))
      go_roundw
      case rel =>
        refine ⟨q + 1, _, _, by go_num, by omega, rfl, rfl, ?_, ?_, ?_, HB5.out⟩
        · rw [cat_list, HT.out, HX2.out, HTK.out, List.map_append, List.map_cons, List.map_nil, plE_snoc, HP.out]
          simp only [List.append_assoc]
        · rw [cat_list, HAL.out, HTK.out, List.map_append]
          unfold allD
          simp
        · rw [ByteArray.size_append, has, y3]; omega
      case measure => simp [intOf]; omega
    · have hqe : q = l.length := by omega
      subst hqe
      rw [List.take_length] at HT HAL
      have HOF := hid (fun w => refOf a (by unfold maxLen; omega) w)
      rw [HAL.out] at HOF
      obtain ⟨sm, hsm⟩ : ∃ sm, sm = crc (allD (l.map (·.d))) := ⟨_, rfl⟩
      have hsl : sm < 4294967296 := by rw [hsm]; exact crc_lt _
      rw [← hsm] at HOF HSZ
      have HF4 := hid (fun w => refFixed sm 4 (by omega) (by decide) w)
      rw [show ((4 : Nat) : Int) = 4 from rfl] at HF4
      obtain ⟨x4, hx4⟩ : ∃ x, x = st (fEnc sm 4) := ⟨_, rfl⟩
      rw [← hx4] at HF4
      have s4 : x4.size = 4 := by rw [hx4, st_size, fEnc_len]
      obtain ⟨u, hu⟩ : ∃ u, t ++ x4 = u := ⟨_, rfl⟩
      have HUL : Hid (u.data.toList = headL n (l.map (·.b)) sm) := by
        show _ = _
        rw [← hu, cat_list, HT.out, hx4, st_list]
        unfold headL
        simp only [List.length_map, List.append_assoc]
      have HU := hid hu
      have hus : u.size ≤ 122 := by rw [← len_list, HUL.out]; exact HSZ.out
      have HBL := hid (fun w => refBlock u hus w)
      rw [HUL.out] at HBL
      obtain ⟨r, hr⟩ : ∃ r, r = st (sealL (bodyL (headL n (l.map (·.b)) sm))) := ⟨_, rfl⟩
      have HRH : Hid (r = headB n l) := by show _ = _; rw [hr, hsm]; rfl
      rw [← hr] at HBL
      clear hr hu hx4 hsm hus
      go_wp2_with (first
        | (go_at_call 140; refine (HOF.out _).mono ?_; rintro e w5 ⟨rfl, hw⟩; have hw := hw.symm; subst hw)
        | (go_at_call 93; refine (HF4.out _).mono ?_; rintro e w6 ⟨rfl, hb6⟩; have HB6 := hid (HBq.out.next hb6); clear hb6)
        | (go_at_call 92; rw [HU.out]; refine (HBL.out _).mono ?_; rintro e w7 ⟨rfl, hb7⟩; have HB7 := hid (HB6.out.next hb7); clear hb7))
      have HR7 := hid (SRow.one w7 r)
      have HB8 := hid (below_alloc w7 (.cells #[.string r] 9))
      obtain ⟨w8, hw8⟩ : ∃ w8, w8 = w7.alloc (.cells #[.string r] 9) := ⟨_, rfl⟩
      rw [← hw8] at HR7 HB8 ⊢
      clear hw8
      go_loopw [12, 60] (fun ov i wx => ∃ q : Nat, i = .int .i64 q ∧ q ≤ l.length ∧ SRow w7.heap.size wx ov (r :: (l.take q).map (·.d)) ∧ Below w7.heap.size w7 wx) (fun _ i _ => l.length - (intOf i).toNat)
      case atStart => exact ⟨0, rfl, Nat.zero_le _, HR7.out, HB8.out⟩
      case round =>
        rename World => wx
        obtain ⟨q, rfl, hq, hRq, hWq⟩ := hrel
        have HRq := hid hRq
        have HWq := hid hWq
        have hzq := hWq.size
        have HWw := hid (HB7.out.next hWq)
        have hlT : (r :: (l.take q).map (·.d)).length ≤ 100 := by simp; omega
        obtain ⟨oo, ocap, rfl, ho1, ho2⟩ := hRq.len
        unfold maxLen at ho2
        clear hRq hWq
        by_cases hqk : q < l.length
        · obtain ⟨gb, off, e, hgl, c0, c1⟩ := HC.out q hqk
          subst e
          have HTK := hid (List.take_succ_eq_append_getElem hqk)
          obtain ⟨c, hc⟩ : ∃ c, c = l[q] := ⟨_, rfl⟩
          rw [← hc] at c0 c1 HTK
          clear hc
          replace c0 := (HWw.out.cell (p := ⟨gb, off + q * 2, none⟩) hgl).trans c0
          replace c1 := (HWw.out.cell (p := ⟨gb, off + q * 2 + 1, none⟩) hgl).trans c1
          have hgr : gb < wx.heap.size := Nat.lt_of_lt_of_le hgl HWw.out.size
          obtain ⟨S, hS⟩ : ∃ S, S = r :: (l.take q).map (·.d) := ⟨_, rfl⟩
          have HS := hid hS
          rw [← hS] at HRq hlT ho1 ⊢
          clear hS
          have HB9 := hid (below_alloc wx (.cells #[.int .i64 c.b, .string c.d] 94))
          have HR9 := hid (HRq.out.below HB9.out)
          go_wp2_with (first
            | (at_builtin; refine pushS (w0 := wx.alloc (.cells #[.int .i64 c.b, .string c.d] 94)) rfl (.tmp 64) (.tmp 67) rfl w7.heap.size (wx.heap.size + 1) _ S c.d rfl rfl (by simp) HR9.out (by omega) (by simp; omega) ?_; intro v9 w9 hS9 hb9 hk9))
          go_roundw
          case rel =>
            refine ⟨q + 1, by go_num, by omega, ?_, (HWq.out.next HB9.out).trans hb9⟩
            rw [HTK.out, List.map_append, ← List.cons_append, ← HS.out]; exact hS9
          case measure => simp [intOf]; omega
        · have hqe : q = l.length := by omega
          subst hqe
          rw [List.take_length] at HRq ho1 ⊢
          go_wp2
          go_ret2
          refine ⟨_, rfl, ?_, HWw.out⟩
          rw [HEQ.out, ← HRH.out]
          exact HRq.out.lie
end Go.Proofs.YtopebghandojbaaGreat
namespace Go.Proofs.YtopebghandojbaaGreat
open Go.RowKit Go.Maps
set_option maxRecDepth 100000 in
theorem RK.set {g b : Nat} {r : Option Nat} {w : World} {P : Int} {T F S : Nat} {l : List Value} (h : RK g r w P T F S l) (hb : b ≠ g) (hr : some b ≠ r) (o : Nat) (v : Value) : RK g r (w.setCell ⟨b, o, none⟩ v) P T F S l :=
  h.same (Below.heap_setCell _ _ _ _ (Ne.symm hb)) fun x hx => Below.heap_setCell _ _ _ _ (by rintro rfl; exact hr hx.symm)
set_option maxRecDepth 100000 in
set_option maxHeartbeats 4000000 in
theorem refDone_j (g : Nat) (r : Option Nat) (P : Int) (T F S : Nat) (vs : List Value) (k T' : Nat) (hP : 0 < P) (hP2 : P ≤ 300) (hT : T < P) (hF : F + S ≤ 1099511628000) (hk : k ≤ S) (hS : S ≤ vs.length) (hl : vs.length ≤ 300) (hT' : (T' : Int) = ((T : Int) + sumI ((vs.map szOf).take k)) % P) (w : World) (h : RK g r w P T F S vs) :
    Calls Tryz.prog 115 #[.pointer (some ⟨g, 0, none⟩), .int .i64 (k : Int)] w fun e w' => e = .returned (.tuple #[.agg #[.int .i64 0, .string (hdB T' (F + k) (F + S))], .int .i64 0]) ∧ RK g r w' P T' (F + k) (S - k) (vs.drop k) ∧ JFr g r w w' := by
  have hltr := h.lt
  have hgl := hltr.1
  have ht2 := (Int.emod_lt_of_pos ((T : Int) + sumI ((vs.map szOf).take k)) hP)
  rw [← hT'] at ht2
  obtain ⟨Lv, hr, h1, h2, h3⟩ := h
  have hnn : ∀ x ∈ vs.map szOf, 0 ≤ x := by
    intro x hx
    obtain ⟨v, hv, rfl⟩ := List.mem_map.1 hx
    obtain ⟨a, n, c, rfl, _⟩ := h3 v hv
    show (0 : Int) ≤ (n : Int) + 1
    omega
  have HNN := hid hnn
  obtain ⟨ao, cap, rfl, hlc, hcm⟩ := h2.len
  obtain ⟨ao', m, m', hcut, hown, hrow⟩ := VRow.cut (k := k) h2 hlc hcm (by omega)
  have HOwn := hid hown
  have HRow := hid hrow
  have HB0 := hid (below_alloc w (.cells #[.int .i64 0, .string ⟨#[]⟩] 128))
  have HV := hid (box_at w (.cells #[.int .i64 0, .string ⟨#[]⟩] 128))
  have HJ := hid (h1.below HB0.out)
  have HR : Hid (VRow (w.alloc (.cells #[.int .i64 0, .string ⟨#[]⟩] 128)) (.slice ao vs.length cap) vs) := hid (h2.same fun x hx => HB0.out.block x (hltr.2 x (hr.symm.trans hx)).1)
  obtain ⟨w1, hw1⟩ : ∃ w1, w1 = w.alloc (.cells #[.int .i64 0, .string ⟨#[]⟩] 128) := ⟨_, rfl⟩
  have hz1 : w1.heap.size = w.heap.size + 1 := by rw [hw1]; simp
  rw [← hw1] at HB0 HV HJ HR
  have H3 := hid h3
  have HWr := hid (fun w h => refHeader_j g r P T' (F + k) (S - k) (vs.drop k) (by omega) (by omega) w h)
  rw [show F + k + (S - k) = F + S by omega] at HWr
  obtain ⟨u, hu⟩ : ∃ u, u = hdB T' (F + k) (F + S) := ⟨_, rfl⟩
  rw [← hu] at HWr ⊢
  have HT' := hid hT'
  clear hu hT' hnn hown hrow h1 h2 h3
  have e1 : ((F + k : Nat) : Int) = (F : Int) + (k : Int) := by omega
  have e2 : ((S - k : Nat) : Int) = (S : Int) - (k : Int) := by omega
  obtain ⟨c0, c1, c2, c3, c4⟩ := HJ.out.cells
  rw [hw1] at c0 c1 c2 c3 c4
  go_enter Tryz.func115, Tryz.ntmps115
  go_wp2
  rw [← hw1]
  rw [← hw1] at c0 c1 c2 c3 c4
  clear hw1
  have HCUT := hid hcut
  clear hcut c0 c1 c2 c3 c4
  go_loopw [6] (fun i wr => ∃ (q t : Nat), i = .int .i64 q ∧ q ≤ k ∧ (t : Int) = ((T : Int) + sumI ((vs.map szOf).take q)) % P ∧ RI g wr P t F S (.slice ao vs.length cap) ∧ JFr g none w1 wr) (fun i _ => k - (intOf i).toNat)
  case atStart => exact ⟨0, T, rfl, Nat.zero_le _, by simp [sumI]; rw [Int.emod_eq_of_lt (by omega) hT], HJ.out, JFr.refl _ _ _⟩
  case round =>
    obtain ⟨q, t, rfl, hq, ht, hI, hFq⟩ := hrel
    have HI := hid hI
    have HFq := hid hFq
    have htp := Int.emod_lt_of_pos ((T : Int) + sumI ((vs.map szOf).take q)) hP
    rw [← ht] at htp
    have HTt := hid ht
    clear hI hFq ht
    have HRq : Hid (VRow wr (.slice ao vs.length cap) vs) := hid (HR.out.same fun x hx => HFq.out.block x (by have := (hltr.2 x (hr.symm.trans hx)).1; omega) (hltr.2 x (hr.symm.trans hx)).2 (by simp))
    obtain ⟨c0, c1, c2, c3, c4⟩ := HI.out.cells
    have hfz := frees HI.out
    have hgr := HI.out.lt
    by_cases hqk : q < k
    · obtain ⟨gb, off, e, hgb, d0⟩ := HRq.out.cell q (by omega)
      subst e
      have hb2 := sumI_take HNN.out (q + 1)
      obtain ⟨a, n, c, e, hn⟩ := H3.out (vs[q]'(by omega)) (List.getElem_mem _)
      rw [e] at d0
      have HS : Hid (((T : Int) + sumI ((vs.map szOf).take (q + 1))) % P = ((t : Int) + n + 1) % P) := by
        show _ = _
        rw [List.take_succ_eq_append_getElem (by rw [List.length_map]; omega), sumI_snoc, List.getElem_map, e]
        show ((T : Int) + (sumI ((vs.map szOf).take q) + ((n : Int) + 1))) % P = _
        rw [HTt.out, show ((T : Int) + sumI ((vs.map szOf).take q)) % P + n + 1 = ((T : Int) + sumI ((vs.map szOf).take q)) % P + ((n : Int) + 1) by omega, Int.emod_add_emod]
        congr 1
        omega
      clear e
      have hP' : (P == 0) = false := by simp; omega
      have hwr1 : IntKind.i64.wrap ((t : Int) + (n : Int)) = (t : Int) + (n : Int) := by rw [IntKind.wrap_i64]; omega
      have hwr2 : IntKind.i64.wrap ((t : Int) + (n : Int) + 1) = (t : Int) + (n : Int) + 1 := by rw [IntKind.wrap_i64]; omega
      obtain ⟨t', ht'⟩ : ∃ t' : Nat, (t' : Int) = ((t : Int) + (n : Int) + 1) % P := ⟨(((t : Int) + (n : Int) + 1) % P).toNat, Int.toNat_of_nonneg (Int.emod_nonneg _ (by omega))⟩
      have HT2 := hid ht'
      clear ht'
      go_wp2
      go_region
      all_goals
        go_wp2
        go_roundw
        case rel =>
          have k1 := HFq.out.set (.inl rfl) 1 (.int .i64 (((t : Int) + (n : Int) + 1) % P))
          refine ⟨q + 1, t', by go_num, by omega, by rw [HT2.out, HS.out], ?_, ⟨k1.os, k1.tape, k1.output, k1.size, k1.block⟩⟩
          rw [HT2.out]
          exact HI.out.set1 _
        case measure => simp [intOf]; omega
    · have hqe : q = k := by omega
      subst hqe
      have ett : t = T' := by have := HTt.out; have := HT'.out; omega
      subst ett
      have hcut := HCUT.out
      have HI2 := hid (((HI.out.set2 ((F : Int) + (q : Int))).set3 ((S : Int) - (q : Int))).set4 (.slice ao' m m'))
      have HF2 := hid (((HFq.out.set (.inl rfl) 2 (.int .i64 ((F : Int) + (q : Int)))).set (.inl rfl) 3 (.int .i64 ((S : Int) - (q : Int)))).set (.inl rfl) 4 (.slice ao' m m'))
      obtain ⟨w5, hw5⟩ : ∃ w5, w5 = ((wr.setCell ⟨g, 2, none⟩ (.int .i64 ((F : Int) + (q : Int)))).setCell ⟨g, 3, none⟩ (.int .i64 ((S : Int) - (q : Int)))).setCell ⟨g, 4, none⟩ (.slice ao' m m') := ⟨_, rfl⟩
      rw [← hw5] at HI2 HF2
      have HV5 := hid ((HF2.out.block w.heap.size (by omega) (by omega) (by simp)).trans HV.out)
      have HR5 : Hid (VRow w5 (.slice ao vs.length cap) vs) := hid (HR.out.same fun x hx => HF2.out.block x (by have := (hltr.2 x (hr.symm.trans hx)).1; omega) (hltr.2 x (hr.symm.trans hx)).2 (by simp))
      have HK5 : Hid (RK g r w5 P t (F + q) (S - q) (vs.drop q)) := by
        refine hid ⟨.slice ao' m m', HOwn.out.trans hr, ?_, HRow.out _ HR5.out, fun v hv => H3.out v (List.mem_of_mem_drop hv)⟩
        rw [e1, e2]
        exact HI2.out
      have HE5 := hid hw5
      clear hw5
      have hl5 := lt_of_block HV5.out
      go_wp2_with (first
        | (go_at_call 48; rw [← HE5.out]; refine (HWr.out _ HK5.out).mono ?_; rintro e w6 ⟨rfl, hb6⟩; have HV6 := hid ((hb6.block _ hl5).trans HV5.out); have HB6 := hid hb6; obtain ⟨q0, q1⟩ := two_cells HV6.out; have hl6 := lt_of_block HV6.out; have hf6 := frees HV6.out; clear hb6))
      have r0 : ((w6.setCell ⟨w.heap.size, 0, none⟩ (.int .i64 0)).setCell ⟨w.heap.size, 1, none⟩ (.string u)).cell? ⟨w.heap.size, 0, none⟩ = some (.int .i64 0) := by simp [World.cell?, World.setCell, Array.getElem?_modify, HV6.out]
      have r1 : ((w6.setCell ⟨w.heap.size, 0, none⟩ (.int .i64 0)).setCell ⟨w.heap.size, 1, none⟩ (.string u)).cell? ⟨w.heap.size, 1, none⟩ = some (.string u) := by simp [World.cell?, World.setCell, Array.getElem?_modify, HV6.out]
      have k0 : JFr g none w w1 := JFr.of HB0.out
      have k6 : JFr g none w w6 := (k0.trans (.inl rfl) HF2.out).trans (.inl rfl) (JFr.of HB6.out)
      have k7 := (k6.set (.inr (.inr (Nat.le_refl _))) 0 (.int .i64 0)).set (.inr (.inr (Nat.le_refl _))) 1 (.string u)
      have hJ := HK5.out.below HB6.out
      have n1 : w.heap.size ≠ g := by omega
      have n2 : some w.heap.size ≠ r := by
        intro e
        have := (hltr.2 _ e.symm).1
        omega
      refine bodyPost_ret (v := .tuple #[.agg #[.int .i64 0, .string u], .int .i64 0]) (by simp [results, Tryz.results115, go_sem, r0, r1]) rfl ⟨rfl, (hJ.set n1 n2 _ _).set n1 n2 _ _, ⟨k7.os, k7.tape, k7.output, k7.size, fun i hi h1 _ => k7.block i hi h1 (by simp)⟩⟩
end Go.Proofs.YtopebghandojbaaGreat
namespace Go.Proofs.YtopebghandojbaaGreat
open Go.RowKit Go.Maps
def cc (l : List Chg) : List Value := l.flatMap encC
set_option maxRecDepth 100000 in
theorem cc_append (a b : List Chg) : cc (a ++ b) = cc a ++ cc b := by simp [cc]
set_option maxRecDepth 100000 in
theorem cc_one (x : Chg) : cc [x] = encC x := by simp [cc]
set_option maxRecDepth 100000 in
theorem cc_len : ∀ l : List Chg, (cc l).length = l.length * 2
  | [] => rfl
  | x :: l => by
    have := cc_len l
    unfold cc at *
    rw [List.flatMap_cons, List.length_append, this]
    simp [encC]
    omega
set_option maxRecDepth 100000 in
theorem cc_cons (x : Chg) (l : List Chg) : cc (x :: l) = encC x ++ cc l := by simp [cc]
set_option maxRecDepth 100000 in
theorem cc_get : ∀ (l : List Chg) (t : Nat), t < l.length * 2 → (cc l)[t]? = (encC l[t / 2]!)[t % 2]?
  | [], t, h => by simp at h
  | x :: l, t, h => by
    rw [cc_cons]
    by_cases h3 : t < 2
    · rw [List.getElem?_append_left (by simp [encC]; omega)]
      have e1 : t / 2 = 0 := by omega
      have e2 : t % 2 = t := by omega
      rw [e1, e2]
      rfl
    · rw [List.getElem?_append_right (by simp [encC]; omega)]
      have hl : (encC x).length = 2 := rfl
      rw [hl, cc_get l (t - 2) (by simp at h; omega)]
      have e1 : t / 2 = (t - 2) / 2 + 1 := by omega
      have e2 : t % 2 = (t - 2) % 2 := by omega
      rw [e1, e2]
      rfl
set_option maxRecDepth 100000 in
theorem cc_lie {B : Nat} {ty : TypeId} {w : World} {v : Value} {l : List Chg} (h : w.ownsRow B ty 2 v l.length (cc l)) : CLie w v l := by
  rcases h.2 with ⟨rfl, hz⟩ | ⟨gb, cap, cur, rfl, hbase, hgb, r1, r2, r3, r4⟩
  · have : l = [] := List.eq_nil_of_length_eq_zero hz
    subst this
    exact ⟨none, 0, rfl, Nat.le_refl _, by decide, fun i hi => by simp at hi⟩
  · refine ⟨_, cap, rfl, r1, r2, fun i hi => ⟨gb, 0, rfl, lt_of_block hgb, ?_⟩⟩
    have key : ∀ j, j < 2 → w.cell? ⟨gb, i * 2 + j, none⟩ = (encC l[i])[j]? := by
      intro j hj
      have hlt : i * 2 + j < l.length * 2 := by omega
      have e1 : cur.toList[i * 2 + j]? = (cc l)[i * 2 + j]? := by rw [← r4, List.getElem?_take_of_lt hlt]
      rw [cc_get l _ hlt] at e1
      have e2 : (i * 2 + j) / 2 = i := by omega
      have e3 : (i * 2 + j) % 2 = j := by omega
      rw [e2, e3, getElem!_pos l i hi, Array.getElem?_toList] at e1
      rw [← e1]
      simp [World.cell?, hgb]
    rw [Nat.zero_add]
    exact ⟨key 0 (by decide), key 1 (by decide)⟩
end Go.Proofs.YtopebghandojbaaGreat
namespace Go.Proofs.YtopebghandojbaaGreat
open Go.RowKit Go.Maps
set_option maxRecDepth 100000 in
theorem CLie.same {w w' : World} {v : Value} {l : List Chg} (h : CLie w v l) (hs : w.heap.size ≤ w'.heap.size) (k : ∀ x, v.ownBlock = some x → w'.heap[x]? = w.heap[x]?) : CLie w' v l := by
  obtain ⟨ao, cap, rfl, h1, h2, h3⟩ := h
  refine ⟨ao, cap, rfl, h1, h2, fun i hi => ?_⟩
  obtain ⟨gb, off, e, hg, c0, c1⟩ := h3 i hi
  subst e
  have kb := k gb rfl
  exact ⟨gb, off, rfl, Nat.lt_of_lt_of_le hg hs, (World.cell?_of_block (a := ⟨gb, _, none⟩) kb).trans c0, (World.cell?_of_block (a := ⟨gb, _, none⟩) kb).trans c1⟩
end Go.Proofs.YtopebghandojbaaGreat
