import Derived.Test.YtopebghandojbaaGreatLd
import Derived.Test.YtopebghandojbaaGreatKe
import Derived.Deep.RegionHeld3
namespace Go.Proofs.YtopebghandojbaaGreat
open Go.RowKit Go.Maps
/-- a row of transactions' slices, of which so many are laid -/
def TR (w : World) (tb n : Nat) (vs : List Value) (Ls : List (List Chg)) : Prop :=
  ∃ cur, w.heap[tb]? = some (.cells cur 24 (0, 0)) ∧ cur.size = n ∧ vs.length = Ls.length ∧ (∀ i (hi : i < vs.length), cur[i]? = some vs[i]) ∧ ∀ i (hi : i < vs.length) (hj : i < Ls.length), CLie w vs[i] Ls[i]
set_option maxRecDepth 100000 in
theorem mkV (n : Nat) (hn : n ≤ 300) : ∃ cs, (∀ w : World, (Instr.makeSlice 69 (.int .i64 (n : Int)) (.int .i64 (n : Int))).run Tryz.prog w = .ok (.slice (some ⟨w.heap.size, 0, none⟩) n n) (w.alloc (.cells cs 24))) ∧ ∀ (w : World), TR (w.alloc (.cells cs 24)) w.heap.size n [] [] := by
  obtain ⟨i0, hi, hz0, hz1, hz2⟩ := info_parts Tryz.infoV31
  refine ⟨madeCells (Value.slice none 0 0).cells n, fun w => ?_, fun w => ⟨_, box_at _ _, by simp [size_madeCells], rfl, fun i hi => by simp at hi, fun i hi => by simp at hi⟩⟩
  have := run_makeSlice (P := Tryz.prog) w 69 24 i0 (.slice none 0 0) Tryz.underlying69 hi hz0 .i64 .i64 (n : Int) (n : Int) (by omega) (by omega) (by rw [hz1]; omega) (by rw [hz2]; omega) (by omega)
  have e1 : (n : Int).toNat = n := by omega
  rw [e1, hz1, Nat.mul_one] at this
  exact this
/-- Open's journal, and the transactions told so far -/
structure OS (B g : Nat) (r : Option Nat) (tb : Nat) (w : World) (P : Int) (T F S : Nat) (M : List Int) (Ls : List (List Chg)) (vs : List Value) : Prop where
  js : JS g r w P T F S M
  tr : TR w tb S vs Ls
  a1 : tb ≠ g
  a2 : some tb ≠ r
  vo : ∀ v ∈ vs, ∀ x, v.ownBlock = some x → B ≤ x ∧ x < w.heap.size ∧ x ≠ g ∧ some x ≠ r ∧ x ≠ tb
  b1 : B ≤ g
  b2 : ∀ x, r = some x → B ≤ x
  b3 : B ≤ tb
set_option maxRecDepth 100000 in
theorem OS.tlt {B g tb : Nat} {r : Option Nat} {w : World} {P : Int} {T F S : Nat} {M : List Int} {Ls : List (List Chg)} {vs : List Value} (h : OS B g r tb w P T F S M Ls vs) : tb < w.heap.size := by
  obtain ⟨cur, k, _⟩ := h.tr
  exact lt_of_block k
set_option maxRecDepth 100000 in
theorem TR.same {w w' : World} {tb n : Nat} {vs : List Value} {Ls : List (List Chg)} (h : TR w tb n vs Ls) (hs : w.heap.size ≤ w'.heap.size) (k : w'.heap[tb]? = w.heap[tb]?) (kv : ∀ v ∈ vs, ∀ x, v.ownBlock = some x → w'.heap[x]? = w.heap[x]?) : TR w' tb n vs Ls := by
  obtain ⟨cur, h1, h2, h3, h4, h5⟩ := h
  exact ⟨cur, k.trans h1, h2, h3, h4, fun i hi hj => (h5 i hi hj).same hs (kv _ (List.getElem_mem hi))⟩
set_option maxRecDepth 100000 in
theorem OS.keep {B g tb : Nat} {r : Option Nat} {w w' : World} {P : Int} {T F S : Nat} {M : List Int} {Ls : List (List Chg)} {vs : List Value} (h : OS B g r tb w P T F S M Ls vs) (k : Below w.heap.size w w') : OS B g r tb w' P T F S M Ls vs :=
  ⟨h.js.below k, h.tr.same k.size (k.block tb h.tlt) (fun v hv x hx => k.block x (h.vo v hv x hx).2.1), h.a1, h.a2, fun v hv x hx => by
    have := h.vo v hv x hx
    have := k.size
    exact ⟨by omega, by omega, (h.vo v hv x hx).2.2⟩, h.b1, h.b2, h.b3⟩
set_option maxRecDepth 100000 in
theorem OS.jstep {B g tb : Nat} {r r' : Option Nat} {w w' : World} {P : Int} {T F S T' F' S' : Nat} {M M' : List Int} {Ls : List (List Chg)} {vs : List Value} (h : OS B g r tb w P T F S M Ls vs) (hS : S' = S) (hj : JS g r' w' P T' F' S' M') (hn : New w r r') (hf : JFr g r w w') : OS B g r' tb w' P T' F' S' M' Ls vs ∧ Below B w w' := by
  subst hS
  have hB : B ≤ w.heap.size := Nat.le_trans h.b1 (Nat.le_of_lt h.js.lt.1)
  have ht := h.tlt
  refine ⟨⟨hj, h.tr.same hf.size (hf.block tb ht h.a1 h.a2) (fun v hv x hx => hf.block x (h.vo v hv x hx).2.1 (h.vo v hv x hx).2.2.1 (h.vo v hv x hx).2.2.2.1), h.a1, ?_, fun v hv x hx => ?_, h.b1, fun x hx => ?_, h.b3⟩, hf.below hB h.b1 h.b2⟩
  · rcases hn with rfl | ⟨k, rfl, hk⟩
    · exact h.a2
    · intro e; cases e; omega
  · obtain ⟨v1, v2, v3, v4, v5⟩ := h.vo v hv x hx
    have := hf.size
    refine ⟨v1, by omega, v3, ?_, v5⟩
    rcases hn with rfl | ⟨k, rfl, hk⟩
    · exact v4
    · intro e; cases e; omega
  · rcases hn with rfl | ⟨k, rfl, hk⟩
    · exact h.b2 x hx
    · cases hx; omega
set_option maxRecDepth 100000 in
theorem OS.put {B g tb : Nat} {r : Option Nat} {w : World} {P : Int} {T F S : Nat} {M : List Int} {Ls : List (List Chg)} {vs : List Value} (h : OS B g r tb w P T F S M Ls vs) (hq : Ls.length < S) {v : Value} {L : List Chg} (hc : CLie w v L) (hv : ∀ x, v.ownBlock = some x → B ≤ x ∧ x < w.heap.size ∧ x ≠ g ∧ some x ≠ r ∧ x ≠ tb) :
    OS B g r tb (w.setCell ⟨tb, Ls.length, none⟩ v) P T F S M (Ls ++ [L]) (vs ++ [v]) := by
  have hz : (w.setCell ⟨tb, Ls.length, none⟩ v).heap.size = w.heap.size := by simp
  have hsame : ∀ x, x ≠ tb → (w.setCell ⟨tb, Ls.length, none⟩ v).heap[x]? = w.heap[x]? := fun x hx => Below.heap_setCell _ _ _ _ hx
  refine ⟨h.js.set h.a1 h.a2 _ _, ?_, h.a1, h.a2, fun u hu x hx => ?_, h.b1, h.b2, h.b3⟩
  · obtain ⟨cur, h1, h2, h3, h4, h5⟩ := h.tr
    refine ⟨_, cells_set h1 _, by simp [h2], by simp [h3], fun i hi => ?_, fun i hi hj => ?_⟩
    · rw [Array.set!_eq_setIfInBounds]
      by_cases hiq : i < vs.length
      · rw [Array.getElem?_setIfInBounds_ne (by omega), List.getElem_append_left hiq]
        exact h4 i hiq
      · have hie : i = vs.length := by simp at hi; omega
        subst hie
        rw [show Ls.length = vs.length from h3.symm, Array.getElem?_setIfInBounds_self_of_lt (by omega)]
        simp
    · by_cases hiq : i < vs.length
      · rw [List.getElem_append_left hiq, List.getElem_append_left (by omega)]
        exact (h5 i hiq (by omega)).same (by omega) (fun x hx => hsame x (h.vo _ (List.getElem_mem hiq) x hx).2.2.2.2)
      · have hie : i = vs.length := by simp at hi; omega
        subst hie
        have e1 : (vs ++ [v])[vs.length] = v := by simp
        have e2 : (Ls ++ [L])[vs.length]'hj = L := by simp [h3]
        rw [e1, e2]
        exact hc.same (by omega) (fun x hx => hsame x (hv x hx).2.2.2.2)
  · rw [hz]
    rcases List.mem_append.1 hu with hu | hu
    · exact h.vo u hu x hx
    · rw [List.mem_singleton] at hu
      subst hu
      exact hv x hx
/-- what Open answers -/
def OY (B : Nat) (P : Int) (T F S : Nat) (Ls : List (List Chg)) (e : Ending) (w' : World) : Prop :=
  ∃ g r tb vs, e = .returned (.tuple #[.pointer (some ⟨g, 0, none⟩), .slice (some ⟨tb, 0, none⟩) S S, .int .i64 0]) ∧ OS B g r tb w' P T F S (Ls.map szL) Ls vs
def ON (e : Ending) : Prop := e = .returned (.tuple #[.pointer none, .slice none 0 0, .int .i64 80])
set_option maxRecDepth 100000 in
theorem JS.push {g : Nat} {r : Option Nat} {w w7 : World} {P : Int} {T F S : Nat} {l : List Int} {y : Int} {ao a7 : Option Addr} {cap m c7 nl : Nat} (hro : (Value.slice ao nl cap).ownBlock = r) (hI : JIs g w P T F (.slice ao nl cap) S) (hR : JRow w (.slice ao nl cap) l)
    (hR7 : JRow w7 (.slice a7 m c7) (l ++ [y])) (hg7 : w.grownBy w7 (Value.slice ao nl cap).ownBlock) (hn7 : (Value.slice a7 m c7).ownBlock = (Value.slice ao nl cap).ownBlock ∨ ∃ k, (Value.slice a7 m c7).ownBlock = some k ∧ w.heap.size ≤ k) :
    JS g (Value.slice a7 m c7).ownBlock (w7.setCell ⟨g, 3, none⟩ (.slice a7 m c7)) P T F S (l ++ [y]) ∧ New w r (Value.slice a7 m c7).ownBlock ∧ JFr g r w (w7.setCell ⟨g, 3, none⟩ (.slice a7 m c7)) := by
  have hJS : JS g r w P T F S l := ⟨_, hro, hI, hR⟩
  have hltr := hJS.lt
  have hgr : some g ≠ (Value.slice ao nl cap).ownBlock := by
    intro e
    exact (hltr.2 g (hro.symm.trans e.symm)).2 rfl
  have ne7 : ∀ x, (Value.slice a7 m c7).ownBlock = some x → x ≠ g := by
    intro x hx
    rcases hn7 with e | ⟨k, e, hk⟩
    · exact (hltr.2 x (hro.symm.trans (e.symm.trans hx))).2
    · rw [hx] at e
      injection e with e
      have := hltr.1
      omega
  have hI7 : JIs g w7 P T F (.slice ao nl cap) S := (hg7.block g hltr.1 hgr).trans hI
  refine ⟨⟨_, rfl, hI7.set3 _, hR7.same fun x hx => Below.heap_setCell _ _ _ _ ?_⟩, ?_, ?_⟩
  · exact ne7 x hx
  · rcases hn7 with e | ⟨k, e, hk⟩
    · exact .inl (e.trans hro)
    · exact .inr ⟨k, e, hk⟩
  · have k7 : JFr g r w w7 := ⟨hg7.os, hg7.tape, hg7.output, hg7.size, fun k hk _ h2 => hg7.block k hk (by rw [hro]; exact h2)⟩
    exact k7.set (.inl rfl) _ _
end Go.Proofs.YtopebghandojbaaGreat
namespace Go.Proofs.YtopebghandojbaaGreat
open Go.RowKit Go.Maps
/-- what Open answers of a region whose header is right -/
def OP (B : Nat) (P : Int) (T F S : Nat) (R : List ByteArray) (e : Ending) (w' : World) : Prop :=
  (∀ Ls, Ls.length = S → decs F R Ls → OY B P T F S Ls e w') ∧ ((¬ ∃ Ls, Ls.length = S ∧ decs F R Ls) → ON e)
set_option maxRecDepth 100000 in
set_option maxHeartbeats 4000000 in
theorem open_go (v : Value) (b0 : ByteArray) (ring : List ByteArray) (w : World) (hv : SLie w v (b0 :: ring)) (hz : ∀ b ∈ b0 :: ring, b.size ≤ 150000000000000) (hn : 7 ≤ ring.length ∧ ring.length ≤ 255) (T F S : Nat) (hh : isHdr b0 T F (F + S)) (h1 : T < ring.length) (h2 : 1 ≤ F) (h3 : F ≤ 1099511627776) (h4 : S ≤ ring.length) :
    Calls Tryz.prog 52 #[v] w fun e w' => OP w.heap.size ring.length T F S (ring.drop T ++ ring.take T) e w' ∧ Below w.heap.size w w' := by
  have HH := hid (fun w => hdr_yes b0 (hz b0 (by simp)) (ring.length : Int) T F (F + S) hh w)
  have HIR := hid (fun w => isRegion_any ((ring.length : Int) + 1) w)
  rw [decide_eq_true (show (8:Int) ≤ (ring.length : Int) + 1 ∧ (ring.length : Int) + 1 ≤ 256 by omega)] at HIR
  have HRz : Hid (∀ b ∈ ring.drop T ++ ring.take T, b.size ≤ 150000000000000) := by
    intro b hb
    refine hz b (List.mem_cons_of_mem _ ?_)
    rcases List.mem_append.1 hb with hb | hb
    · exact List.mem_of_mem_drop hb
    · exact List.mem_of_mem_take hb
  obtain ⟨ao, cap, rfl, hlc, hcm, hcell⟩ := hv
  obtain ⟨b, off, rfl, hbl, c0⟩ := hcell 0 (by simp)
  rw [List.getElem_cons_zero, Nat.add_zero] at c0
  rw [List.length_cons] at hlc ⊢
  have HV1 : Hid (SLie w (.slice (some ⟨b, off + 1, none⟩) ring.length (cap - 1)) ring) := by
    have k : SLie w (.slice (some ⟨b, off, none⟩) (b0 :: ring).length cap) (b0 :: ring) := ⟨_, cap, rfl, by simp; omega, hcm, hcell⟩
    have := SLie.from k (k := 1) (by simp)
    simpa using hid this
  unfold maxLen at hcm
  have hs1 : ∀ w : World, (Instr.slice 55 (.slice (some ⟨b, off, none⟩) (ring.length + 1) cap) (some (.int .i64 1)) none none).run Tryz.prog w = .ok (.slice (some ⟨b, off + 1, none⟩) ring.length (cap - 1)) w := fun w => run_from58 (b := b) (off := off) (n := ring.length + 1) (cap := cap) (k := 1) (by omega) (by omega) w
  have HFT := hid (fun w h => fromTail_any b (off + 1) (cap - 1) T ring (by omega) h1 w h)
  obtain ⟨n, hnn⟩ : ∃ n, n = ring.length := ⟨_, rfl⟩
  obtain ⟨R, hR⟩ : ∃ R, R = ring.drop T ++ ring.take T := ⟨_, rfl⟩
  have hRl : R.length = n := by rw [hR, hnn]; simp; omega
  rw [← hR] at HFT HRz ⊢
  rw [← hnn] at hlc hn h1 h4 HH HIR HV1 HFT hs1 ⊢
  clear hR hnn hcell hz hh
  obtain ⟨cs, hmk, hmF⟩ := mkV S (by omega)
  have HMF := hid hmF
  clear hmF
  go_enter Tryz.func52, Tryz.ntmps52
  go_wp2_with (first
    | (go_at_call 85; refine (HIR.out _).mono ?_; rintro e wq ⟨rfl, hw⟩; have hw := hw.symm; subst hw)
    | (go_at_call 99; fail))
  have HH2 := HH.out w
  refine HH2.mono ?_
  rintro e w1 hrh
  obtain ⟨hr1, _, hb1⟩ := hrh
  obtain ⟨g, rfl, hg0, hj1⟩ := hr1 ⟨by omega, h2, h3, by omega, by omega⟩
  rw [show ((F + S : Nat) : Int) - (F : Int) = (S : Int) by omega] at hj1
  have HJ1 : Hid (JS g none w1 n T F S []) := hid ⟨_, rfl, hj1, JRow.nil _⟩
  have HI1 := hid hj1
  have HB1 := hid hb1
  clear hr1 hb1 HH2 HH
  obtain ⟨d0, d1, d2, d3, d4⟩ := hj1.cells
  have hgl := hj1.lt
  clear hj1
  go_upto_region 6 with fail
  go_cut [7] (fun s wx => ∃ ro rc, s = .slice ro n rc ∧ SLie wx (.slice ro n rc) R ∧ (∀ x, (Value.slice ro n rc).ownBlock = some x → w1.heap.size ≤ x ∧ x < wx.heap.size) ∧ Below w1.heap.size w1 wx)
  case first =>
    go_region_held3 (fun w' => w'.cell? ⟨g, 1, none⟩ = some (.int .i64 (T : Int))) (first | exact d1 | exact k1 | go_keep) (first
      | (go_at_call 100; refine (HFT.out _ (by exact HV1.out.below (HB1.out.next ⟨rfl, rfl, rfl, Nat.le_refl _, fun _ _ => rfl⟩))).mono ?_; rintro e wa ⟨va, rfl, hva, hoa, hba⟩; have HOA := hid hoa; clear hoa; have k1 := (hba.cell (p := ⟨g, 1, none⟩) hgl).trans d1; have HVA := hid hva; have HBA : Hid (Below w1.heap.size w1 wa) := hid ⟨hba.os, hba.tape, hba.output, hba.size, hba.block⟩; obtain ⟨ra, rc, rfl, _, _, _⟩ := hva; rw [hRl] at HVA HOA ⊢; clear hba))
    all_goals
      go_wp2
      go_meet
      exact ⟨_, _, rfl, HVA.out, HOA.out, HBA.out⟩
  case rest =>
    obtain ⟨ro, rc, rfl, hS2, ho2, hb2⟩ := hcut
    rename World => w2
    have HW2 := hid ho2
    have hg1 : g < w1.heap.size := hgl
    clear ho2
    have HS2 := hid hS2
    have HB2 := hid (HB1.out.next hb2)
    have HI2 := hid (HI1.out.below hb2)
    have HJ2 := hid (HJ1.out.below hb2)
    clear hS2 hb2 d0 d1 d2 d3 d4 hgl HI1 HJ1
    obtain ⟨d0, d1, d2, d3, d4⟩ := HI2.out.cells
    have hgl := HI2.out.lt
    have hmk1 := hmk w2
    have HB3 := hid (below_alloc w2 (.cells cs 24))
    have HO3 : Hid (OS w.heap.size g none w2.heap.size (w2.alloc (.cells cs 24)) n T F S [] [] []) := by
      have := HB2.out.size
      exact hid ⟨HJ2.out.below HB3.out, HMF.out w2, by omega, (by intro e; cases e), (by intro v hv; cases hv), hg0, (by intro x hx; cases hx), this⟩
    have HS3 := hid (HS2.out.below HB3.out)
    have HBW3 := hid (HB2.out.next HB3.out)
    go_wp2
    have HX3 : Hid (∀ x, (Value.slice ro n rc).ownBlock = some x → x ≠ g ∧ some x ≠ none ∧ x ≠ w2.heap.size ∧ x < (w2.alloc (.cells cs 24)).heap.size) := by
      intro x hx
      have := HW2.out x hx
      exact ⟨by omega, by simp, by omega, by simp; omega⟩
    clear hmk1 hmk d0 d1 d2 d3 d4 hgl HI2 HJ2
    obtain ⟨tb, htb⟩ : ∃ tb, tb = w2.heap.size := ⟨_, rfl⟩
    rw [← htb] at HO3 HX3 ⊢
    obtain ⟨w3, hw3⟩ : ∃ w3, w3 = w2.alloc (.cells cs 24) := ⟨_, rfl⟩
    rw [← hw3] at HO3 HS3 HBW3 HX3 ⊢
    clear hw3 htb HB3 HS2 HB2
    go_loopw [7, 44] (fun rv i wr => ∃ (q : Nat) (r : Option Nat) (Ls : List (List Chg)) (vs : List Value) (ra : Option Addr) (m c : Nat), i = .int .i64 q ∧ q ≤ S ∧ Ls.length = q ∧ decs F R Ls ∧ rv = .slice ra m c ∧ SLie wr (.slice ra m c) (R.drop (used Ls)) ∧ (∀ x, (Value.slice ra m c).ownBlock = some x → x ≠ g ∧ some x ≠ r ∧ x ≠ tb ∧ x < wr.heap.size) ∧ OS w.heap.size g r tb wr n T F S (Ls.map szL) Ls vs ∧ Below w.heap.size w wr) (fun _ i _ => S - (intOf i).toNat)
    case atStart => exact ⟨0, none, [], [], ro, n, rc, rfl, Nat.zero_le _, rfl, trivial, rfl, HS3.out, HX3.out, HO3.out, HBW3.out⟩
    case round =>
      obtain ⟨q, r, Ls, vs, ra, m, c, rfl, hq, hLq, hD, rfl, hS, hXo, hO, hB⟩ := hrel
      have HXo := hid hXo
      clear hXo
      have HD := hid hD
      have HS := hid hS
      have HO := hid hO
      have HB := hid hB
      have HLq := hid hLq
      clear hD hS hO hB HO3 HS3 HBW3 hLq HX3
      by_cases hqS : q < S
      · have HRz' : Hid (∀ b ∈ R.drop (used Ls), b.size ≤ 150000000000000) := fun b hb => HRz.out b (List.mem_of_mem_drop hb)
        by_cases hex : ∃ s L, decOk (R.drop (used Ls)) s L
        · obtain ⟨s, L, hd⟩ := hex
          have HDy := hid (dec_yes _ _ s L HRz'.out hd wr HS.out)
          have hdl := hd.len
          have hsl : s ≤ 1099511627776 := by
            obtain ⟨b', bl', ps', sm', _, k, _⟩ := hd
            exact k.2.2.1
          by_cases hsq : s = F + q
          · subst hsq
            have HDD : Hid (decs F R (Ls ++ [L])) := hid (HD.out.snoc (by rw [HLq.out]; exact hd))
            clear hd
            rw [show ((F + q : Nat) : Int) = (F : Int) + (q : Int) by omega] at HDy
            have hml : m = (R.drop (used Ls)).length ∧ m ≤ c ∧ c ≤ maxLen := by
              obtain ⟨_, _, e, k1, k2, _⟩ := HS.out
              injection e with e1 e2 e3
              omega
            obtain ⟨ra', m', c', hcut, hcutL, hcutO⟩ := SLie.cut (ao := ra) (n := m) (cap := c) (k := L.length + 1) (by omega) hml.2.1 hml.2.2
            rw [show ((L.length + 1 : Nat) : Int) = 1 + (L.length : Int) by omega] at hcut
            have HCL := hid hcutL
            have HCO := hid hcutO
            clear hcutL hml hcutO
            obtain ⟨sv, hro, hI, hRw⟩ := HO.out.js
            obtain ⟨sa, scap, rfl, hs1', hs2'⟩ := hRw.len
            have hMl : (Ls.map szL).length = q := by rw [List.length_map]; exact HLq.out
            have HI := hid hI
            have HRw := hid hRw
            have HRO := hid hro
            clear hI hRw hro
            rw [hMl] at HI HRw HRO hs1'
            have hgw := HI.out.lt
            have htl := HO.out.tlt
            go_wp2_with (go_at_call 101; fail)
            refine (HDy.out).mono ?_
            rintro e w4 ⟨v4, rfl, hc4, hf4, hb4⟩
            have HC4 := hid hc4
            have HB4 := hid hb4
            have HF4 := hid hf4
            obtain ⟨la, lc, rfl, _, _, _⟩ := hc4
            clear hf4 hb4
            have HO4 := hid (HO.out.keep HB4.out)
            have HS4 := hid (HS.out.below HB4.out)
            have HI4 := hid (HI.out.below HB4.out)
            have HRw4 := hid (HRw.out.below HB4.out)
            have hz4 := HB4.out.size
            obtain ⟨d0, d1, d2, d3, d4⟩ := HI4.out.cells
            have hgl := HI4.out.lt
            have htl4 := HO4.out.tlt
            have hne := HO4.out.a1
            obtain ⟨tx, htx, htf⟩ : ∃ tx, w4.cell? ⟨tb, q, none⟩ = some tx ∧ ∀ j, w4.frozen? ⟨tb, j, none⟩ = false := by
              obtain ⟨cur, k1, k2, _⟩ := HO4.out.tr
              refine ⟨cur[q]'(by omega), ?_, frees k1⟩
              rw [cell_of k1, Array.getElem?_eq_getElem (by omega)]
            have HO5 : Hid (OS w.heap.size g r tb (w4.setCell ⟨tb, q, none⟩ (.slice la L.length lc)) n T F S (Ls.map szL) (Ls ++ [L]) (vs ++ [.slice la L.length lc])) := by
              have := HO4.out.put (by rw [HLq.out]; exact hqS) HC4.out (by
                intro x hx
                have k := HF4.out x hx
                have kg := HO.out.js.lt
                refine ⟨by have := HB.out.size; omega, k.2, by omega, fun e => ?_, by omega⟩
                have := (kg.2 x e.symm).1
                omega)
              rw [HLq.out] at this
              exact hid this
            have HB5 : Hid (Below w.heap.size w (w4.setCell ⟨tb, q, none⟩ (.slice la L.length lc))) := hid ((HB.out.next HB4.out).setCell (by exact HO4.out.b3) _)
            have HS5 : Hid (SLie (w4.setCell ⟨tb, q, none⟩ (.slice la L.length lc)) (.slice ra m c) (R.drop (used Ls))) := hid (HS4.out.same (by simp) fun x hx => Below.heap_setCell _ _ _ _ (HXo.out x hx).2.2.1)
            have HI5 : Hid (JIs g (w4.setCell ⟨tb, q, none⟩ (.slice la L.length lc)) n T F (.slice sa q scap) S) := hid ((Below.heap_setCell _ _ _ _ (Ne.symm hne)).trans HI4.out)
            have HRw5 : Hid (JRow (w4.setCell ⟨tb, q, none⟩ (.slice la L.length lc)) (.slice sa q scap) (Ls.map szL)) := hid (HRw4.out.same fun x hx => Below.heap_setCell _ _ _ _ (by rintro rfl; exact HO4.out.a2 (HRO.out.symm.trans hx).symm))
            go_upto_region 15 with fail
            have hz5 : Hid ((w4.setCell ⟨tb, q, none⟩ (.slice la L.length lc)).heap.size = w4.heap.size) := hid (by simp)
            obtain ⟨w5, hw5⟩ : ∃ w5, w5 = w4.setCell ⟨tb, q, none⟩ (.slice la L.length lc) := ⟨_, rfl⟩
            rw [← hw5] at HO5 HB5 HS5 HI5 HRw5 hz5 ⊢
            clear hw5 d0 d1 d2 d3 d4 htx htf hgl htl4
            obtain ⟨d0, d1, d2, d3, d4⟩ := HI5.out.cells
            have hgl := HI5.out.lt
            have hfg := frees HI5.out
            have hgr : some g ≠ (Value.slice sa q scap).ownBlock := by
              intro e
              exact ((HO5.out.js.lt).2 g (HRO.out.symm.trans e.symm)).2 rfl
            go_wp2_with (first
              | (at_builtin; refine pushJ (w0 := w5) rfl (.tmp 74) (.tmp 76) rfl w5.heap.size _ (Ls.map szL) (1 + (L.length : Int)) rfl rfl rfl (by exact HRw5.out) (by rw [hMl]; omega) ?_; intro v7 w7 hR7 hg7 hn7; have HR7 := hid hR7; have HG7 := hid hg7; have HN7 := hid hn7; obtain ⟨a7, c7, rfl, _, _⟩ := hR7.len; have HI7 : Hid (JIs g w7 n T F (.slice sa q scap) S) := hid ((hg7.block g hgl hgr).trans HI5.out); clear hR7 hg7 hn7 d0 d1 d2 d3 d4 hfg; obtain ⟨d0, d1, d2, d3, d4⟩ := HI7.out.cells; have hf7 := frees HI7.out; have hlt7 := HI7.out.lt))
            have hz5 := hz5.out
            rw [List.length_append, hMl, List.length_singleton] at HR7 HN7
            obtain ⟨hj8, hn8, hf8⟩ := JS.push HRO.out HI5.out HRw5.out HR7.out HG7.out HN7.out
            obtain ⟨hO8, hB8⟩ := HO5.out.jstep rfl hj8 hn8 hf8
            have hS8 := HS5.out.same hf8.size fun x hx => hf8.block x (by have := (HXo.out x hx).2.2.2; omega) (HXo.out x hx).1 (HXo.out x hx).2.1
            go_roundw
            case rel =>
              refine ⟨q + 1, (Value.slice a7 (q + 1) c7).ownBlock, Ls ++ [L], vs ++ [.slice la L.length lc], ra', m', c', by go_num, by omega, by simp [HLq.out], HDD.out, rfl, ?_, ?_, ?_, HB5.out.trans hB8⟩
              · rw [used_snoc, ← List.drop_drop]
                exact HCL.out _ _ hS8
              · intro x hx
                rw [HCO.out] at hx
                have k := HXo.out x hx
                have := hf8.size
                refine ⟨k.1, ?_, k.2.2.1, by omega⟩
                rcases hn8 with e | ⟨y, e, hy⟩
                · rw [e]; exact k.2.1
                · rw [e]; intro e9; cases e9; omega
              · rw [List.map_append, show [L].map szL = [1 + (L.length : Int)] by simp [szL]; omega]
                exact hO8
            case measure => simp [intOf]; omega
          · have HNo : Hid (¬ ∃ Ks, Ks.length = S ∧ decs F R Ks) := by
              rintro ⟨Ks, k1, k2⟩
              obtain ⟨M, hM⟩ := HD.out.at k2 (by rw [HLq.out, k1]; exact hqS)
              rw [HLq.out] at hM
              exact hsq (hd.only hM).1.symm
            clear hd
            have hsq' : ((s : Int) != (F : Int) + (q : Int)) = true := by simp; omega
            obtain ⟨sv, hro, hI, hRw⟩ := HO.out.js
            have HI := hid hI
            clear hI hRw hro hsq
            go_wp2_with (go_at_call 101; fail)
            refine (HDy.out).mono ?_
            rintro e w4 ⟨v4, rfl, hc4, hf4, hb4⟩
            have HB4 := hid (HB.out.next hb4)
            obtain ⟨d0, d1, d2, d3, d4⟩ := (HI.out.below hb4).cells
            have hgl := (HI.out.below hb4).lt
            obtain ⟨la, lc, rfl, _, _, _⟩ := hc4
            clear hf4 hb4
            go_wp2
            refine bodyPost_ret (v := .tuple #[.pointer none, .slice none 0 0, .int .i64 80]) (by simp [results, Tryz.results52, go_sem]) rfl ⟨⟨fun Ks k1 k2 => absurd ⟨Ks, k1, k2⟩ HNo.out, fun _ => rfl⟩, HB4.out⟩
        · have HNo : Hid (¬ ∃ Ks, Ks.length = S ∧ decs F R Ks) := by
            rintro ⟨Ks, k1, k2⟩
            obtain ⟨M, hM⟩ := HD.out.at k2 (by rw [HLq.out, k1]; exact hqS)
            exact hex ⟨_, _, hM⟩
          have HDn := hid (dec_no _ _ HRz'.out hex wr HS.out)
          clear hex
          go_wp2_with (go_at_call 101; fail)
          refine (HDn.out).mono ?_
          rintro e w4 ⟨c4, rfl, hc4, hb4⟩
          have HB4 := hid (HB.out.next hb4)
          have hc4' : (c4 != 0) = true := by simp [hc4]
          clear hc4 hb4
          go_wp2
          refine bodyPost_ret (v := .tuple #[.pointer none, .slice none 0 0, .int .i64 80]) (by simp [results, Tryz.results52, go_sem]) rfl ⟨⟨fun Ks k1 k2 => absurd ⟨Ks, k1, k2⟩ HNo.out, fun _ => rfl⟩, HB4.out⟩
      · have hqe : q = S := by omega
        subst hqe
        go_wp2
        refine bodyPost_ret (v := .tuple #[.pointer (some ⟨g, 0, none⟩), .slice (some ⟨tb, 0, none⟩) q q, .int .i64 0]) (by simp [results, Tryz.results52, go_sem]) rfl ⟨⟨fun Ks hK1 hK2 => ?_, fun hno => absurd ⟨Ls, HLq.out, HD.out⟩ hno⟩, HB.out⟩
        obtain rfl := HD.out.only hK2 (HLq.out.trans hK1.symm)
        exact ⟨g, r, tb, vs, rfl, HO.out⟩
end Go.Proofs.YtopebghandojbaaGreat
