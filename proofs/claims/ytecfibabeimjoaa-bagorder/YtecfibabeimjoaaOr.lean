import Derived.Test.YtecfibabeimjoaaSu
import Derived.Deep.RegionHeld3
namespace Go.Proofs.Ytecfibabeimjoaa
open Go.RowKit Go.Maps Go.Sort Go.Shelf

/-- is a message taken, where there is room? -/
def good (n : Int) (m : Msg) : Bool := isN n m.f && isN n m.t && decide (m.s.size ≤ 65535)
noncomputable def putL (n : Int) (m : Msg) (L : List Msg) : List Msg := if good n m then ins m L else L
theorem bag_putF {base g b N : Nat} {n : Int} {L : List Msg} (m : Msg) (hm : okM m) (hN : N < 1000000) (hlt : L.length < 1024) (w : World) (h : Bag base g b w N n L) :
    Calls Try.prog 17 #[.pointer (some ⟨g, 0, none⟩), valM m] w fun e w' => (∃ v, e = .returned v) ∧ Bag base g b w' (N + 1) n (putL n m L) ∧ Only [g, b] w w' := by
  unfold putL
  cases h1 : isN n m.f with
  | false =>
    rw [if_neg (by unfold good; rw [h1]; simp)]
    exact (put_node m (by rw [h1]; simp) w h).mono fun _ _ q => ⟨⟨_, q.1⟩, (h.below q.2).mono (by omega), Only.of_below q.2⟩
  | true =>
    cases h2 : isN n m.t with
    | false =>
      rw [if_neg (by unfold good; rw [h1, h2]; simp)]
      exact (put_node m (by rw [h2]; simp) w h).mono fun _ _ q => ⟨⟨_, q.1⟩, (h.below q.2).mono (by omega), Only.of_below q.2⟩
    | true =>
      by_cases h3 : m.s.size ≤ 65535
      · rw [if_pos (by unfold good; rw [h1, h2]; simp [h3])]
        exact (bag_put m hm h1 h2 h3 hN hlt w h).mono fun _ _ q => ⟨⟨_, q.1⟩, q.2⟩
      · rw [if_neg (by unfold good; rw [h1, h2]; simp [h3])]
        exact (put_long m h1 h2 (by omega) w h).mono fun _ _ q => ⟨⟨_, q.1⟩, (h.below q.2).mono (by omega), Only.of_below q.2⟩
/-- the first j messages that are taken -/
def takenF (n : Int) (f : Nat → Msg) (j : Nat) : List Msg := ((List.range j).map f).filter (good n)
theorem taken_succ (n : Int) (f : Nat → Msg) (j : Nat) : takenF n f (j + 1) = takenF n f j ++ (if good n (f j) then [f j] else []) := by
  unfold takenF
  rw [List.range_succ, List.map_append, List.filter_append]
  cases h : good n (f j) <;> simp [h]
theorem taken_len (n : Int) (f : Nat → Msg) (j : Nat) : (takenF n f j).length ≤ j := by
  unfold takenF
  have := List.length_filter_le (good n) ((List.range j).map f)
  simpa using this
theorem putL_perm {n : Int} {m : Msg} {L F : List Msg} (h : L.Perm F) : (putL n m L).Perm (F ++ (if good n m then [m] else [])) := by
  unfold putL
  split
  · exact (ins_perm m L).trans (((h.cons m)).trans (List.perm_append_singleton m F).symm)
  · simpa using h
theorem taken_rev (n : Int) (f : Nat → Msg) (len : Nat) : (takenF n (fun i => f (len - 1 - i)) len).Perm (takenF n f len) := by
  unfold takenF
  refine List.Perm.filter _ ?_
  have e : (List.range len).map (fun i => f (len - 1 - i)) = ((List.range len).map f).reverse := by
    apply List.ext_getElem
    · simp
    · intro i h1 h2
      simp
  rw [e]
  exact List.reverse_perm _
theorem sortedR_unique {a b : List Msg} (ha : SortedR a) (hb : SortedR b) (h : a.Perm b) : a = b :=
  List.Perm.eq_of_pairwise (le := fun x y => ¬ ltP y x) (fun _ _ _ _ h1 h2 => (ltP_tri h2 h1)) ha hb h
/-- two bags apart -/
structure Two (base ga ba gb bb : Nat) (w : World) (j : Nat) (n : Int) (L M : List Msg) : Prop where
  a : Bag base ga ba w j n L
  b : Bag base gb bb w j n M
  d1 : ga ∉ [gb, bb]
  d2 : ba ∉ [gb, bb]
theorem Two.below {base ga ba gb bb j : Nat} {w w' : World} {n : Int} {L M : List Msg} (h : Two base ga ba gb bb w j n L M) (k : Below w.heap.size w w') : Two base ga ba gb bb w' j n L M := ⟨h.a.below k, h.b.below k, h.d1, h.d2⟩
/-- both behind j rounds -/
def TJ (base ga ba gb bb : Nat) (w : World) (n : Int) (f : Nat → Msg) (len j : Nat) : Prop := ∃ L M, Two base ga ba gb bb w j n L M ∧ L.Perm (takenF n f j) ∧ M.Perm (takenF n (fun i => f (len - 1 - i)) j)
/-- behind the first half of a round -/
def TH (base ga ba gb bb : Nat) (w : World) (n : Int) (f : Nat → Msg) (len j : Nat) : Prop := ∃ L M, Bag base ga ba w (j + 1) n L ∧ Bag base gb bb w j n M ∧ ga ∉ [gb, bb] ∧ ba ∉ [gb, bb] ∧ L.Perm (takenF n f (j + 1)) ∧ M.Perm (takenF n (fun i => f (len - 1 - i)) j)
theorem tj_a {base ga ba gb bb j len : Nat} {n : Int} {f : Nat → Msg} (hf : okM (f j)) (hj : j ≤ 1000) (w : World) (h : TJ base ga ba gb bb w n f len j) (hb : base ≤ w.heap.size) : Calls Try.prog 17 #[.pointer (some ⟨ga, 0, none⟩), valM (f j)] w fun e w' => (∃ v, e = .returned v) ∧ TH base ga ba gb bb w' n f len j ∧ Below base w w' := by
  obtain ⟨L, M, h, p1, p2⟩ := h
  have hl := p1.length_eq
  have := taken_len n f j
  refine (bag_putF (f j) hf (by omega) (by omega) w h.a).mono fun _ w' q => ⟨q.1, ⟨_, M, q.2.1, h.b.other q.2.2 ?_ ?_, h.d1, h.d2, ?_, p2⟩, h.a.belowOf hb q.2.2⟩
  · have := h.d1; have := h.d2; simp at *; omega
  · have := h.d1; have := h.d2; simp at *; omega
  · rw [taken_succ]; exact putL_perm p1
theorem tj_b {base ga ba gb bb j len : Nat} {n : Int} {f : Nat → Msg} (hf : okM (f (len - 1 - j))) (hj : j ≤ 1000) (w : World) (h : TH base ga ba gb bb w n f len j) (hb : base ≤ w.heap.size) : Calls Try.prog 17 #[.pointer (some ⟨gb, 0, none⟩), valM (f (len - 1 - j))] w fun e w' => (∃ v, e = .returned v) ∧ TJ base ga ba gb bb w' n f len (j + 1) ∧ Below base w w' := by
  obtain ⟨L, M, hA, hB, d1, d2, p1, p2⟩ := h
  have hl := p2.length_eq
  have := taken_len n (fun i => f (len - 1 - i)) j
  refine (bag_putF (f (len - 1 - j)) hf (by omega) (by omega) w hB).mono fun _ w' q => ⟨q.1, ⟨L, _, ⟨hA.other q.2.2 d1 d2, q.2.1, d1, d2⟩, p1, ?_⟩, hB.belowOf hb q.2.2⟩
  rw [taken_succ]
  exact putL_perm p2
/-- at the end both have the same -/
theorem TJ.same {base ga ba gb bb len : Nat} {w : World} {n : Int} {f : Nat → Msg} (h : TJ base ga ba gb bb w n f len len) : ∃ L, Two base ga ba gb bb w len n L L := by
  obtain ⟨L, M, h, p1, p2⟩ := h
  have e : L = M := sortedR_unique h.a.so h.b.so (p1.trans ((p2.trans (taken_rev n f len)).symm))
  subst e
  exact ⟨L, h⟩
set_option maxRecDepth 100000 in
set_option maxHeartbeats 8000000 in
theorem order_walk (ao : Option Addr) (len cap : Nat) (it : Nat → Msg) (W : World) (hS : MLie W ao len it) (_hlc : len ≤ cap) (_hcm : cap ≤ maxLen) :
    Calls Try.prog 4 #[.slice ao len cap] W fun e w' => e = .returned (.bool true) ∧ Below W.heap.size W w' := by
  unfold maxLen at _hcm
  have HS := hid hS
  clear hS
  have HNEW := hid (new_any 3 (by decide) (by decide) W.heap.size W (Nat.le_refl _))
  have HNEW2 := hid (fun w (h : W.heap.size ≤ w.heap.size) => new_any 3 (by decide) (by decide) W.heap.size w h)
  by_cases hl3 : 300 < len
  · go_enter Try.func4, Try.ntmps4
    go_wp2_with (first
      | (go_at_call 8; have hk := HB1; clear hk; refine (HNEW2.out _ HB1.out.size).mono ?_; rintro e w2 ⟨rfl, hB2, hb2⟩; have HB2 := hid (HB1.out.next hb2); clear hB2 hb2)
      | (go_at_call 8; refine HNEW.out.mono ?_; rintro e w1 ⟨rfl, hB1, hb1⟩; have HB1 := hid hb1; clear hB1 hb1)
      | (go_at_call 10; refine (speaks_any _).mono ?_; rintro e w7 ⟨rfl, hb7⟩))
    go_ret
    exact ⟨rfl, HB2.out.next hb7⟩
  · go_enter Try.func4, Try.ntmps4
    go_wp2_with (first
      | (go_at_call 8; have hk := HB1; clear hk; refine (HNEW2.out _ HB1.out.size).mono ?_; rintro e w2 ⟨rfl, hB2, hb2⟩; have HB2 := hid (HB1.out.next hb2); have HT2 : Hid (TJ W.heap.size (W.heap.size + 1) W.heap.size (w1.heap.size + 1) w1.heap.size w2 3 it len 0) := ⟨[], [], ⟨HA1.out.below hb2, Bag.new hB2, by have := HA1.out.gb; simp; omega, by have := HA1.out.gb; simp; omega⟩, List.Perm.refl _, List.Perm.refl _⟩; clear hB2 hb2)
      | (go_at_call 8; refine HNEW.out.mono ?_; rintro e w1 ⟨rfl, hB1, hb1⟩; have HA1 := hid (Bag.new hB1); have HB1 := hid hb1; clear hB1 hb1))
    go_loopw [57] (fun i wr => ∃ j : Nat, i = .int .i64 j ∧ j ≤ len ∧ TJ W.heap.size (W.heap.size + 1) W.heap.size (w1.heap.size + 1) w1.heap.size wr 3 it len j ∧ Below W.heap.size W wr) (fun i _ => len - (intOf i).toNat)
    case atStart => exact ⟨0, rfl, Nat.zero_le _, HT2.out, HB2.out⟩
    case round =>
      obtain ⟨j, rfl, hj, hJ, hB⟩ := hrel
      have HJ := hid hJ
      have HB := hid hB
      clear hJ hB HT2 HB2 HB1 HA1 HNEW HNEW2
      by_cases hlt : j < len
      · obtain ⟨b, off, rfl, hbW, s0, s1, s2, okj⟩ := HS.out j hlt
        obtain ⟨b', off', e', _, s3, s4, s5, okk⟩ := HS.out (len - 1 - j) (by omega)
        cases e'
        have t0 := (HB.out.cell (p := ⟨b, off + j * 3, none⟩) hbW).trans s0
        have t1 := (HB.out.cell (p := ⟨b, off + j * 3 + 1, none⟩) hbW).trans s1
        have t2 := (HB.out.cell (p := ⟨b, off + j * 3 + 2, none⟩) hbW).trans s2
        have HPA := hid (tj_a okj (show j ≤ 1000 by omega) _ HJ.out HB.out.size)
        have HPB := hid (fun w (h : TH W.heap.size (W.heap.size + 1) W.heap.size (w1.heap.size + 1) w1.heap.size w 3 it len j) (hb : W.heap.size ≤ w.heap.size) => tj_b okk (show j ≤ 1000 by omega) w h hb)
        obtain ⟨ma, hma⟩ : ∃ m, m = it j := ⟨_, rfl⟩
        obtain ⟨mb, hmb⟩ : ∃ m, m = it (len - 1 - j) := ⟨_, rfl⟩
        rw [← hma] at t0 t1 t2 HPA
        rw [← hmb] at s3 s4 s5 HPB
        unfold valM at HPA HPB
        have HS3 := hid s3
        have HS4 := hid s4
        have HS5 := hid s5
        clear s0 s1 s2 s3 s4 s5 hma hmb okj okk
        have hbr : b < wr.heap.size := Nat.lt_of_lt_of_le hbW HB.out.size
        go_wp2_with (first
          | (go_at_call 17; have hk := HH3; clear hk; refine (HPB.out _ HH3.out HB3.out.size).mono ?_; rintro e w4 ⟨⟨v, rfl⟩, hJ4, hb4⟩; have HJ4 := hid hJ4; have HB4 := hid (HB3.out.trans hb4); clear hJ4 hb4)
          | (go_at_call 17; refine (HPA.out).mono ?_; rintro e w3 ⟨⟨v, rfl⟩, hH3, hb3⟩; have HH3 := hid hH3; have HB3 := hid (HB.out.trans hb3); have u0 := (HB3.out.cell (p := ⟨b, off + (len - 1 - j) * 3, none⟩) hbW).trans HS3.out; have u1 := (HB3.out.cell (p := ⟨b, off + (len - 1 - j) * 3 + 1, none⟩) hbW).trans HS4.out; have u2 := (HB3.out.cell (p := ⟨b, off + (len - 1 - j) * 3 + 2, none⟩) hbW).trans HS5.out; have hb33 : b < w3.heap.size := Nat.lt_of_lt_of_le hbW HB3.out.size; clear hH3 hb3 t0 t1 t2))
        go_roundw
        case rel => exact ⟨j + 1, by go_num, by omega, HJ4.out, HB4.out⟩
        case measure => simp [intOf]; omega
      · have hjl : j = len := by omega
        subst hjl
        obtain ⟨L, hT⟩ := HJ.out.same
        have HT := hid hT
        have hLl := hT.a.le
        have hdl := dd_len_le L
        have HOK : Hid (∀ x ∈ dd L, okM x ∧ cnt x L ≤ L.length) := fun x hx => ⟨hT.a.ok x (mem_dd.1 hx), cnt_le x L⟩
        have HLSA := hid (bag_list (show j ≤ 100000000 by omega) wr hT.a)
        have HLSB := hid (fun w (h : Two W.heap.size (W.heap.size + 1) W.heap.size (w1.heap.size + 1) w1.heap.size w j 3 L L) => bag_list (show j ≤ 100000000 by omega) w h.b)
        have HLNA := hid (fun w (h : Two W.heap.size (W.heap.size + 1) W.heap.size (w1.heap.size + 1) w1.heap.size w j 3 L L) => len_any w h.a.is)
        have HLNB := hid (fun w (h : Two W.heap.size (W.heap.size + 1) W.heap.size (w1.heap.size + 1) w1.heap.size w j 3 L L) => len_any w h.b.is)
        clear hT HJ
        go_wp2_with (go_at_call 20; fail)
        refine (HLSA.out).mono ?_
        rintro e w2 ⟨v, rfl, hL2, hb2⟩
        obtain ⟨ao2, cap2, rfl⟩ := hL2.len
        have HT2 := hid (HT.out.below hb2)
        have HB2 := hid (HB.out.next hb2)
        have HL2 := hid hL2
        clear hL2 hb2 HLSA
        go_wp2_with (go_at_call 20; fail)
        refine (HLSB.out _ HT2.out).mono ?_
        rintro e w3 ⟨v, rfl, hL3, hb3⟩
        obtain ⟨ao3, cap3, rfl⟩ := hL3.len
        have HT3 := hid (HT2.out.below hb3)
        have HB3 := hid (HB2.out.next hb3)
        have HL2' := hid (HL2.out.below hb3)
        have HL3 := hid hL3
        clear hL3 hb3 HLSB HL2 HT2 HT
        obtain ⟨l, hl⟩ : ∃ l, l = dd L := ⟨_, rfl⟩
        rw [← hl] at HL2' HL3 HOK hdl ⊢
        have hcl : l.length ≤ 1024 := by omega
        clear hl
        go_wp2_with (first
          | (go_at_call 24; have hk := HE4; clear hk; refine (HLNB.out _ HT3.out).mono ?_; rintro e w5 ⟨rfl, hw⟩; have hw := hw.symm; subst hw)
          | (go_at_call 24; refine (HLNA.out _ HT3.out).mono ?_; rintro e w4 ⟨rfl, hw⟩; have HE4 := hid (Eq.refl (1 : Nat)); have hw := hw.symm; subst hw))
        go_loopw [95] (fun i wr2 => ∃ q : Nat, i = .int .i64 q ∧ q ≤ l.length ∧ Below w3.heap.size w3 wr2) (fun i _ => l.length - (intOf i).toNat)
        case atStart => exact ⟨0, rfl, Nat.zero_le _, Below.refl _ _⟩
        case round =>
          obtain ⟨q, rfl, hq, hBq⟩ := hrel
          have HBq := hid hBq
          clear hBq
          by_cases hqk : q < l.length
          · obtain ⟨g2, cap2', e, hc1, hc2, hbs2, hgl2, c0, c1, c2⟩ := (HL2'.out.below HBq.out).cellsAt q hqk
            cases e
            obtain ⟨g3, cap3', e, hc3, hc4, hbs3, hgl3, d0, d1, d2⟩ := (HL3.out.below HBq.out).cellsAt q hqk
            cases e
            obtain ⟨hok, hcl⟩ := HOK.out l[q] (List.getElem_mem hqk)
            obtain ⟨x, hx⟩ : ∃ x, x = l[q] := ⟨_, rfl⟩
            rw [← hx] at c0 c1 c2 d0 d1 d2 hok hcl
            clear hx
            have HCA := hid (fun w (h : Two W.heap.size (W.heap.size + 1) W.heap.size (w1.heap.size + 1) w1.heap.size w j 3 L L) => bag_count x hok w h.a)
            have HCB := hid (fun w (h : Two W.heap.size (W.heap.size + 1) W.heap.size (w1.heap.size + 1) w1.heap.size w j 3 L L) => bag_count x hok w h.b)
            unfold valM at HCA HCB
            obtain ⟨cx, hcx⟩ : ∃ c, c = cnt x L := ⟨_, rfl⟩
            rw [← hcx] at HCA HCB hcl
            have HTQ := hid (HT3.out.below HBq.out)
            clear hcx hok HOK
            unfold maxLen at hc2 hc4
            go_wp2
            have HDB := hid (Below.drew HBq.out)
            have HTD := hid (HT3.out.below (Below.drew HBq.out))
            have hg2 : g2 < wr.heap.size := hgl2
            have hg3 : g3 < wr.heap.size := hgl3
            go_region_held3 (fun w' => w'.cell? ⟨g2, q * 3, none⟩ = some (.int .i64 x.f) ∧ w'.cell? ⟨g2, q * 3 + 1, none⟩ = some (.int .i64 x.t) ∧ w'.cell? ⟨g2, q * 3 + 2, none⟩ = some (.string x.s) ∧ w'.cell? ⟨g3, q * 3, none⟩ = some (.int .i64 x.f) ∧ w'.cell? ⟨g3, q * 3 + 1, none⟩ = some (.int .i64 x.t) ∧ w'.cell? ⟨g3, q * 3 + 2, none⟩ = some (.string x.s)) (first | exact ⟨c0, c1, c2, d0, d1, d2⟩ | go_keep) (first
              | (go_at_call 22; have hk := HT5; clear hk; refine (HCB.out _ HT5.out).mono ?_; rintro e w6 ⟨rfl, hb6⟩; have HB6 := hid (HB5.out.next hb6); replace c0 := (hb6.cell (p := ⟨g2, q * 3, none⟩) hx2).trans c0; replace c1 := (hb6.cell (p := ⟨g2, q * 3 + 1, none⟩) hx2).trans c1; replace c2 := (hb6.cell (p := ⟨g2, q * 3 + 2, none⟩) hx2).trans c2; replace d0 := (hb6.cell (p := ⟨g3, q * 3, none⟩) hx3).trans d0; replace d1 := (hb6.cell (p := ⟨g3, q * 3 + 1, none⟩) hx3).trans d1; replace d2 := (hb6.cell (p := ⟨g3, q * 3 + 2, none⟩) hx3).trans d2; clear hb6)
              | (go_at_call 22; refine (HCA.out _ HTD.out).mono ?_; rintro e w5 ⟨rfl, hb5⟩; have HB5 := hid (HDB.out.next hb5); have HT5 := hid (HTD.out.below hb5); have hx2 : g2 < w5.heap.size := Nat.lt_of_lt_of_le hg2 hb5.size; have hx3 : g3 < w5.heap.size := Nat.lt_of_lt_of_le hg3 hb5.size; replace c0 := (hb5.cell (p := ⟨g2, q * 3, none⟩) hg2).trans c0; replace c1 := (hb5.cell (p := ⟨g2, q * 3 + 1, none⟩) hg2).trans c1; replace c2 := (hb5.cell (p := ⟨g2, q * 3 + 2, none⟩) hg2).trans c2; replace d0 := (hb5.cell (p := ⟨g3, q * 3, none⟩) hg3).trans d0; replace d1 := (hb5.cell (p := ⟨g3, q * 3 + 1, none⟩) hg3).trans d1; replace d2 := (hb5.cell (p := ⟨g3, q * 3 + 2, none⟩) hg3).trans d2; clear hb5))
            all_goals
              clear c0 c1 c2 d0 d1 d2
              go_wp2
              go_roundw
              case rel => exact ⟨q + 1, by go_num, by omega, HB6.out⟩
              case measure => simp [intOf]; omega
          · clear HOK
            go_wp2_with (first
              | (go_at_call 10; refine (speaks_any _).mono ?_; rintro e w7 ⟨rfl, hb7⟩))
            go_ret
            exact ⟨rfl, (HB3.out.trans (HBq.out.mono HB3.out.size)).next hb7⟩
end Go.Proofs.Ytecfibabeimjoaa
