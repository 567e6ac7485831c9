import Derived.Test.YtopebghandojbaaGreatGe
namespace Go.Proofs.YtopebghandojbaaGreat
open Go.RowKit Go.Maps

theorem grow_alloc {w w' : World} {o : Obj} {r : Option Nat} (h : (w.alloc o).grownBy w' r) : w.grownBy w' r := ⟨h.os, h.tape, h.output, by have := h.size; simp at this; omega, fun k hk hne => (h.block k (by simp; omega) hne).trans (Below.heap_alloc _ _ k hk)⟩
theorem RA.weak {M M' : Nat → Prop} {s d x y z j : Nat} {w : World} {ov nv : Value} {c : Int} {A : List AT} (h : RA M s w d x y z j ov nv c A) (k : ∀ b, M b → M' b) : RA M' s w d x y z j ov nv c A := by
  obtain ⟨av, h1, h2, h3⟩ := h
  exact ⟨av, h1, h2, fun b hb => k b (h3 b hb)⟩
theorem RA.below {M : Nat → Prop} {s d x y z j : Nat} {w w' : World} {ov nv : Value} {c : Int} {A : List AT} (h : RA M s w d x y z j ov nv c A) (k : Below w.heap.size w w') : RA M s w' d x y z j ov nv c A := by
  obtain ⟨av, h1, h2, h3⟩ := h
  exact ⟨av, h1.below k, h2.below k, h3⟩
/-- a journal's change leaves the store -/
theorem RA.jfr {M : Nat → Prop} {s d x y z j : Nat} {w w' : World} {ov nv : Value} {c : Int} {A : List AT} {r : Option Nat} {P : Int} {T F S : Nat} {vs : List Value} (h : RA M s w d x y z j ov nv c A) (hK : RK j r w P T F S vs) (k : JFr j r w w') : RA M s w' d x y z j ov nv c A := by
  obtain ⟨av, h1, h2, h3⟩ := h
  obtain ⟨Lv, k1, k2, k3, k4⟩ := hK
  have tj : ∀ b cs t, w.heap[b]? = some (.cells cs t (0, 0)) → t ≠ 113 → b ≠ j := fun b cs t e ht e2 => by
    subst e2; unfold RI at k2; rw [k2] at e; cases e; exact ht rfl
  have tr : ∀ b cs t, w.heap[b]? = some (.cells cs t (0, 0)) → t ≠ 24 → some b ≠ r := fun b cs t e ht e2 => by
    obtain ⟨cur, hc⟩ := k3.own b (k1.trans e2.symm)
    rw [hc] at e; cases e; exact ht rfl
  refine ⟨av, (k.block s h1.lt (tj s _ _ h1 (by decide)) (tr s _ _ h1 (by decide))).trans h1, h2.same fun b hb => ?_, h3⟩
  obtain ⟨cur, hc⟩ := h2.own b hb
  exact k.block b (lt_of_block hc) (tj b _ _ hc (by decide)) (tr b _ _ hc (by decide))
theorem RA.kfr {s d x y z j : Nat} {w w' : World} {ov nv av v7 : Value} {c : Int} {A : List AT} {r : Option Nat} {P : Int} {T F S : Nat} {vs : List Value} (hK : RK j r w P T F S vs) (h : RSt s w d x y z j ov nv av c) (hR : RRow w av A) (hg : w.grownBy w' av.ownBlock) : RK j r (w'.setCell ⟨s, 7, none⟩ v7) P T F S vs := by
  obtain ⟨Lv, k1, k2, k3, k4⟩ := id hK
  have ts : ∀ b cs t, w.heap[b]? = some (.cells cs t (0, 0)) → t ≠ 54 → b ≠ s := fun b cs t e ht e2 => by
    subst e2; unfold RSt at h; rw [h] at e; cases e; exact ht rfl
  have tr : ∀ b cs t, w.heap[b]? = some (.cells cs t (0, 0)) → t ≠ 130 → some b ≠ av.ownBlock := fun b cs t e ht e2 => by
    obtain ⟨cur, hc⟩ := hR.own b e2.symm
    rw [hc] at e; cases e; exact ht rfl
  have k2' : w.heap[j]? = _ := k2
  refine hK.same ((Below.heap_setCell _ _ _ _ (ts j _ _ k2' (by decide))).trans (hg.block j (lt_of_block k2') (tr j _ _ k2' (by decide)))) fun b hb => ?_
  obtain ⟨cur, hc⟩ := k3.own b (k1.trans hb)
  exact (Below.heap_setCell _ _ _ _ (ts b _ _ hc (by decide))).trans (hg.block b (lt_of_block hc) (tr b _ _ hc (by decide)))
theorem RA.box {M : Nat → Prop} {s d x y z j : Nat} {w : World} {ov nv : Value} {c : Int} {A : List AT} {b i : Nat} {cs : Array Value} (v : Value) (h : RA M s w d x y z j ov nv c A) (hb : w.heap[b]? = some (.cells cs 128 (0, 0))) : RA M s (w.setCell ⟨b, i, none⟩ v) d x y z j ov nv c A := by
  obtain ⟨av, h1, h2, h3⟩ := h
  refine ⟨av, (Below.heap_setCell _ _ _ _ (fun e => ?_)).trans h1, h2.same fun a ha => Below.heap_setCell _ _ _ _ (fun e => ?_), h3⟩
  · have e : s = b := e
    subst e; unfold RSt at h1; rw [h1] at hb; cases hb
  · have e : a = b := e
    subst e; obtain ⟨cur, hc⟩ := h2.own a ha; rw [hc] at hb; cases hb
theorem RK.box {j : Nat} {r : Option Nat} {w : World} {P : Int} {T F S : Nat} {vs : List Value} {b i : Nat} {cs : Array Value} (v : Value) (h : RK j r w P T F S vs) (hb : w.heap[b]? = some (.cells cs 128 (0, 0))) : RK j r (w.setCell ⟨b, i, none⟩ v) P T F S vs := by
  obtain ⟨Lv, k1, k2, k3, k4⟩ := id h
  refine h.same (Below.heap_setCell _ _ _ _ (fun e => ?_)) fun a ha => Below.heap_setCell _ _ _ _ (fun e => ?_)
  · have e : j = b := e
    subst e; unfold RI at k2; rw [k2] at hb; cases hb
  · have e : a = b := e
    subst e; obtain ⟨cur, hc⟩ := k3.own a (k1.trans ha); rw [hc] at hb; cases hb
theorem two_sets {w : World} {b : Nat} {u v : Value} {t : TypeId} (a d : Value) (h : w.heap[b]? = some (.cells #[u, v] t (0, 0))) : ((w.setCell ⟨b, 0, none⟩ a).setCell ⟨b, 1, none⟩ d).heap[b]? = some (.cells #[a, d] t (0, 0)) := by
  have h1 := cells_set (cells_set h (j := 0) a) (j := 1) d
  simpa using h1
/-- the writes of a checkpoint -/
def lays (M : List Chg) : List AT := M.map fun c => ⟨0, c.b, c.d⟩
theorem lays_take (M : List Chg) (q : Nat) (h : q < M.length) : lays (M.take (q + 1)) = lays (M.take q) ++ [⟨0, M[q].b, M[q].d⟩] := by
  unfold lays
  rw [List.take_succ_eq_append_getElem h, List.map_append]
  rfl
theorem lays_len (M : List Chg) : (lays M).length = M.length := by simp [lays]
theorem layA_eq (M : List Chg) (hd : ByteArray) : layA M hd = lays M ++ [⟨1, 0, ByteArray.empty⟩] ++ [⟨0, 1, hd⟩] ++ [⟨2, 0, ByteArray.empty⟩] := by
  unfold layA lays
  simp
set_option maxRecDepth 100000 in
set_option maxHeartbeats 4000000 in
/-- a checkpoint's acts -/
theorem settle_any {M : Nat → Prop} {s d x y z j : Nat} {ov nv : Value} {c : Int} {A0 : List AT} {P : Int} {T F T' : Nat} {r : Option Nat} {vs : List Value} (Mx : List Chg) (hlen : A0.length + Mx.length ≤ 3000) (hP : 0 < P) (hP2 : P ≤ 300) (hT : T < P) (hF : F + vs.length ≤ 1099511628000) (hvs : vs.length ≤ 300) (hT' : (T' : Int) = ((T : Int) + sumI (vs.map szOf)) % P)
    (w : World) (h : RA M s w d x y z j ov nv c A0) (hM : CLie w ov Mx) (hK : RK j r w P T F vs.length vs) (hs : M s) (hj : M j) (hr : ∀ b, r = some b → M b) (hnew : ∀ k, w.heap.size ≤ k → M k) (hov : ∀ b, ov.ownBlock = some b → ¬ M b) :
    Calls Tryz.prog 71 #[.pointer (some ⟨s, 0, none⟩)] w fun e w' => e = .returned (.tuple #[]) ∧ RA M s w' d x y z j ov nv c (A0 ++ layA Mx (hdB T' (F + vs.length) (F + vs.length))) ∧ RK j r w' P T' (F + vs.length) 0 [] ∧ Keep M w w' := by
  rw [layA_eq]
  have hDN := fun w h => refDone_j j r P T F vs.length vs vs.length T' hP hP2 hT hF (Nat.le_refl _) (Nat.le_refl _) hvs (by rw [List.take_of_length_le (by simp)]; exact hT') w h
  obtain ⟨HD, hHD⟩ : ∃ HD, HD = hdB T' (F + vs.length) (F + vs.length) := ⟨_, rfl⟩
  rw [← hHD] at hDN ⊢
  rw [Nat.sub_self, List.drop_of_length_le (Nat.le_refl _)] at hDN
  have HDN := hid hDN
  clear hDN hHD hT'
  have hsM := hid hs
  have hrM := hid hr
  have hjM := hid hj
  have hnew := hid hnew
  have HOV := hid hov
  obtain ⟨oo, oc, rfl, hl, hoc, hcell⟩ := hM
  unfold maxLen at hoc
  have HC := hid hcell
  have HRA := hid h
  have HRK := hid hK
  have hsl : s < w.heap.size := by obtain ⟨_, h1, _⟩ := h; exact h1.lt
  have c5 : w.cell? ⟨s, 5, none⟩ = some (.slice oo Mx.length oc) := by obtain ⟨_, h1, _⟩ := h; exact h1.cells.2.2.2.2.2.1
  clear hs hr hj hov hcell h hK
  go_enter Tryz.func71, Tryz.ntmps71
  go_wp2
  clear c5
  go_loopw [11] (fun i wr => ∃ q : Nat, i = .int .i64 q ∧ q ≤ Mx.length ∧ RA M s wr d x y z j (.slice oo Mx.length oc) nv c (A0 ++ lays (Mx.take q)) ∧ RK j r wr P T F vs.length vs ∧ Keep M w wr) (fun i _ => Mx.length - (intOf i).toNat)
  case atStart => exact ⟨0, rfl, Nat.zero_le _, by simpa [lays] using HRA.out, HRK.out, Keep.refl _ _⟩
  case round =>
    obtain ⟨q, rfl, hq, hra, hrk, hke⟩ := hrel
    have HRAq := hid hra
    have HRKq := hid hrk
    have HKE := hid hke
    have hsz := hke.size
    clear hra hrk hke
    by_cases hqk : q < Mx.length
    · obtain ⟨gb, of2, e, hgl, d0, d1⟩ := HC.out q hqk
      subst e
      have HT : Hid (A0 ++ lays (Mx.take (q + 1)) = A0 ++ (lays (Mx.take q) ++ [⟨0, Mx[q].b, Mx[q].d⟩])) := hid (by rw [lays_take Mx q hqk])
      have hln := lays_len (Mx.take q)
      rw [List.length_take] at hln
      have hblk := HKE.out.block gb hgl (HOV.out gb rfl)
      obtain ⟨cc, hcc⟩ : ∃ cc, cc = Mx[q] := ⟨_, rfl⟩
      rw [← hcc] at d0 d1 HT
      clear hcc
      have cellq : ∀ i, wr.cell? ⟨gb, i, none⟩ = w.cell? ⟨gb, i, none⟩ := fun i => by simp only [World.cell?, hblk]
      replace d0 := (cellq _).trans d0
      replace d1 := (cellq _).trans d1
      have hgr : gb < wr.heap.size := by omega
      obtain ⟨Tq, hTq⟩ : ∃ Tq, Tq = A0 ++ lays (Mx.take q) := ⟨_, rfl⟩
      have hTl : Tq.length ≤ 3000 := by rw [hTq, List.length_append, hln]; omega
      rw [← List.append_assoc, ← hTq] at HT
      rw [← hTq] at HRAq
      clear hTq hln
      obtain ⟨av, hS, hR, hAM⟩ := HRAq.out
      have hsr := hS.lt
      have hb2 := below_alloc wr (.cells #[.int .i64 cc.b, .string cc.d] 94)
      have HS2 := hid (hS.below hb2)
      have HA2 := hid (hR.below hb2)
      have HAM := hid hAM
      have HK2 := hid (HRKq.out.below hb2)
      have HKE2 := hid (HKE.out.trans (Keep.of hb2))
      have HV := box_at wr (.cells #[.int .i64 cc.b, .string cc.d] 94)
      have hav : some wr.heap.size ≠ av.ownBlock := fun e => by obtain ⟨cur, hc⟩ := hR.own _ e.symm; exact absurd (lt_of_block hc) (Nat.lt_irrefl _)
      have hz2 : (wr.alloc (.cells #[.int .i64 cc.b, .string cc.d] 94)).heap.size = wr.heap.size + 1 := by simp
      clear hS hR hAM cellq hblk hb2
      go_upto_region 3 with fail
      obtain ⟨w2, hw2⟩ : ∃ w2, w2 = wr.alloc (.cells #[.int .i64 cc.b, .string cc.d] 94) := ⟨_, rfl⟩
      rw [← hw2] at HS2 HA2 HK2 HKE2 HV hz2 ⊢
      clear hw2 d0 d1
      have HV2 := hid HV
      have c7 := HS2.out.cells.2.2.2.2.2.2.2.1
      have f70 := HS2.out.free 7
      have hs2l := HS2.out.lt
      obtain ⟨u0, u1⟩ := two_cells HV
      obtain ⟨ao, ac', rfl, _, _⟩ := HA2.out.len
      have hne : wr.heap.size ≠ s := by omega
      have hbx : ∀ a b c : Value, (w2.alloc (.cells #[a, b, c] 130)).heap[wr.heap.size + 1]? = some (.cells #[a, b, c] 130 (0, 0)) := fun a b c => by rw [← hz2]; exact box_at _ _
      clear HV
      go_region_law (rw [if_pos (by rfl)]; refine wp_pushR (.tmp 19) (.tmp 25) rfl (wr.heap.size + 1) (.slice ao Tq.length ac') Tq ⟨0, cc.b, cc.d⟩ 0 rfl (by simp [Act.eval]) (by simp [Act.eval]) (three_cells (hbx _ _ _)).1 (three_cells (hbx _ _ _)).2.1 (three_cells (hbx _ _ _)).2.2 (by exact (RRow.below (w := w2) HA2.out (below_alloc _ _) : RRow (w2.alloc _) _ _)) (by omega) ?_; intro v7 w7 hR7 hg7 hn7; have hg8 : w2.grownBy w7 (Value.slice ao Tq.length ac').ownBlock := grow_alloc (show (w2.alloc _).grownBy w7 _ from ⟨hg7.os, hg7.tape, hg7.output, hg7.size, hg7.block⟩); obtain ⟨a7, c7', e7, _, _⟩ := hR7.len; rw [List.length_append, List.length_singleton] at e7; subst e7; have hp := RA.push HS2.out HA2.out HAM.out hsM.out (fun k hk => hnew.out k (by omega)) hR7 hg8 (by rcases hn7 with e | ⟨k, e, hk⟩; exact .inl e; exact .inr ⟨k, e, Nat.le_trans (Nat.le_succ _) (by simpa using hk)⟩); have h7s := hp.1; have d7 := h7s.cells.2.2.2.2.2.2.2.1; have f7 := h7s.free 7)
      all_goals
        go_wp2
        go_roundw
        case rel =>
          refine ⟨q + 1, by go_num, by omega, by rw [HT.out]; exact hp.2.1, RA.kfr HK2.out HS2.out HA2.out hg8, HKE2.out.trans hp.2.2⟩
        case measure => simp only [intOf] at *; omega
    · have hqe : q = Mx.length := by omega
      subst hqe
      rw [List.take_length] at HRAq
      obtain ⟨T0, hT0⟩ : ∃ T0, T0 = A0 ++ lays Mx := ⟨_, rfl⟩
      have hTl : T0.length ≤ 3000 := by rw [hT0, List.length_append, lays_len]; omega
      rw [← hT0] at HRAq
      have HT0 := hid hT0
      clear hT0
      -- the flush
      obtain ⟨av, hS, hR, hAM⟩ := HRAq.out
      have HS2 := hid hS
      have HA2 := hid hR
      have HAM := hid hAM
      have c7 := hS.cells.2.2.2.2.2.2.2.1
      have f70 := hS.free 7
      have hs2l := hS.lt
      obtain ⟨ao, ac', rfl, _, _⟩ := hR.len
      clear hS hR hAM
      go_upto_region 6 with (first
        | (at_builtin; refine pushR (w0 := wr) rfl (.tmp 34) (.tmp 36) rfl wr.heap.size _ T0 ⟨1, 0, ByteArray.empty⟩ 0 rfl rfl rfl rfl HA2.out (by omega) ?_; intro v7 w7 hR7 hg8 hn7
           obtain ⟨a7, c7', e7, _, _⟩ := hR7.len
           rw [List.length_append, List.length_singleton] at e7
           subst e7
           have hp := RA.push HS2.out HA2.out HAM.out hsM.out (fun k hk => hnew.out k (by omega)) hR7 hg8 hn7
           have h7s := hp.1
           have d7 := h7s.cells.2.2.2.2.2.2.2.1
           have f7 := h7s.free 7))
      have HR6 := hid hp.2.1
      have HK6 := hid (RA.kfr (v7 := (Value.slice a7 (T0.length + 1) c7')) HRKq.out HS2.out HA2.out hg8)
      have HE6 := hid (HKE.out.trans hp.2.2)
      obtain ⟨w6, hw6⟩ : ∃ w6, w6 = w7.setCell ⟨s, 7, none⟩ (Value.slice a7 (T0.length + 1) c7') := ⟨_, rfl⟩
      rw [← hw6] at HR6 HK6 HE6 ⊢
      clear hw6 hp h7s d7 f7 hR7 hg8 hn7 c7 f70 HS2 HA2 HAM hs2l HRAq HRKq
      -- the journal's header
      have hz6 := HE6.out.size
      have c4 : w6.cell? ⟨s, 4, none⟩ = some (.pointer (some ⟨j, 0, none⟩)) := by obtain ⟨_, h1, _⟩ := HR6.out; exact h1.cells.2.2.2.2.1
      have k3 : w6.cell? ⟨j, 3, none⟩ = some (.int .i64 (vs.length : Int)) := by obtain ⟨_, _, h1, _⟩ := HK6.out; exact h1.cells.2.2.2.1
      have hsl6 : s < w6.heap.size := by omega
      have hjl6 : j < w6.heap.size := HK6.out.lt.1
      have hjt : ∀ b cs, w6.heap[b]? = some (.cells cs 128 (0, 0)) → b ≠ j := fun b cs e e2 => by
        subst e2
        obtain ⟨_, _, h1, _⟩ := HK6.out
        unfold RI at h1; rw [h1] at e; cases e
      have hz6a : ∀ o, (w6.alloc o).heap.size = w6.heap.size + 1 := fun o => by simp
      have hrl : ∀ b, r = some b → b < w6.heap.size := fun b hb => (HK6.out.lt.2 b hb).1
      have HRL := hid hrl
      clear hrl
      go_cut [4] (fun pv wx => ∃ gb, pv = .pointer (some ⟨gb, 0, none⟩) ∧ wx.heap[gb]? = some (.cells #[.int .i64 0, .string HD] 128 (0, 0)) ∧ RA M s wx d x y z j (.slice oo Mx.length oc) nv c (T0 ++ [⟨1, 0, ByteArray.empty⟩]) ∧ RK j r wx P T' (F + vs.length) 0 [] ∧ Keep M w wx ∧ w6.heap.size ≤ gb)
      case first =>
        go_region_with (go_at_call 115; refine (HDN.out _ (by exact (HK6.out.below (by first | exact ⟨rfl, rfl, rfl, Nat.le_refl _, fun _ _ => rfl⟩ | exact ⟨rfl, rfl, rfl, Nat.le_of_lt (Nat.lt_of_lt_of_eq (Nat.lt_succ_self _) (hz6a _).symm), fun k hk => Below.heap_alloc _ _ k hk⟩)))).mono ?_; rintro e w8 ⟨rfl, hk8, hj8⟩; (first | (have hbx8 : w8.heap[w6.heap.size]? = some (.cells #[.int .i64 0, .string ⟨#[]⟩] 128 (0, 0)) := (hj8.block w6.heap.size (Nat.lt_of_lt_of_eq (Nat.lt_succ_self _) (hz6a _).symm) (by omega) (fun e => absurd (HRL.out _ e.symm) (Nat.lt_irrefl _))).trans (box_at w6 _); obtain ⟨y0, y1⟩ := two_cells hbx8; have g0 := frees hbx8 0; have g1 := frees hbx8 1) | skip))
        all_goals
          go_wp2
          go_meet
          first
            | exact ⟨w6.heap.size, rfl, two_sets _ _ hbx8, ((((HR6.out.below (by exact ⟨rfl, rfl, rfl, Nat.le_of_lt (Nat.lt_of_lt_of_eq (Nat.lt_succ_self _) (hz6a _).symm), fun k hk => Below.heap_alloc _ _ k hk⟩)).jfr (HK6.out.below (by exact ⟨rfl, rfl, rfl, Nat.le_of_lt (Nat.lt_of_lt_of_eq (Nat.lt_succ_self _) (hz6a _).symm), fun k hk => Below.heap_alloc _ _ k hk⟩)) hj8).box _ hbx8).box _ (cells_set hbx8 _)), (hk8.box _ hbx8).box _ (cells_set hbx8 _), HE6.out.trans (((Keep.of (by exact ⟨rfl, rfl, rfl, Nat.le_of_lt (Nat.lt_of_lt_of_eq (Nat.lt_succ_self _) (hz6a _).symm), fun k hk => Below.heap_alloc _ _ k hk⟩)).trans (Keep.jfr hj8 hjM.out hrM.out)).trans ((Keep.set _ (hnew.out _ hz6)).trans (Keep.set _ (hnew.out _ hz6)))), Nat.le_refl _⟩
            | exact ⟨_, rfl, box_at _ _, ((HR6.out.below (by exact ⟨rfl, rfl, rfl, Nat.le_refl _, fun _ _ => rfl⟩)).jfr (HK6.out.below (by exact ⟨rfl, rfl, rfl, Nat.le_refl _, fun _ _ => rfl⟩)) hj8).below (below_alloc _ _), hk8.below (below_alloc _ _), HE6.out.trans ((Keep.jfr (⟨hj8.os, hj8.tape, hj8.output, hj8.size, hj8.block⟩ : JFr j r w6 w8) hjM.out hrM.out).trans (Keep.of (below_alloc _ _))), hj8.size⟩
      case rest =>
        obtain ⟨gb, rfl, hbx, hra, hrk, hke, hgb⟩ := hcut
        rename World => w9
        have HB9 := hid hbx
        have HK9 := hid hrk
        have HE9 := hid hke
        have hz9 := hke.size
        obtain ⟨av9, hS, hR, hAM⟩ := hra
        have HS2 := hid hS
        have HA2 := hid hR
        have HAM := hid hAM
        have c7 := hS.cells.2.2.2.2.2.2.2.1
        have f70 := hS.free 7
        have hs2l := hS.lt
        have hgl9 := lt_of_block hbx
        obtain ⟨u0, u1⟩ := two_cells hbx
        obtain ⟨T1, hT1⟩ : ∃ T1, T1 = T0 ++ [(⟨1, 0, ByteArray.empty⟩ : AT)] := ⟨_, rfl⟩
        have hTl1 : T1.length ≤ 3001 := by rw [hT1, List.length_append, List.length_singleton]; omega
        rw [← hT1] at hR HA2
        have HT1 := hid hT1
        obtain ⟨ao, ac', e9, _, _⟩ := hR.len
        subst e9
        have hbx : ∀ a b c : Value, (w9.alloc (.cells #[a, b, c] 130)).heap[w9.heap.size]? = some (.cells #[a, b, c] 130 (0, 0)) := fun a b c => box_at _ _
        clear hS hR hAM hT1 hrk hke HR6 HK6 HE6 c4 k3
        go_upto_region 7 with fail
        go_cut [] (fun wx => RA M s wx d x y z j (.slice oo Mx.length oc) nv c (T1 ++ [⟨0, 1, HD⟩]) ∧ RK j r wx P T' (F + vs.length) 0 [] ∧ Keep M w wx)
        case first =>
          go_region_law (rw [if_pos (by rfl)]; refine wp_pushR (.tmp 59) (.tmp 66) rfl (w9.heap.size) (.slice ao T1.length ac') T1 ⟨0, 1, HD⟩ 0 rfl (by simp [Act.eval]) (by simp [Act.eval]) (three_cells (hbx _ _ _)).1 (three_cells (hbx _ _ _)).2.1 (three_cells (hbx _ _ _)).2.2 (by exact (RRow.below (w := w9) HA2.out (below_alloc _ _) : RRow (w9.alloc _) _ _)) (by omega) ?_; intro v7 w7 hR7 hg7 hn7; have hg8 : w9.grownBy w7 (Value.slice ao T1.length ac').ownBlock := grow_alloc (show (w9.alloc _).grownBy w7 _ from ⟨hg7.os, hg7.tape, hg7.output, hg7.size, hg7.block⟩); obtain ⟨a7, c7', e7, _, _⟩ := hR7.len; rw [List.length_append, List.length_singleton] at e7; subst e7; have hp := RA.push HS2.out HA2.out HAM.out hsM.out (fun k hk => hnew.out k (by omega)) hR7 hg8 (by rcases hn7 with e | ⟨k, e, hk⟩; exact .inl e; exact .inr ⟨k, e, Nat.le_trans (Nat.le_succ _) (by simpa using hk)⟩); have h7s := hp.1; have d7 := h7s.cells.2.2.2.2.2.2.2.1; have f7 := h7s.free 7)
          all_goals
            go_wp2
            go_meet
            exact ⟨hp.2.1, RA.kfr HK9.out HS2.out HA2.out hg8, HE9.out.trans hp.2.2⟩
        case rest =>
          obtain ⟨hra, hrk, hke⟩ := hcut
          rename World => w10
          have HKx := hid hrk
          have HEx := hid hke
          have hzx := hke.size
          clear HS2 HA2 HAM c7 f70 hs2l u0 u1 HB9 HK9 HE9 hbx hgl9
          obtain ⟨av, hS, hR, hAM⟩ := hra
          obtain ⟨T2, hT2⟩ : ∃ T2, T2 = T1 ++ [(⟨0, 1, HD⟩ : AT)] := ⟨_, rfl⟩
          have hTl2 : T2.length ≤ 3002 := by rw [hT2, List.length_append, List.length_singleton]; omega
          rw [← hT2] at hR
          have HT2 := hid hT2
          have HS2 := hid hS
          have HA2 := hid hR
          have HAM := hid hAM
          have c7 := hS.cells.2.2.2.2.2.2.2.1
          have f70 := hS.free 7
          have hs2l := hS.lt
          obtain ⟨ao, ac', e9, _, _⟩ := hR.len
          subst e9
          clear hS hR hAM hT2 hrk hke
          go_wp2_with (first
            | (at_builtin; refine pushR (w0 := w10) rfl (.tmp 74) (.tmp 76) rfl w10.heap.size _ T2 ⟨2, 0, ByteArray.empty⟩ 2 rfl rfl rfl rfl HA2.out (by omega) ?_; intro v7 w7 hR7 hg8 hn7
               obtain ⟨a7, c7', e7, _, _⟩ := hR7.len
               rw [List.length_append, List.length_singleton] at e7
               subst e7
               have hp := RA.push HS2.out HA2.out HAM.out hsM.out (fun k hk => hnew.out k (by omega)) hR7 hg8 hn7
               have h7s := hp.1
               have d7 := h7s.cells.2.2.2.2.2.2.2.1
               have f7 := h7s.free 7))
          go_end0
          refine ⟨rfl, ?_, RA.kfr HKx.out HS2.out HA2.out hg8, HEx.out.trans hp.2.2⟩
          have e : A0 ++ (lays Mx ++ [⟨1, 0, ByteArray.empty⟩] ++ [⟨0, 1, HD⟩] ++ [⟨2, 0, ByteArray.empty⟩]) = T2 ++ [⟨2, 0, ByteArray.empty⟩] := by rw [HT2.out, HT1.out, HT0.out]; simp
          rw [e]
          exact hp.2.1
end Go.Proofs.YtopebghandojbaaGreat
