import Derived.Test.YtokjlgebkihimaaGreatFv
import Derived.Shelf.AbstractIn
import Derived.Shelf.Strings.Builder1
namespace Go.Proofs.YtokjlgebkihimaaGreat
open Go.RowKit Go.Maps

/-- how many data blocks are not taken -/
def freN (G : Geo) (B : List ByteArray) : Int := (G.ct : Int) - (cnt (bk B G.bm).data.toList G.da G.ct : Int)
/-- the changes of a view -/
def chgL (F B : List ByteArray) : List Chg := (List.range B.length).filterMap fun b => if bk F b = bk B b then none else some ⟨(b : Int), bk B b⟩
/-- the regions of the small shape, its blank blocks, an inode of a file and one of a directory -/
def sG : Geo := ⟨21, 22, 24, 16, 8, 40⟩
def sF : List ByteArray := List.replicate 40 (Zs 128)
def sN : Ino := ⟨1, 1, 0, 0, 0, 0, 0, 0, 0, 0, 0⟩
def dN : Ino := ⟨2, 1, 0, 0, 0, 0, 0, 0, 0, 0, 0⟩
set_option maxRecDepth 1000000 in
theorem s_c : chkE sN = 0 := by decide +kernel
set_option maxRecDepth 1000000 in
theorem d_c : chkE dN = 0 := by decide +kernel
set_option maxRecDepth 1000000 in
theorem s_f : freN sG sF = 16 := by decide +kernel
end Go.Proofs.YtokjlgebkihimaaGreat
namespace Go.Proofs.YtokjlgebkihimaaGreat
open Go.RowKit Go.Maps
end Go.Proofs.YtokjlgebkihimaaGreat
namespace Go.Proofs.YtokjlgebkihimaaGreat
open Go.RowKit Go.Maps Go.Shelf

def cc (l : List Chg) : List Value := l.flatMap encC
set_option maxRecDepth 100000 in
theorem cc_append (a b : List Chg) : cc (a ++ b) = cc a ++ cc b := by simp [cc]
set_option maxRecDepth 100000 in
theorem cc_cons (x : Chg) (l : List Chg) : cc (x :: l) = encC x ++ cc l := by simp [cc]
set_option maxRecDepth 100000 in
theorem cc_one (x : Chg) : cc [x] = encC x := by simp [cc]
set_option maxRecDepth 100000 in
theorem cc_len : ∀ l : List Chg, (cc l).length = l.length * 2
  | [] => rfl
  | x :: l => by
    have := cc_len l
    unfold cc at *
    rw [List.flatMap_cons, List.length_append, this]
    simp [encC]
    omega
set_option maxRecDepth 100000 in
theorem Tryz.info106 : (Tryz.prog.info? 106).map (fun i => (i.zero, i.size, i.bytes)) = some (some (.agg #[.int .i64 0, .string ⟨#[]⟩]), 2, 24) := by kernel_rfl
set_option maxRecDepth 100000 in
theorem cc_get : ∀ (l : List Chg) (t : Nat), t < l.length * 2 → (cc l)[t]? = (encC l[t / 2]!)[t % 2]?
  | [], t, h => by simp at h
  | x :: l, t, h => by
    rw [cc_cons]
    by_cases h3 : t < 2
    · rw [List.getElem?_append_left (by simp [encC]; omega)]
      have e1 : t / 2 = 0 := by omega
      have e2 : t % 2 = t := by omega
      rw [e1, e2]
      rfl
    · rw [List.getElem?_append_right (by simp [encC]; omega)]
      have hl : (encC x).length = 2 := rfl
      rw [hl, cc_get l (t - 2) (by simp at h; omega)]
      have e1 : t / 2 = (t - 2) / 2 + 1 := by omega
      have e2 : t % 2 = (t - 2) % 2 := by omega
      rw [e1, e2]
      rfl
set_option maxRecDepth 100000 in
theorem cc_lie {B : Nat} {w : World} {v : Value} {l : List Chg} (h : w.ownsRow B 106 2 v l.length (cc l)) : CLie w v l := by
  rcases h.2 with ⟨rfl, hz⟩ | ⟨gb, cap, cur, rfl, hbase, hgb, r1, r2, r3, r4⟩
  · have : l = [] := List.eq_nil_of_length_eq_zero hz
    subst this
    exact ⟨none, 0, rfl, Nat.le_refl _, by decide, fun i hi => by simp at hi⟩
  · refine ⟨_, cap, rfl, r1, r2, fun i hi => ⟨gb, 0, rfl, lt_of_block hgb, ?_⟩⟩
    have key : ∀ j, j < 2 → w.cell? ⟨gb, i * 2 + j, none⟩ = (encC l[i])[j]? := by
      intro j hj
      have hlt : i * 2 + j < l.length * 2 := by omega
      have e1 : cur.toList[i * 2 + j]? = (cc l)[i * 2 + j]? := by rw [← r4, List.getElem?_take_of_lt hlt]
      rw [cc_get l _ hlt] at e1
      have e2 : (i * 2 + j) / 2 = i := by omega
      have e3 : (i * 2 + j) % 2 = j := by omega
      rw [e2, e3, getElem!_pos l i hi, Array.getElem?_toList] at e1
      rw [← e1]
      simp [World.cell?, hgb]
    rw [Nat.zero_add]
    exact ⟨key 0 (by decide), key 1 (by decide)⟩
/-- a row of the call's own: changes -/
def CRow (base : Nat) (w : World) (v : Value) (l : List Chg) : Prop := w.ownsRow base 106 2 v l.length (cc l)
set_option maxRecDepth 100000 in
theorem CRow.nil (base : Nat) (w : World) : CRow base w (.slice none 0 0) [] := ⟨rfl, .inl ⟨rfl, rfl⟩⟩
set_option maxRecDepth 100000 in
theorem CRow.below {base : Nat} {w w' : World} {v : Value} {l : List Chg} (h : CRow base w v l) (k : Below w.heap.size w w') : CRow base w' v l := by
  obtain ⟨e1, e2 | ⟨x, cap, cur, e3, e4, e5, e6⟩⟩ := h
  · exact ⟨e1, .inl e2⟩
  · exact ⟨e1, .inr ⟨x, cap, cur, e3, e4, (k.block x (lt_of_block e5)).trans e5, e6⟩⟩
set_option maxRecDepth 100000 in
theorem CRow.own {base : Nat} {w : World} {v : Value} {l : List Chg} (h : CRow base w v l) : ∀ x, v.ownBlock = some x → base ≤ x ∧ x < w.heap.size := by
  obtain ⟨e1, ⟨rfl, _⟩ | ⟨x, cap, cur, rfl, e4, e5, e6⟩⟩ := h
  · intro x hx; cases hx
  · intro y hy; cases hy; exact ⟨e4, lt_of_block e5⟩
set_option maxRecDepth 100000 in
theorem CRow.len {base : Nat} {w : World} {v : Value} {l : List Chg} (h : CRow base w v l) : ∃ ao cap, v = .slice ao l.length cap ∧ l.length ≤ cap ∧ cap ≤ maxLen := by
  rcases h.2 with ⟨rfl, hz⟩ | ⟨gb, cap, cur, rfl, _, _, r1, r2, _⟩
  · exact ⟨none, 0, by rw [hz], by omega, by decide⟩
  · exact ⟨_, cap, rfl, r1, r2⟩
set_option maxRecDepth 100000 in
theorem pushC {ops : Array Oper} {rest : List Oper} {o : Oper} {a : Act} {Q : Exit → Act → World → Prop} {w0 : World} (hgd : o.guard = none) (s x : Operand)
    (ho : o.op = .call { callee := .builtin .append, args := #[s, x], argTypes := #[57, 57] }) (B1 bb : Nat) (v : Value) (T : List Chg) (y : Chg)
    (hs : a.eval s = v) (hx : a.eval x = .slice (some ⟨bb, 0, none⟩) 1 1) (hbb : bb = w0.heap.size) (hA : CRow B1 w0 v T) (hn : T.length ≤ 2000) (hbase : B1 ≤ w0.heap.size)
    (h : ∀ v' w', CRow B1 w' v' (T ++ [y]) → Below B1 w0 w' → (∀ k, k < w0.heap.size → some k ≠ v.ownBlock → w'.heap[k]? = w0.heap[k]?) → wpList Tryz.prog ops Q rest (a.put o.dst v') w') :
    wpList Tryz.prog ops Q (o :: rest) a (w0.alloc (.cells #[.int .i64 y.b, .string y.d] 106)) := by
  subst hbb
  obtain ⟨i0, hi, hz0, hz1, hz2⟩ := info_parts Tryz.info106
  have ho2 := hA.own
  refine wpList_append_own _ hgd s x 57 ho B1 106 i0 (.agg #[.int .i64 0, .string ⟨#[]⟩]) 2 24 Tryz.underlying57 hi hz0 hz1 hz2 rfl (by decide) v T.length (cc T) hs (World.ownsRow.alloc hA _) ⟨w0.heap.size, 0, none⟩ 1 1 (encC y) hx rfl (by
      intro j u hu
      match j, hu with
      | 0, hu => simp [encC] at hu; subst hu; simp [Addr.add]
      | 1, hu => simp [encC] at hu; subst hu; simp [Addr.add]
      | j + 2, hu => simp [encC] at hu) (by intro u hu; simp [encC] at hu; rcases hu with rfl | rfl <;> rfl) (by unfold maxLen; omega) (by omega) (by simp; omega) ?_
  intro v' w' hown hg _
  refine h v' w' ?_ ?_ (fun k hk hne => (hg.block k (by simp; omega) hne).trans (Below.heap_alloc _ _ k hk))
  · unfold CRow
    rw [cc_append, cc_one, List.length_append]
    exact hown
  · refine (below_alloc w0 (.cells #[.int .i64 y.b, .string y.d] 106)).mono hbase |>.trans ⟨hg.os, hg.tape, hg.output, hg.size, fun k hk => hg.block k ?_ ?_⟩
    · simp; omega
    · intro e
      have := (ho2 k e.symm).1
      omega
set_option maxRecDepth 100000 in
theorem CRow.empty (base : Nat) (w : World) (hb : base ≤ w.heap.size) : CRow base (w.alloc (.cells #[] 106)) (.slice (some ⟨w.heap.size, 0, none⟩) 0 0) [] :=
  ⟨rfl, .inr ⟨w.heap.size, 0, #[], rfl, hb, box_at _ _, Nat.le_refl _, by decide, rfl, rfl⟩⟩
set_option maxRecDepth 100000 in
theorem Um.MIs.look1 {b N : Nat} {w : World} {M : List Chg} (h : Um.MIs b w N M) (c : Chg) (hc : c ∈ M) : (Instr.lookup 74 (.map (some b)) (.int .i64 c.b) false).run Tryz.prog w = .ok (valC c) w := by
  obtain ⟨n, D, h1, h2, hs, h3, h4, h5, hr⟩ := h
  obtain ⟨v, ps, hrun, hv⟩ := h1.lookup Um.law Tryz.underlying74 (Um.zero94 w) (Um.RC_mk _) (Um.hkey c.b (h4 c hc).1)
  obtain ⟨c', rfl, e⟩ := Um.RC_inv hv
  rw [(h4 c hc).2] at e
  rw [hrun, Um.datC_inj (Prod.mk.inj e).1]
set_option maxRecDepth 100000 in
theorem Rise.nodup {M : List Chg} (h : Rise M) : (M.map (·.b)).Nodup := by
  unfold List.Nodup
  rw [List.pairwise_map]
  exact List.Pairwise.imp (fun {a b} hab => by omega) h
set_option maxRecDepth 100000 in
theorem keys_call (mb : Option Nat) (W : World) : Calls Tryz.prog 57 #[.map mb] W fun e w' => e = .returned (.func (.func 83) #[] #[.pointer (some ⟨W.heap.size, 0, none⟩)]) ∧ w' = W.alloc (.cells #[.map mb] 74) :=
  (callsIn_wide (n := 5)).1 (AnyZI.keys_in Tryz.keysA Fence.wide 5 trivial rfl mb W)
set_option maxRecDepth 100000 in
theorem sortsA (m : Nat) : AnyZI.SortsIn Tryz.prog Tryz.sortedA_ren Fence.wide m :=
  ⟨fun blk off cap ss W hH hblk hsz => callsIn_wide.2 (AnyM.slices_Sort_int Tryz.sortA blk off cap ss W hH hblk hsz),
   fun p cap W => callsIn_wide.2 (AnyM.slices_Sort_int_none Tryz.sortA p cap W)⟩
set_option maxRecDepth 100000 in
theorem sorted_call {b N : Nat} {w : World} {M : List Chg} (h : Um.MIs b w N M) (hl : M.length ≤ 1024) : Calls Tryz.prog 56 #[.func (.func 83) #[] #[.pointer (some ⟨w.heap.size, 0, none⟩)]] (w.alloc (.cells #[.map (some b)] 74)) fun e w' => ∃ v, e = .returned v ∧ w'.ownsRow (w.heap.size + 1) 3 1 v M.length (M.map fun c => .int .i64 c.b) ∧ Below (w.heap.size + 1) (w.alloc (.cells #[.map (some b)] 74)) w' := by
  obtain ⟨n, D, hown, h2, hs, h3, h4, h5, hr⟩ := h
  have hbl := hown.lt
  have hseq : SeqGives Fence.wide 2 Tryz.prog 83 #[.pointer (some ⟨w.heap.size, 0, none⟩)] encZ (fun ss => ss.Perm (intKeys D)) (Maps.size D) (w.alloc (.cells #[.map (some b)] 74)) :=
    AnyZI.keys_gives (ρ := Tryz.keysA_ren) { Tryz.keysA with } Fence.wide _ trivial rfl (by omega) w.heap.size b n D _ (by simp) (by simp) (by
      obtain ⟨es, clock, hb, Ft, hs, hD⟩ := hown
      exact ⟨es, clock, (Below.heap_alloc _ _ b hbl).trans hb, Ft, hs, hD⟩)
  have cS := AnyZI.sorted_in Tryz.sortedA Fence.wide 5 trivial trivial trivial trivial rfl (by omega) (sortsA _) (enters_of Tryz.func82 (by kernel_rfl) rfl) 83 #[.pointer (some ⟨w.heap.size, 0, none⟩)] trivial (enters_of Tryz.func83 (by kernel_rfl) rfl) _ _ (by unfold maxLen; omega) (by omega) _ hseq
  change CallsIn _ _ Tryz.prog 56 _ _ _ at cS
  refine ((callsIn_wide (n := 5)).1 cS).mono ?_
  rintro e w' ⟨v, ss, rfl, hS, hrow, hnil, hb⟩
  have hc : CollectedI D (fun _ => false) (M.map (·.b)) := by
    refine ⟨hr.nodup, fun x => ?_⟩
    rw [show (Lit.int .i64 x) = Um.kl x from rfl, h3 x, List.any_eq_true]
    constructor
    · intro hx
      obtain ⟨c, hc, rfl⟩ := List.mem_map.1 hx
      exact ⟨⟨c, hc, by simp⟩, rfl⟩
    · rintro ⟨⟨c, hc, hcx⟩, _⟩
      exact List.mem_map.2 ⟨c, hc, by simpa using hcx⟩
  have hp := hc.perm hown Um.law Tryz.underlying3 (fun _ => rfl)
  have hsort : ss.mergeSort (fun x y => decide (x ≤ y)) = M.map (·.b) := by
    have e1 : ss.mergeSort leI = (M.map (·.b)).mergeSort leI := mergeSort_of_perm_i (hS.trans hp.symm)
    refine e1.trans (List.mergeSort_of_pairwise ?_)
    rw [List.pairwise_map]
    exact List.Pairwise.imp (fun {a b} hab => by simp only [leI, decide_eq_true_eq]; omega) hr
  have hlen : ss.length = M.length := by rw [(hS.trans hp.symm).length_eq, List.length_map]
  rw [hsort, hlen, List.map_map] at hrow
  rw [World.size_alloc] at hrow hb
  exact ⟨v, rfl, hrow, hb⟩
end Go.Proofs.YtokjlgebkihimaaGreat
namespace Go.Proofs.YtokjlgebkihimaaGreat
open Go.RowKit Go.Maps Go.Shelf

set_option maxRecDepth 100000 in
theorem chgL_mem {F B : List ByteArray} (c : Chg) : c ∈ chgL F B ↔ ∃ b : Nat, b < B.length ∧ c = ⟨(b : Int), bk B b⟩ ∧ bk F b ≠ bk B b := by
  unfold chgL
  rw [List.mem_filterMap]
  constructor
  · rintro ⟨b, hb, h⟩
    rw [List.mem_range] at hb
    split at h
    · cases h
    · rename_i hne
      cases h
      exact ⟨b, hb, rfl, hne⟩
  · rintro ⟨b, hb, rfl, hne⟩
    exact ⟨b, List.mem_range.2 hb, by rw [if_neg hne]⟩
set_option maxRecDepth 100000 in
theorem chgL_rise (F B : List ByteArray) : Rise (chgL F B) := by
  unfold chgL Rise
  rw [List.pairwise_filterMap]
  refine List.Pairwise.imp ?_ (List.pairwise_lt_range (n := B.length))
  intro a b hab x hx y hy
  split at hx
  · cases hx
  · split at hy
    · cases hy
    · cases hx; cases hy
      show (a : Int) < (b : Int)
      omega
set_option maxRecDepth 100000 in
/-- the map of a view holds its changes -/
theorem Diff.eq {F B : List ByteArray} {M : List Chg} (h : Diff F B M) (hr : Rise M) : M = chgL F B := Um.rise_unique hr (chgL_rise F B) (fun x => (h x).trans (chgL_mem x).symm)
set_option maxRecDepth 100000 in
theorem keysRow {base n : Nat} {v : Value} {news : List Value} {w : World} (h : w.ownsRow base 3 1 v n news) (hn : 0 < n) : ∃ g cap cur fz, v = .slice (some ⟨g, 0, none⟩) n cap ∧ base ≤ g ∧ w.heap[g]? = some (.cells cur 3 fz) ∧ ∀ i (hi : i < news.length), w.cell? ⟨g, i, none⟩ = some news[i] := by
  have hh := h
  obtain ⟨e1, ⟨rfl, e2⟩ | ⟨g, cap, cur, rfl, e3, e4, e5⟩⟩ := h
  · omega
  · refine ⟨g, cap, cur, _, rfl, e3, e4, fun i hi => ?_⟩
    have := hh.cellAt i (by rw [e1] at hi; omega)
    simpa [hi] using this
set_option maxRecDepth 100000 in
theorem keysNil {base : Nat} {v : Value} {news : List Value} {w : World} (h : w.ownsRow base 3 1 v 0 news) : ∃ ao cap, v = .slice ao 0 cap := by
  obtain ⟨e1, ⟨rfl, e2⟩ | ⟨g, cap, cur, rfl, e3, e4, e5⟩⟩ := h
  · exact ⟨none, 0, rfl⟩
  · exact ⟨_, cap, rfl⟩
set_option maxRecDepth 100000 in
theorem CRow.block {base : Nat} {w : World} {v : Value} {l : List Chg} (h : CRow base w v l) {x : Nat} (hx : v.ownBlock = some x) : ∃ cur fz, w.heap[x]? = some (.cells cur 106 fz) := by
  obtain ⟨e1, ⟨rfl, _⟩ | ⟨y, cap, cur, rfl, e4, e5, e6⟩⟩ := h
  · cases hx
  · cases hx; exact ⟨cur, _, e5⟩
set_option maxRecDepth 100000 in
set_option maxHeartbeats 2000000 in
theorem changes_any {G : Geo} {p q cap m : Nat} {w : World} {F B : List ByteArray} (h : VI G p q cap m w F B) : Calls Tryz.prog 23 #[.pointer (some ⟨p, 0, none⟩)] w fun e w' => ∃ v, e = .returned v ∧ CLie w' v (chgL F B) ∧ Below w.heap.size w w' := by
  have HV := hid h
  obtain ⟨M, hM, hD⟩ := h.map
  have hMe := hD.eq hM.rise
  have hMl : M.length ≤ 1024 := by have := hD.len hM.rise; have := h.bl; have := h.ok.n1; omega
  rw [← hMe]
  have HR := hid hM.rise
  have HN := hid (fun w' (hv : VI G p q cap m w' F B) => vnone_any (w := w') hv)
  have HB0 := hid (below_alloc w (.cells #[] 106))
  have HV0 := hid (h.below HB0.out)
  have HM0 := hid (hM.same (HB0.out.block m h.ml))
  have HK := hid (keys_call (some m) (w.alloc (.cells #[] 106)))
  have HS := hid (sorted_call HM0.out hMl)
  have c7 : (w.alloc (.cells #[] 106)).cell? ⟨p, 7, none⟩ = some (.map (some m)) := (HV0.out.cell 7).trans rfl
  have HL0 := hid (CRow.empty w.heap.size w (Nat.le_refl _))
  have HMe := hid hMe
  have HMm := hid (fun (w' : World) (hm : w'.heap[m]? = w.heap[m]?) => hM.same hm)
  have hml := h.ml
  clear h hM hD hMe
  go_enter Tryz.func23, Tryz.ntmps23
  go_wp2_with (go_at_call 55; fail)
  obtain ⟨w0, hw0⟩ : ∃ w0, w0 = w.alloc (.cells #[] 106) := ⟨_, rfl⟩
  rw [← hw0] at HB0 HV0 HM0 HK HS c7 HL0 ⊢
  have HS0 : Hid (w0.heap.size = w.heap.size + 1) := by rw [hw0]; exact hid (by simp)
  clear hw0
  go_wp2_with (first
    | (go_at_call 55; refine (HN.out _ HV0.out).mono ?_; rintro e w1 ⟨rfl, hw⟩; have hw := hw.symm; subst hw)
    | (go_at_call 57; refine HK.out.mono ?_; rintro e w1 ⟨rfl, hw⟩; have hw := hw.symm; subst hw)
    | (go_at_call 56; fail))
  refine HS.out.mono ?_
  rintro e w5 ⟨v5, rfl, hrow, hb5⟩
  have hs0 := HS0.out
  have HB5 : Hid (Below w0.heap.size w0 w5) := hid ((below_alloc w0 _).trans (hb5.mono (by omega)))
  have HBw := hid (HB0.out.trans (HB5.out.mono (by omega)))
  have HL5 := hid (HL0.out.below HB5.out)
  clear HK HS c7 HL0 HM0 HV0 HB0 hb5 hs0
  by_cases h0 : M.length = 0
  · have hnil : M = [] := List.eq_nil_of_length_eq_zero h0
    subst hnil
    obtain ⟨ao, cp, rfl⟩ := keysNil hrow
    clear hrow
    go_wp2
    refine wp_loop_rounds 1 ?_
    rw [rounds_succ]
    go_wp2
    go_ret
    exact ⟨_, rfl, cc_lie HL5.out, HBw.out⟩
  · obtain ⟨gk, ck, cur, fz, rfl, hgk, hobj, hcell⟩ := keysRow hrow (by omega)
    have HOBJ := hid hobj
    have HCELL := hid hcell
    have HGK := hid hgk
    clear hrow hobj hcell hgk
    go_wp2
    go_loopw [3, 17] (fun lv iv wr => ∃ j : Nat, iv = .int .i64 (j : Int) ∧ j ≤ M.length ∧ CRow w.heap.size wr lv (M.take j) ∧ Below w.heap.size w wr ∧ wr.heap[gk]? = w5.heap[gk]?) (fun _ iv _ => M.length - (intOf iv).toNat)
    case atStart => exact ⟨0, rfl, Nat.zero_le _, HL5.out, HBw.out, rfl⟩
    case round =>
      obtain ⟨j, rfl, hj, hrw, hbw, hgw⟩ := hrel
      have HRW := hid hrw
      have HBW := hid hbw
      have HGW := hid hgw
      obtain ⟨ao, cl, rfl, _, _⟩ := hrw.len
      clear hrw hbw hgw
      by_cases hjl : j < M.length
      · obtain ⟨cj, hcj⟩ : ∃ cj, cj = M[j] := ⟨_, rfl⟩
        have hmem : cj ∈ M := by rw [hcj]; exact List.getElem_mem hjl
        have hky : wr.cell? ⟨gk, j, none⟩ = some (.int .i64 cj.b) := by
          rw [cell_same HGW.out, HCELL.out j (by simpa using hjl), hcj]
          simp
        have hVr := HV.out.below HBW.out
        have c7 : wr.cell? ⟨p, 7, none⟩ = some (.map (some m)) := (hVr.cell 7).trans rfl
        have hlk := (HMm.out wr (HBW.out.block m hml)).look1 cj hmem
        have hpl := hVr.pl
        have hgl : gk < wr.heap.size := by
          have := HGW.out; rw [HOBJ.out] at this; exact lt_of_block this
        simp only [valC] at hlk
        have HTK : Hid (M.take (j + 1) = M.take j ++ [cj]) := hid (by rw [List.take_succ_eq_append_getElem hjl, hcj])
        clear hcj hmem hVr
        go_wp2_with (first
          | (refine pushC rfl (.tmp 21) (.tmp 28) rfl w.heap.size wr.heap.size _ (M.take j) cj rfl rfl rfl HRW.out (by simp; omega) HBW.out.size ?_
             intro v' w7 hrw7 hbw7 hfr7
             have HR7 := hid hrw7
             have HB7 := hid hbw7
             have HF7 := hid hfr7
             clear hrw7 hbw7 hfr7))
        go_roundw
        case rel =>
          refine ⟨j + 1, by go_num, by omega, ?_, HBW.out.trans HB7.out, ?_⟩
          · rw [HTK.out]; exact HR7.out
          · refine (HF7.out gk hgl ?_).trans HGW.out
            intro e
            obtain ⟨cur2, fz2, hx⟩ := HRW.out.block e.symm
            have := HGW.out
            rw [HOBJ.out, hx] at this
            cases this
        case measure => simp only [intOf] at *; omega
      · have hje : j = M.length := by omega
        subst hje
        go_wp2
        go_ret
        have k := cc_lie HRW.out
        have e : M.take M.length = M := List.take_of_length_le (Nat.le_refl _)
        refine ⟨.slice ao (M.take M.length).length cl, rfl, ?_, HBW.out⟩
        rw [e] at k ⊢
        exact k
end Go.Proofs.YtokjlgebkihimaaGreat
namespace Go.Proofs.YtokjlgebkihimaaGreat
open Go.RowKit Go.Maps Go.Shelf

set_option maxRecDepth 100000 in
theorem bX : Builder.Extra Tryz.prog Tryz.lays169_ren := {
  sizeBuilder := by kernel_rfl
  liesBuilder := by kernel_rfl
  t5 := Tryz.underlying5
  a5 := Tryz.isAgg5
  z5 := Tryz.sizeOf5
  v5 := Tryz.zeroValue5
  infoByte := by kernel_rfl
  cellsByte := by kernel_rfl
  sizeByte := by kernel_rfl
  neB5 := by decide }
set_option maxRecDepth 100000 in
theorem string_call (B b : Nat) (l : List UInt8) (w : World) (h : Lib.IsBuilder 185 5 B b (Lib.byteCells l) w) (hBw : B ≤ w.heap.size) : Calls Tryz.prog 135 #[.pointer (some ⟨b, 0, none⟩)] w fun e w' => e = .returned (.string ⟨l.toArray⟩) ∧ Below B w w' := Any.Builder_String_any Tryz.lays169 bX B b l w h hBw
set_option maxRecDepth 100000 in
theorem chk_used (b : Nat) (w : World) (h0 : w.cell? ⟨b, 0, none⟩ = some (.pointer (some ⟨b, 0, none⟩))) : Calls Tryz.prog 170 #[.pointer (some ⟨b, 0, none⟩)] w fun e w' => e = .returned (.tuple #[]) ∧ w' = w := by
  obtain ⟨j, hj, _⟩ := Option.map_eq_some_iff.1 bX.sizeBuilder
  go_enter Tryz.func170, Tryz.ntmps170
  go_wp2
  rw [Lib.run_neq_ptr_same w _ Tryz.underlying183 hj]
  go_wp2
  go_end0
  exact ⟨rfl, rfl⟩
set_option maxRecDepth 100000 in
set_option maxHeartbeats 1000000 in
theorem chk_fresh (b : Nat) (w : World) (h0 : w.cell? ⟨b, 0, none⟩ = some (.pointer none)) (hsh : w.shape? b = some (185, 2)) (hfz : w.frozen? ⟨b, 0, none⟩ = false) : Calls Tryz.prog 170 #[.pointer (some ⟨b, 0, none⟩)] w fun e w' => e = .returned (.tuple #[]) ∧ w' = w.setCell ⟨b, 0, none⟩ (.pointer (some ⟨b, 0, none⟩)) := by
  obtain ⟨j, hj, hjs⟩ := Option.map_eq_some_iff.1 bX.sizeBuilder
  go_enter Tryz.func170, Tryz.ntmps170
  go_wp2
  rw [Lib.run_to_unsafe w ⟨b, 0, none⟩ Tryz.underlying183 Tryz.underlying246 hj (by rw [hjs]; decide) hsh (Nat.zero_lt_succ 1)]
  simp only [Result.andThen]
  rw [Oper.upon_value]
  go_wp2
  rw [run_callFunc_extern Tryz.func189 (by kernel_rfl) (by kernel_rfl) (by kernel_rfl) (e := Extern.AbiNoEscape.same) (by kernel_rfl)]
  rw [Lib.run_noEscape]
  simp only [Result.andThen]
  rw [Oper.upon_value]
  go_wp2
  rw [Lib.run_from_unsafe w ⟨b, 0, none⟩ Tryz.underlying246 Tryz.underlying183 hj hsh bX.liesBuilder]
  simp only [Result.andThen]
  rw [Oper.upon_value]
  go_wp2
  go_end0
  exact ⟨rfl, rfl⟩
set_option maxRecDepth 100000 in
theorem chk_any (B b : Nat) (bs : List Value) (w : World) (h : Lib.IsBuilder 185 5 B b bs w) : Calls Tryz.prog 170 #[.pointer (some ⟨b, 0, none⟩)] w fun e w' => e = .returned (.tuple #[]) ∧ Lib.BuilderAt 185 5 B b (.pointer (some ⟨b, 0, none⟩)) bs w' ∧ Below B w w' := by
  rcases h with h | h
  · refine (chk_fresh b w h.cell0 h.shape h.frozen0).mono ?_
    rintro e w' ⟨rfl, rfl⟩
    exact ⟨rfl, h.used _, (Below.refl B w).setCell (p := ⟨b, 0, none⟩) h.1 _⟩
  · refine (chk_used b w h.cell0).mono ?_
    rintro e w' ⟨rfl, rfl⟩
    exact ⟨rfl, h, Below.refl B _⟩
end Go.Proofs.YtokjlgebkihimaaGreat
namespace Go.Proofs.YtokjlgebkihimaaGreat
open Go.RowKit Go.Maps Go.Shelf

set_option maxRecDepth 100000 in
set_option maxHeartbeats 1000000 in
theorem wrs_any (B b : Nat) (l : List UInt8) (s : ByteArray) (w : World) (h : Lib.IsBuilder 185 5 B b (Lib.byteCells l) w) (hlen : l.length + s.size ≤ 100000) (hBw : B ≤ w.heap.size) :
    Calls Tryz.prog 134 #[.pointer (some ⟨b, 0, none⟩), .string s] w fun e w' => e = .returned (.tuple #[.int .i64 s.size, .nilIface]) ∧ Lib.IsBuilder 185 5 B b (Lib.byteCells (l ++ s.data.toList)) w' ∧ Below B w w' := by
  obtain ⟨i0, hi, hz0, hz1, hz2⟩ := info_parts Tryz.info5
  have HCK := hid (chk_any B b (Lib.byteCells l) w h)
  clear h
  go_enter Tryz.func134, Tryz.ntmps134
  go_wp2_with (go_at_call 170; fail)
  refine HCK.out.mono ?_
  rintro e w1 ⟨rfl, h1, hb1⟩
  obtain ⟨hB, v, hbk, hown, hne⟩ := h1
  have c0 : w1.cell? ⟨b, 0, none⟩ = some (.pointer (some ⟨b, 0, none⟩)) := by rw [Lib.cell_of_heap hbk]; rfl
  have c1 : w1.cell? ⟨b, 1, none⟩ = some v := by rw [Lib.cell_of_heap hbk]; rfl
  have hbl : (Lib.byteCells l).length = l.length := Lib.byteCells_length l
  rw [hbl] at hown
  clear hbl
  obtain ⟨ao0, cap0, rfl⟩ : ∃ ao cap, v = .slice ao l.length cap := by
    rcases hown.2 with ⟨hv, h0⟩ | ⟨g, cap, cur, hv, _⟩
    · exact ⟨none, 0, by rw [hv, h0]⟩
    · exact ⟨_, _, hv⟩
  go_wp2_with (at_builtin; refine Lib.wpList_append_own_string _ rfl _ _ 125 9 rfl B 5 i0 Tryz.underlying125 Tryz.underlying9 hi hz0 hz1 hz2 _ _ _ rfl hown s rfl ?c3 ?c4 ?c5 ?_)
  case c3 => unfold maxLen; omega
  case c4 => omega
  case c5 => have := hb1.size; omega
  intro v' w2 hown' hgrow _
  have hlt := lt_of_block hbk
  have hb2 : w2.heap[b]? = some (.cells #[.pointer (some ⟨b, 0, none⟩), .slice ao0 l.length cap0] 185 (0, 0)) := (hgrow.block b hlt (fun e => hne e.symm)).trans hbk
  have d0 : w2.cell? ⟨b, 0, none⟩ = some (.pointer (some ⟨b, 0, none⟩)) := by rw [Lib.cell_of_heap hb2]; rfl
  have d1 : w2.cell? ⟨b, 1, none⟩ = some (.slice ao0 l.length cap0) := by rw [Lib.cell_of_heap hb2]; rfl
  have f1 : w2.frozen? ⟨b, 1, none⟩ = false := Lib.frozen_of_heap hb2 1
  obtain ⟨ao, n', cap, rfl⟩ : ∃ ao n' cap, v' = .slice ao n' cap := by
    rcases hown'.2 with ⟨hv, _⟩ | ⟨g, cap, cur, hv, _⟩
    · exact ⟨_, _, _, hv⟩
    · exact ⟨_, _, _, hv⟩
  go_wp2
  go_ret2
  refine ⟨rfl, .inr ?_, ?_⟩
  · have e : Lib.byteCells (l ++ s.data.toList) = Lib.byteCells l ++ Lib.strCells s := by simp [Lib.byteCells, Lib.strCells]
    rw [e]
    exact Lib.BuilderAt.put (T := 185) (e := 5) hB hb2 (bs' := Lib.byteCells l ++ Lib.strCells s) (by rw [List.length_append, Lib.byteCells_length, Lib.strCells_length]; exact hown') (by decide)
  · exact (hb1.grown hgrow (by have := hb1.size; omega) (fun k hk => (hown.lt k hk).1)).setCell (p := ⟨b, 1, none⟩) hB _
/-- the bytes of a file from a place on, so many of them -/
def byt (G : Geo) (B : List ByteArray) (n : Ino) (x : Nat) : UInt8 := if blk G B n (x / 128) = 0 then 0 else (bk B (blk G B n (x / 128))).data.toList.getD (x % 128) 0
def bys (G : Geo) (B : List ByteArray) (n : Ino) (x k : Nat) : List UInt8 := (List.range k).map fun j => byt G B n (x + j)
set_option maxRecDepth 100000 in
theorem bys_split (G : Geo) (B : List ByteArray) (n : Ino) (x a b : Nat) : bys G B n x (a + b) = bys G B n x a ++ bys G B n (x + a) b := by
  unfold bys
  rw [List.range_add, List.map_append, List.map_map]
  congr 1
  apply List.map_congr_left
  intro j _
  simp [Nat.add_assoc]
set_option maxRecDepth 100000 in
/-- what a round of 'bytes' writes -/
theorem bys_round {G : Geo} {B : List ByteArray} {n : Ino} {x k : Nat} (hx : x % 128 + k ≤ 128) (hs : blk G B n (x / 128) ≠ 0 → (bk B (blk G B n (x / 128))).size = 128) :
    ((if blk G B n (x / 128) = 0 then Zs 128 else bk B (blk G B n (x / 128))).extract (x % 128) (x % 128 + k)).data.toList = bys G B n x k := by
  rw [ext_list]
  apply List.ext_getElem
  · unfold bys
    rw [List.length_drop, List.length_take, List.length_map, List.length_range]
    have : (if blk G B n (x / 128) = 0 then Zs 128 else bk B (blk G B n (x / 128))).data.toList.length = 128 := by
      rw [len_list]
      split
      · exact Zs_size 128
      · rename_i h; exact hs h
    omega
  · intro j h1 h2
    have hj : j < k := by unfold bys at h2; simpa using h2
    have e1 : (x + j) / 128 = x / 128 := by omega
    have e2 : (x + j) % 128 = x % 128 + j := by omega
    simp only [bys, byt, List.getElem_drop, List.getElem_take, List.getElem_map, List.getElem_range, e1, e2]
    by_cases h : blk G B n (x / 128) = 0
    · have e0 : (Zs 128).data.toList = List.replicate 128 0 := st_list _
      simp only [if_pos h, e0, List.getElem_replicate]
    · have hl : x % 128 + j < (bk B (blk G B n (x / 128))).data.toList.length := by rw [len_list, hs h]; omega
      simp only [if_neg h]
      rw [List.getD_eq_getElem?_getD, List.getElem?_eq_getElem hl]
      rfl
end Go.Proofs.YtokjlgebkihimaaGreat
namespace Go.Proofs.YtokjlgebkihimaaGreat
open Go.RowKit Go.Maps Go.Shelf

set_option maxRecDepth 100000 in
theorem IsB.below {B b : Nat} {bs : List Value} {w w' : World} (h : Lib.IsBuilder 185 5 B b bs w) (k : Below w.heap.size w w') : Lib.IsBuilder 185 5 B b bs w' := by
  have key : ∀ p, Lib.BuilderAt 185 5 B b p bs w → Lib.BuilderAt 185 5 B b p bs w' := by
    rintro p ⟨hB, v, hbk, hown, hne⟩
    refine ⟨hB, v, (k.block b (lt_of_block hbk)).trans hbk, ?_, hne⟩
    obtain ⟨e1, e2 | ⟨x, cap, cur, e3, e4, e5, e6⟩⟩ := hown
    · exact ⟨e1, .inl e2⟩
    · exact ⟨e1, .inr ⟨x, cap, cur, e3, e4, (k.block x (lt_of_block e5)).trans e5, e6⟩⟩
  rcases h with h | h
  · exact .inl (key _ h)
  · exact .inr (key _ h)
set_option maxRecDepth 100000 in
set_option maxHeartbeats 2000000 in
theorem bytes_any {G : Geo} {p q cap m : Nat} {w : World} {F B : List ByteArray} (n : Ino) (x k : Nat) (hx : x + k ≤ 533248) (hk : k ≤ 1024) (h : VI G p q cap m w F B) :
    Calls Tryz.prog 103 #[.pointer (some ⟨p, 0, none⟩), n.v, .int .i64 (x : Int), .int .i64 ((x + k : Nat) : Int)] w fun e w' => e = .returned (.string (st (bys G B n x k))) ∧ Below w.heap.size w w' := by
  have HV := hid h
  have HG := hid h.ok
  have HZ := hid (zeros_any 128 (Nat.le_refl _))
  have HBO := hid (fun w' i (hi : i < 4166) (hv : VI G p q cap m w' F B) => blockOf_any (w := w') n i hi hv)
  have HBK := hid (fun w' b (hb : b < G.n) (hv : VI G p q cap m w' F B) => block_any (w := w') b hb hv)
  have HRN := hid (fun x k (hx : x % 128 + k ≤ 128) => bys_round (G := G) (B := B) (n := n) (x := x) (k := k) hx (fun _ => h.size _ (blk_lt h.ok _ _ _)))
  have HSP := hid (bys_split G B n)
  have HBL := hid (fun i => blk_lt h.ok B n i)
  have HSZ := hid (fun i => h.size _ (blk_lt h.ok B n i))
  obtain ⟨bf, hbf⟩ : ∃ bf, bf = blk G B n := ⟨_, rfl⟩
  obtain ⟨yf, hyf⟩ : ∃ yf, yf = bys G B n := ⟨_, rfl⟩
  rw [← hbf] at HBO HRN HBL HSZ
  rw [← hyf] at HRN HSP ⊢
  have HY0 : Hid (∀ x, yf x 0 = []) := hid (fun x => by rw [hyf]; rfl)
  clear hbf hyf h
  obtain ⟨nk, nl, nz, na, nb, nc, nd, ne, nf, ns, nt⟩ := n
  simp only [Ino.v] at HBO ⊢
  have HXK := hid hx
  have HKK := hid hk
  clear hx hk
  go_enter Tryz.func103, Tryz.ntmps103
  go_wp2
  obtain ⟨w1, hw1⟩ : ∃ w1, w1 = (w.alloc (.cells #[.int .i64 nk, .int .i64 nl, .int .i64 nz, .int .i64 na, .int .i64 nb, .int .i64 nc, .int .i64 nd, .int .i64 ne, .int .i64 nf, .int .i64 ns, .int .i64 nt] 36)).alloc (.cells #[.pointer none, .slice none 0 0] 185) := ⟨_, rfl⟩
  have hX1 : Box w.heap.size w1 ⟨nk, nl, nz, na, nb, nc, nd, ne, nf, ns, nt⟩ := by rw [hw1]; exact Box.below (box_at _ _) (below_alloc _ _)
  have hb1 : w1.heap[w.heap.size + 1]? = some (.cells #[.pointer none, .slice none 0 0] 185 (0, 0)) := by
    rw [hw1]
    have := box_at (w.alloc (.cells #[.int .i64 nk, .int .i64 nl, .int .i64 nz, .int .i64 na, .int .i64 nb, .int .i64 nc, .int .i64 nd, .int .i64 ne, .int .i64 nf, .int .i64 ns, .int .i64 nt] 36)) (.cells #[.pointer none, .slice none 0 0] 185)
    simpa using this
  have hI1 : Lib.IsBuilder 185 5 (w.heap.size + 1) (w.heap.size + 1) (Lib.byteCells []) w1 := .inl ⟨Nat.le_refl _, _, hb1, ⟨rfl, .inl ⟨rfl, rfl⟩⟩, by intro e; cases e⟩
  have hB1 : Below w.heap.size w w1 := by rw [hw1]; exact (below_alloc w _).next (below_alloc _ _)
  have hs1 : w.heap.size + 1 < w1.heap.size := lt_of_block hb1
  rw [← hw1]
  have HX1 := hid hX1
  have HI1 := hid hI1
  have HB1 := hid hB1
  have HS1 := hid hs1
  clear hw1 hX1 hI1 hB1 hs1 hb1
  go_loopw [2] (fun xv wr => ∃ j : Nat, xv = .int .i64 ((x + j : Nat) : Int) ∧ j ≤ k ∧ Lib.IsBuilder 185 5 (w.heap.size + 1) (w.heap.size + 1) (Lib.byteCells (yf x j)) wr ∧ Box w.heap.size wr ⟨nk, nl, nz, na, nb, nc, nd, ne, nf, ns, nt⟩ ∧ Below w.heap.size w wr ∧ w.heap.size + 1 < wr.heap.size ∧ (yf x j).length ≤ j) (fun xv _ => x + k - (intOf xv).toNat)
  case atStart => exact ⟨0, rfl, Nat.zero_le _, by rw [HY0.out]; exact HI1.out, HX1.out, HB1.out, HS1.out, by rw [HY0.out]; exact Nat.le_refl _⟩
  case round =>
    obtain ⟨j, rfl, hj, hI, hX, hB, hs, hyl⟩ := hrel
    have HI := hid hI
    have HX := hid hX
    have HB := hid hB
    have HS := hid hs
    have HYL := hid hyl
    clear hI hX hB hs hyl HX1 HI1 HB1 HS1
    obtain ⟨X, hXe⟩ : ∃ X, X = x + j := ⟨_, rfl⟩
    rw [← hXe]
    by_cases hjk : j < k
    · obtain ⟨ix, hix⟩ : ∃ ix, ix = X / 128 := ⟨_, rfl⟩
      obtain ⟨fo, hfo⟩ : ∃ fo, fo = X % 128 := ⟨_, rfl⟩
      obtain ⟨T, hT⟩ : ∃ T, T = x + k := ⟨_, rfl⟩
      obtain ⟨E, hE⟩ : ∃ E, E = fo + T - X := ⟨_, rfl⟩
      obtain ⟨en, hen⟩ : ∃ en, en = min 128 E := ⟨_, rfl⟩
      obtain ⟨dl, hdl⟩ : ∃ dl, dl = en - fo := ⟨_, rfl⟩
      obtain ⟨dt, hdt⟩ : ∃ dt, dt = (if bf ix = 0 then Zs 128 else bk B (bf ix)) := ⟨_, rfl⟩
      have hxk := HXK.out
      have hkk := HKK.out
      have hds : dt.size = 128 := by
        rw [hdt]
        split
        · exact Zs_size 128
        · exact HSZ.out ix
      have hXT : X < T := by omega
      have hlt : decide (X < T) = true := by simp; omega
      have hq : IntKind.i64.wrap ((X : Int) / 128) = (ix : Int) := by rw [IntKind.wrap_i64] <;> omega
      have hm : (X : Int) % 128 = (fo : Int) := by omega
      have hw1 : IntKind.i64.wrap ((fo : Int) + (T : Int)) = (fo : Int) + (T : Int) := by rw [IntKind.wrap_i64]; omega
      have hw2 : IntKind.i64.wrap ((fo : Int) + (T : Int) - (X : Int)) = (E : Int) := by rw [IntKind.wrap_i64] <;> omega
      have hmn : min (128 : Int) (E : Int) = (en : Int) := by omega
      have hw3 : IntKind.i64.wrap ((en : Int) - (fo : Int)) = (dl : Int) := by rw [IntKind.wrap_i64] <;> omega
      have hw4 : IntKind.i64.wrap ((X : Int) + (dl : Int)) = ((X + dl : Nat) : Int) := by rw [IntKind.wrap_i64] <;> omega
      have hfe : fo ≤ en := by omega
      have hel : en ≤ dt.size := by omega
      have hex : (dt.extract fo en).data.toList = yf X dl := by
        have k1 := HRN.out X dl (by omega)
        rw [← hix, ← hfo, ← hdt, show fo + dl = en by omega] at k1
        exact k1
      have hyy : yf x (j + dl) = yf x j ++ (dt.extract fo en).data.toList := by rw [hex, hXe]; exact HSP.out x j dl
      have hesz : (dt.extract fo en).size = dl := by rw [ByteArray.size_extract]; omega
      have HWS := hid (fun w' (hi' : Lib.IsBuilder 185 5 (w.heap.size + 1) (w.heap.size + 1) (Lib.byteCells (yf x j)) w') (hs' : w.heap.size + 1 < w'.heap.size) => wrs_any (w.heap.size + 1) (w.heap.size + 1) (yf x j) (dt.extract fo en) w' hi' (by have := HYL.out; omega) (by omega))
      rw [← hyy, hesz] at HWS
      have HBO1 := hid (fun w' (hv : VI G p q cap m w' F B) => HBO.out w' ix (by omega) hv)
      have HBK1 := hid (fun w' (hv : VI G p q cap m w' F B) => HBK.out w' (bf ix) (HBL.out ix) hv)
      have HFIN : Hid (∀ wz, Lib.IsBuilder 185 5 (w.heap.size + 1) (w.heap.size + 1) (Lib.byteCells (yf x (j + dl))) wz → Box w.heap.size wz ⟨nk, nl, nz, na, nb, nc, nd, ne, nf, ns, nt⟩ → Below w.heap.size w wz → w.heap.size + 1 < wz.heap.size → ∃ j' : Nat, Value.int .i64 ((X + dl : Nat) : Int) = .int .i64 ((x + j' : Nat) : Int) ∧ j' ≤ k ∧ Lib.IsBuilder 185 5 (w.heap.size + 1) (w.heap.size + 1) (Lib.byteCells (yf x j')) wz ∧ Box w.heap.size wz ⟨nk, nl, nz, na, nb, nc, nd, ne, nf, ns, nt⟩ ∧ Below w.heap.size w wz ∧ w.heap.size + 1 < wz.heap.size ∧ (yf x j').length ≤ j') := hid (fun wz a1 a2 a3 a4 => ⟨j + dl, by rw [show X + dl = x + (j + dl) by omega], by omega, a1, a2, a3, a4, by
        have := HYL.out
        rw [hyy, List.length_append, len_list, hesz]; omega⟩)
      have HMS : Hid (x + k - (X + dl) < x + k - X) := hid (by omega)
      have HDT := hid hdt
      have hXl := HX.out.cells
      rw [show ((x + k : Nat) : Int) = (T : Int) by rw [hT]]
      have hEc : (E ≤ 128 ∧ en = E) ∨ (¬ E ≤ 128 ∧ en = 128) := by omega
      have HHB := HB.out.size
      have HEC := hid hEc
      clear hXe hix hfo hT hE hen hdl hdt hxk hkk hXT hex hyy hesz HSP HRN HBO HBK HY0 HXK HKK HSZ hj hjk hEc HHB
      obtain ⟨x0, x1, x2, x3, x4, x5, x6, x7, x8, x9, x10⟩ := hXl
      clear HEC
      by_cases hb0 : bf ix = 0
      · have hd0 : dt = Zs 128 := by rw [HDT.out, if_pos hb0]
        rw [hb0] at HBO1
        rw [← hd0] at HZ
        clear hb0 hd0 HDT HBK1
        go_wp2_with (first
          | (go_at_call 132; refine (HZ.out _).mono ?_; rintro e w2 ⟨rfl, hb2⟩
             have HW2 := hid (HB.out.next hb2)
             have HI2 := hid (IsB.below HI.out hb2)
             have HX2 := hid (HX.out.below hb2)
             have HS2 : Hid (w.heap.size + 1 < w2.heap.size) := hid (by have := HS.out; have := hb2.size; omega)
             clear x0 x1 x2 x3 x4 x5 x6 x7 x8 x9 x10
             obtain ⟨x0, x1, x2, x3, x4, x5, x6, x7, x8, x9, x10⟩ := HX2.out.cells
             clear hb2)
          | (go_at_call 133; refine (HBO1.out _ (HV.out.below HW2.out)).mono ?_; rintro e w3 ⟨rfl, hb3⟩
             have HW3 := hid (HW2.out.next hb3)
             have HI3 := hid (IsB.below HI2.out hb3)
             have HX3 := hid (HX2.out.below hb3)
             have HS3 : Hid (w.heap.size + 1 < w3.heap.size) := hid (by have := HS2.out; have := hb3.size; omega)
             clear hb3)
          | (go_at_call 134; refine (HWS.out _ HI3.out HS3.out).mono ?_; rintro e w5 ⟨rfl, hi5, hb5⟩
             have HI5 := hid hi5
             have HX5 : Hid (Box w.heap.size w5 ⟨nk, nl, nz, na, nb, nc, nd, ne, nf, ns, nt⟩) := hid ((hb5.block _ (by omega)).trans HX3.out)
             have HW5 := hid (HW3.out.trans (hb5.mono (by omega)))
             have HS5 : Hid (w.heap.size + 1 < w5.heap.size) := hid (by have := HS3.out; have := hb5.size; omega)
             clear hi5 hb5))
        go_roundw
        case rel => exact HFIN.out _ HI5.out HX5.out HW5.out HS5.out
        case measure =>
          have := HMS.out
          simp only [intOf]
          omega
      · have hd0 : dt = bk B (bf ix) := by rw [HDT.out, if_neg hb0]
        rw [← hd0] at HBK1
        have hb1 : ¬ ((bf ix : Int) = 0) := by omega
        obtain ⟨bb, hbb⟩ : ∃ bb, bb = bf ix := ⟨_, rfl⟩
        rw [← hbb] at HBO1 HBK1 hb1
        clear hb0 hd0 HDT hbb
        go_wp2_with (first
          | (go_at_call 132; refine (HZ.out _).mono ?_; rintro e w2 ⟨rfl, hb2⟩
             have HW2 := hid (HB.out.next hb2)
             have HI2 := hid (IsB.below HI.out hb2)
             have HX2 := hid (HX.out.below hb2)
             have HS2 : Hid (w.heap.size + 1 < w2.heap.size) := hid (by have := HS.out; have := hb2.size; omega)
             clear x0 x1 x2 x3 x4 x5 x6 x7 x8 x9 x10
             obtain ⟨x0, x1, x2, x3, x4, x5, x6, x7, x8, x9, x10⟩ := HX2.out.cells
             clear hb2)
          | (go_at_call 133; refine (HBO1.out _ (HV.out.below HW2.out)).mono ?_; rintro e w3 ⟨rfl, hb3⟩
             have HW3 := hid (HW2.out.next hb3)
             have HI3 := hid (IsB.below HI2.out hb3)
             have HX3 := hid (HX2.out.below hb3)
             have HS3 : Hid (w.heap.size + 1 < w3.heap.size) := hid (by have := HS2.out; have := hb3.size; omega)
             clear hb3)
          | (go_at_call 89; refine (HBK1.out _ (HV.out.below HW3.out)).mono ?_; rintro e w4 ⟨rfl, hb4⟩
             replace HW3 := hid (HW3.out.next hb4)
             replace HI3 := hid (IsB.below HI3.out hb4)
             replace HX3 := hid (HX3.out.below hb4)
             replace HS3 : Hid (w.heap.size + 1 < w4.heap.size) := hid (by have := HS3.out; have := hb4.size; omega)
             clear hb4)
          | (go_at_call 134; refine (HWS.out _ HI3.out HS3.out).mono ?_; rintro e w5 ⟨rfl, hi5, hb5⟩
             have HI5 := hid hi5
             have HX5 : Hid (Box w.heap.size w5 ⟨nk, nl, nz, na, nb, nc, nd, ne, nf, ns, nt⟩) := hid ((hb5.block _ (by omega)).trans HX3.out)
             have HW5 := hid (HW3.out.trans (hb5.mono (by omega)))
             have HS5 : Hid (w.heap.size + 1 < w5.heap.size) := hid (by have := HS3.out; have := hb5.size; omega)
             clear hi5 hb5))
        go_roundw
        case rel => exact HFIN.out _ HI5.out HX5.out HW5.out HS5.out
        case measure =>
          have := HMS.out
          simp only [intOf]
          omega
    · have hje : j = k := by omega
      subst hje
      have HXe := hid hXe
      have HST := hid (string_call (w.heap.size + 1) (w.heap.size + 1) (yf x j) wr HI.out (by have := HS.out; omega))
      have hxx : ((x + j : Nat) : Int) = (X : Int) := by rw [hXe]
      clear hXe hj hjk
      rw [hxx]
      go_wp2_with (first | (go_at_call 135; refine HST.out.mono ?_; rintro e w9 ⟨rfl, hb9⟩))
      go_ret
      exact ⟨rfl, HB.out.trans (hb9.mono (by omega))⟩
end Go.Proofs.YtokjlgebkihimaaGreat
