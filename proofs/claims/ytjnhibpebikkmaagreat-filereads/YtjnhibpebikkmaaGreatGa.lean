import Derived.Test.YtjnhibpebikkmaaGreatFx
import Derived.Shelf.AbstractIn
namespace Go.Proofs.YtjnhibpebikkmaaGreat
open Go.RowKit Go.Maps Go.Shelf

def cc (l : List Chg) : List Value := l.flatMap encC
theorem cc_append (a b : List Chg) : cc (a ++ b) = cc a ++ cc b := by simp [cc]
theorem cc_cons (x : Chg) (l : List Chg) : cc (x :: l) = encC x ++ cc l := by simp [cc]
theorem cc_one (x : Chg) : cc [x] = encC x := by simp [cc]
theorem cc_len : ∀ l : List Chg, (cc l).length = l.length * 2
  | [] => rfl
  | x :: l => by
    have := cc_len l
    unfold cc at *
    rw [List.flatMap_cons, List.length_append, this]
    simp [encC]
    omega
theorem Tryz.info75 : (Tryz.prog.info? 75).map (fun i => (i.zero, i.size, i.bytes)) = some (some (.agg #[.int .i64 0, .string ⟨#[]⟩]), 2, 24) := by kernel_rfl
theorem cc_get : ∀ (l : List Chg) (t : Nat), t < l.length * 2 → (cc l)[t]? = (encC l[t / 2]!)[t % 2]?
  | [], t, h => by simp at h
  | x :: l, t, h => by
    rw [cc_cons]
    by_cases h3 : t < 2
    · rw [List.getElem?_append_left (by simp [encC]; omega)]
      have e1 : t / 2 = 0 := by omega
      have e2 : t % 2 = t := by omega
      rw [e1, e2]
      rfl
    · rw [List.getElem?_append_right (by simp [encC]; omega)]
      have hl : (encC x).length = 2 := rfl
      rw [hl, cc_get l (t - 2) (by simp at h; omega)]
      have e1 : t / 2 = (t - 2) / 2 + 1 := by omega
      have e2 : t % 2 = (t - 2) % 2 := by omega
      rw [e1, e2]
      rfl
theorem cc_lie {B : Nat} {w : World} {v : Value} {l : List Chg} (h : w.ownsRow B 75 2 v l.length (cc l)) : CLie w v l := by
  rcases h.2 with ⟨rfl, hz⟩ | ⟨gb, cap, cur, rfl, hbase, hgb, r1, r2, r3, r4⟩
  · have : l = [] := List.eq_nil_of_length_eq_zero hz
    subst this
    exact ⟨none, 0, rfl, Nat.le_refl _, by decide, fun i hi => by simp at hi⟩
  · refine ⟨_, cap, rfl, r1, r2, fun i hi => ⟨gb, 0, rfl, lt_of_block hgb, ?_⟩⟩
    have key : ∀ j, j < 2 → w.cell? ⟨gb, i * 2 + j, none⟩ = (encC l[i])[j]? := by
      intro j hj
      have hlt : i * 2 + j < l.length * 2 := by omega
      have e1 : cur.toList[i * 2 + j]? = (cc l)[i * 2 + j]? := by rw [← r4, List.getElem?_take_of_lt hlt]
      rw [cc_get l _ hlt] at e1
      have e2 : (i * 2 + j) / 2 = i := by omega
      have e3 : (i * 2 + j) % 2 = j := by omega
      rw [e2, e3, getElem!_pos l i hi, Array.getElem?_toList] at e1
      rw [← e1]
      simp [World.cell?, hgb]
    rw [Nat.zero_add]
    exact ⟨key 0 (by decide), key 1 (by decide)⟩
/-- a row of the call's own: changes -/
def CRow (base : Nat) (w : World) (v : Value) (l : List Chg) : Prop := w.ownsRow base 75 2 v l.length (cc l)
theorem CRow.nil (base : Nat) (w : World) : CRow base w (.slice none 0 0) [] := ⟨rfl, .inl ⟨rfl, rfl⟩⟩
theorem CRow.below {base : Nat} {w w' : World} {v : Value} {l : List Chg} (h : CRow base w v l) (k : Below w.heap.size w w') : CRow base w' v l := by
  obtain ⟨e1, e2 | ⟨x, cap, cur, e3, e4, e5, e6⟩⟩ := h
  · exact ⟨e1, .inl e2⟩
  · exact ⟨e1, .inr ⟨x, cap, cur, e3, e4, (k.block x (lt_of_block e5)).trans e5, e6⟩⟩
theorem CRow.own {base : Nat} {w : World} {v : Value} {l : List Chg} (h : CRow base w v l) : ∀ x, v.ownBlock = some x → base ≤ x ∧ x < w.heap.size := by
  obtain ⟨e1, ⟨rfl, _⟩ | ⟨x, cap, cur, rfl, e4, e5, e6⟩⟩ := h
  · intro x hx; cases hx
  · intro y hy; cases hy; exact ⟨e4, lt_of_block e5⟩
theorem CRow.len {base : Nat} {w : World} {v : Value} {l : List Chg} (h : CRow base w v l) : ∃ ao cap, v = .slice ao l.length cap ∧ l.length ≤ cap ∧ cap ≤ maxLen := by
  rcases h.2 with ⟨rfl, hz⟩ | ⟨gb, cap, cur, rfl, _, _, r1, r2, _⟩
  · exact ⟨none, 0, by rw [hz], by omega, by decide⟩
  · exact ⟨_, cap, rfl, r1, r2⟩
theorem pushC {ops : Array Oper} {rest : List Oper} {o : Oper} {a : Act} {Q : Exit → Act → World → Prop} {w0 : World} (hgd : o.guard = none) (s x : Operand)
    (ho : o.op = .call { callee := .builtin .append, args := #[s, x], argTypes := #[36, 36] }) (B1 bb : Nat) (v : Value) (T : List Chg) (y : Chg)
    (hs : a.eval s = v) (hx : a.eval x = .slice (some ⟨bb, 0, none⟩) 1 1) (hbb : bb = w0.heap.size) (hA : CRow B1 w0 v T) (hn : T.length ≤ 2000) (hbase : B1 ≤ w0.heap.size)
    (h : ∀ v' w', CRow B1 w' v' (T ++ [y]) → Below B1 w0 w' → (∀ k, k < w0.heap.size → some k ≠ v.ownBlock → w'.heap[k]? = w0.heap[k]?) → wpList Tryz.prog ops Q rest (a.put o.dst v') w') :
    wpList Tryz.prog ops Q (o :: rest) a (w0.alloc (.cells #[.int .i64 y.b, .string y.d] 75)) := by
  subst hbb
  obtain ⟨i0, hi, hz0, hz1, hz2⟩ := info_parts Tryz.info75
  have ho2 := hA.own
  refine wpList_append_own _ hgd s x 36 ho B1 75 i0 (.agg #[.int .i64 0, .string ⟨#[]⟩]) 2 24 Tryz.underlying36 hi hz0 hz1 hz2 rfl (by decide) v T.length (cc T) hs (World.ownsRow.alloc hA _) ⟨w0.heap.size, 0, none⟩ 1 1 (encC y) hx rfl (by
      intro j u hu
      match j, hu with
      | 0, hu => simp [encC] at hu; subst hu; simp [Addr.add]
      | 1, hu => simp [encC] at hu; subst hu; simp [Addr.add]
      | j + 2, hu => simp [encC] at hu) (by intro u hu; simp [encC] at hu; rcases hu with rfl | rfl <;> rfl) (by unfold maxLen; omega) (by omega) (by simp; omega) ?_
  intro v' w' hown hg _
  refine h v' w' ?_ ?_ (fun k hk hne => (hg.block k (by simp; omega) hne).trans (Below.heap_alloc _ _ k hk))
  · unfold CRow
    rw [cc_append, cc_one, List.length_append]
    exact hown
  · refine (below_alloc w0 (.cells #[.int .i64 y.b, .string y.d] 75)).mono hbase |>.trans ⟨hg.os, hg.tape, hg.output, hg.size, fun k hk => hg.block k ?_ ?_⟩
    · simp; omega
    · intro e
      have := (ho2 k e.symm).1
      omega
theorem CRow.empty (base : Nat) (w : World) (hb : base ≤ w.heap.size) : CRow base (w.alloc (.cells #[] 75)) (.slice (some ⟨w.heap.size, 0, none⟩) 0 0) [] :=
  ⟨rfl, .inr ⟨w.heap.size, 0, #[], rfl, hb, box_at _ _, Nat.le_refl _, by decide, rfl, rfl⟩⟩
theorem Um.MIs.look1 {b N : Nat} {w : World} {M : List Chg} (h : Um.MIs b w N M) (c : Chg) (hc : c ∈ M) : (Instr.lookup 67 (.map (some b)) (.int .i64 c.b) false).run Tryz.prog w = .ok (valC c) w := by
  obtain ⟨n, D, h1, h2, hs, h3, h4, h5, hr⟩ := h
  obtain ⟨v, ps, hrun, hv⟩ := h1.lookup Um.law Tryz.underlying67 (Um.zero94 w) (Um.RC_mk _) (Um.hkey c.b (h4 c hc).1)
  obtain ⟨c', rfl, e⟩ := Um.RC_inv hv
  rw [(h4 c hc).2] at e
  rw [hrun, Um.datC_inj (Prod.mk.inj e).1]
theorem Rise.nodup {M : List Chg} (h : Rise M) : (M.map (·.b)).Nodup := by
  unfold List.Nodup
  rw [List.pairwise_map]
  exact List.Pairwise.imp (fun {a b} hab => by omega) h
theorem keys_call (mb : Option Nat) (W : World) : Calls Tryz.prog 28 #[.map mb] W fun e w' => e = .returned (.func (.func 51) #[] #[.pointer (some ⟨W.heap.size, 0, none⟩)]) ∧ w' = W.alloc (.cells #[.map mb] 67) :=
  (callsIn_wide (n := 5)).1 (AnyZI.keys_in Tryz.keysA Fence.wide 5 trivial rfl mb W)
theorem sortsA (m : Nat) : AnyZI.SortsIn Tryz.prog Tryz.sortedA_ren Fence.wide m :=
  ⟨fun blk off cap ss W hH hblk hsz => callsIn_wide.2 (AnyM.slices_Sort_int Tryz.sortA blk off cap ss W hH hblk hsz),
   fun p cap W => callsIn_wide.2 (AnyM.slices_Sort_int_none Tryz.sortA p cap W)⟩
set_option maxRecDepth 100000 in
theorem sorted_call {b N : Nat} {w : World} {M : List Chg} (h : Um.MIs b w N M) (hl : M.length ≤ 1024) : Calls Tryz.prog 27 #[.func (.func 51) #[] #[.pointer (some ⟨w.heap.size, 0, none⟩)]] (w.alloc (.cells #[.map (some b)] 67)) fun e w' => ∃ v, e = .returned v ∧ w'.ownsRow (w.heap.size + 1) 3 1 v M.length (M.map fun c => .int .i64 c.b) ∧ Below (w.heap.size + 1) (w.alloc (.cells #[.map (some b)] 67)) w' := by
  obtain ⟨n, D, hown, h2, hs, h3, h4, h5, hr⟩ := h
  have hbl := hown.lt
  have hseq : SeqGives Fence.wide 2 Tryz.prog 51 #[.pointer (some ⟨w.heap.size, 0, none⟩)] encZ (fun ss => ss.Perm (intKeys D)) (Maps.size D) (w.alloc (.cells #[.map (some b)] 67)) :=
    AnyZI.keys_gives (ρ := Tryz.keysA_ren) { Tryz.keysA with } Fence.wide _ trivial rfl (by omega) w.heap.size b n D _ (by simp) (by simp) (by
      obtain ⟨es, clock, hb, Ft, hs, hD⟩ := hown
      exact ⟨es, clock, (Below.heap_alloc _ _ b hbl).trans hb, Ft, hs, hD⟩)
  have cS := AnyZI.sorted_in Tryz.sortedA Fence.wide 5 trivial trivial trivial trivial rfl (by omega) (sortsA _) (enters_of Tryz.func50 (by kernel_rfl) rfl) 51 #[.pointer (some ⟨w.heap.size, 0, none⟩)] trivial (enters_of Tryz.func51 (by kernel_rfl) rfl) _ _ (by unfold maxLen; omega) (by omega) _ hseq
  change CallsIn _ _ Tryz.prog 27 _ _ _ at cS
  refine ((callsIn_wide (n := 5)).1 cS).mono ?_
  rintro e w' ⟨v, ss, rfl, hS, hrow, hnil, hb⟩
  have hc : CollectedI D (fun _ => false) (M.map (·.b)) := by
    refine ⟨hr.nodup, fun x => ?_⟩
    rw [show (Lit.int .i64 x) = Um.kl x from rfl, h3 x, List.any_eq_true]
    constructor
    · intro hx
      obtain ⟨c, hc, rfl⟩ := List.mem_map.1 hx
      exact ⟨⟨c, hc, by simp⟩, rfl⟩
    · rintro ⟨⟨c, hc, hcx⟩, _⟩
      exact List.mem_map.2 ⟨c, hc, by simpa using hcx⟩
  have hp := hc.perm hown Um.law Tryz.underlying3 (fun _ => rfl)
  have hsort : ss.mergeSort (fun x y => decide (x ≤ y)) = M.map (·.b) := by
    have e1 : ss.mergeSort leI = (M.map (·.b)).mergeSort leI := mergeSort_of_perm_i (hS.trans hp.symm)
    refine e1.trans (List.mergeSort_of_pairwise ?_)
    rw [List.pairwise_map]
    exact List.Pairwise.imp (fun {a b} hab => by simp only [leI, decide_eq_true_eq]; omega) hr
  have hlen : ss.length = M.length := by rw [(hS.trans hp.symm).length_eq, List.length_map]
  rw [hsort, hlen, List.map_map] at hrow
  rw [World.size_alloc] at hrow hb
  exact ⟨v, rfl, hrow, hb⟩
end Go.Proofs.YtjnhibpebikkmaaGreat
