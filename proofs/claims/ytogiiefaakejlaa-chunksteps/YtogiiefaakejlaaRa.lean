import Derived.Test.YtogiiefaakejlaaCe
import Derived.Test.YtogiiefaakejlaaCo
import Derived.Test.YtogiiefaakejlaaRs
import Derived.Laws.CopyRow
namespace Go.Proofs.Ytogiiefaakejlaa
open Go.RowKit Go.Maps

/-- the document's collector in block r -/
structure RI (base r : Nat) (w : World) (L : List Ck) : Prop where
  br : base ≤ r
  mem : ∃ v, w.heap[r]? = some (.cells #[v] 42 (0, 0)) ∧ KRow base w v L
/-- nothing but block r, and rows of chunks from base on, has changed -/
structure RFr (base r : Nat) (w w' : World) : Prop where
  size : w.heap.size ≤ w'.heap.size
  block : ∀ k, k < w.heap.size → k ≠ r → (k < base ∨ ∀ cs fz, w.heap[k]? ≠ some (.cells cs 35 fz)) → w'.heap[k]? = w.heap[k]?
theorem RFr.refl (base r : Nat) (w : World) : RFr base r w w := ⟨Nat.le_refl _, fun _ _ _ _ => rfl⟩
theorem RFr.of_below {base r : Nat} {w w' : World} (h : Below w.heap.size w w') : RFr base r w w' := ⟨h.size, fun k hk _ _ => h.block k hk⟩
theorem RFr.trans {base r : Nat} {w w1 w2 : World} (h : RFr base r w w1) (k : RFr base r w1 w2) : RFr base r w w2 :=
  ⟨Nat.le_trans h.size k.size, fun i hi hn hm => by
    have e := h.block i hi hn hm
    rw [k.block i (Nat.lt_of_lt_of_le hi h.size) hn (by rw [e]; exact hm), e]⟩
theorem RI.lt {base r : Nat} {w : World} {L : List Ck} (h : RI base r w L) : r < w.heap.size := by
  obtain ⟨v, h1, _⟩ := h.mem
  exact lt_of_block h1
theorem RI.same {base r : Nat} {w w' : World} {L : List Ck} (h : RI base r w L) (hb : ∀ k, k < w.heap.size → (k = r ∨ ∃ cs fz, w.heap[k]? = some (.cells cs 35 fz)) → w'.heap[k]? = w.heap[k]?) : RI base r w' L := by
  obtain ⟨v, h1, h2⟩ := h.mem
  exact ⟨h.br, v, (hb r (lt_of_block h1) (.inl rfl)).trans h1, h2.frame fun b cs fz hc => hb b (lt_of_block hc) (.inr ⟨cs, fz, hc⟩)⟩
theorem RI.below {base r : Nat} {w w' : World} {L : List Ck} (h : RI base r w L) (k : Below w.heap.size w w') : RI base r w' L := h.same fun i hi _ => k.block i hi
theorem RI.drew {base r : Nat} {w : World} {L : List Ck} (h : RI base r w L) (n : Nat) : RI base r (w.drewN n) L := h.same fun _ _ _ => rfl
theorem RI.new (base : Nat) (w : World) (hb : base ≤ w.heap.size) : RI base w.heap.size (w.alloc (.cells #[.slice none 0 0] 42)) [] := ⟨hb, _, box_at w _, KRow.nil _ _⟩
/-- where only a collector of the program's changes -/
theorem RI.cfr {base r g : Nat} {w w' : World} {L : List Ck} (h : RI base r w L) (k : CFr g w w') (hrg : r ≠ g) (hg : ∀ cs fz, w.heap[g]? ≠ some (.cells cs 35 fz)) : RI base r w' L := by
  refine h.same fun i hi hm => k.block i hi (fun e => ?_) (fun es c e => ?_)
  · rcases hm with hm | ⟨cs, fz, hm⟩
    · exact hrg (hm.symm.trans e)
    · rw [e] at hm; exact hg cs fz hm
  · rcases hm with hm | ⟨cs, fz, hm⟩
    · obtain ⟨v, h1, _⟩ := h.mem
      rw [hm, h1] at e
      cases e
    · rw [hm] at e; cases e
theorem CI.rfr {base b2 r g : Nat} {w w' : World} {L : List Ck} (h : CI base g w L) (k : RFr b2 r w w') (hrg : g ≠ r) (hr : ∀ es c, w.heap[r]? ≠ some (.map es c)) : CI base g w' L := by
  refine h.same fun i hi hm => k.block i hi (fun e => ?_) (.inr fun cs fz e => ?_)
  · rcases hm with hm | ⟨es, c, hm⟩
    · exact hrg (hm.symm.trans e)
    · rw [e] at hm; exact hr es c hm
  · rcases hm with hm | ⟨es, c, hm⟩
    · obtain ⟨mv, h1, _⟩ := h.mem
      rw [hm, h1] at e
      cases e
    · rw [hm] at e; cases e
def zCk : Ck := ⟨0, 0, 0, ByteArray.empty, 0⟩
def findC (L : List Ck) (n : Int) : Ck := (L.find? (fun c => c.num == n)).getD zCk
theorem ret33 {a : Act} {w : World} {R : Nat} {c : Ck} {b : Bool} {post : Ending → World → Prop} (hb : KBox 35 R w c) (h2 : a.tmps.getD 4 undef = .pointer (some ⟨R, 0, none⟩)) (h3 : a.tmps.getD 5 undef = .bool b) (hd : a.defers = []) (hp : post (.returned (.tuple #[c.v, .bool b])) w) : bodyPost Try.prog Try.f33 post .ret a w := by
  refine bodyPost_ret (v := .tuple #[c.v, .bool b]) ?_ hd hp
  simp only [results, show Try.f33.results = #[.cell 4 35, .tmp 5] from rfl]
  rw [Array.getD_eq_getD_getElem?] at h2 h3
  simp [h2, h3, asAddr, load35 hb]
theorem KBox.set5 {t : TypeId} {g : Nat} {w : World} {c' : Ck} (h : KBox t g w c') (c : Ck) : KBox t g (((((w.setCell ⟨g, 0, none⟩ (.int .i64 c.dg)).setCell ⟨g, 1, none⟩ (.int .i64 c.tot)).setCell ⟨g, 2, none⟩ (.int .i64 c.num)).setCell ⟨g, 3, none⟩ (.string c.dat)).setCell ⟨g, 4, none⟩ (.int .i64 c.sm)) c := by
  unfold KBox at *
  rw [cells_set (cells_set (cells_set (cells_set (cells_set h _) _) _) _) _]
  rfl
theorem below5 {B g : Nat} {w0 w : World} (h : Below B w0 w) (hg : B ≤ g) (v0 v1 v2 v3 v4 : Value) : Below B w0 (((((w.setCell ⟨g, 0, none⟩ v0).setCell ⟨g, 1, none⟩ v1).setCell ⟨g, 2, none⟩ v2).setCell ⟨g, 3, none⟩ v3).setCell ⟨g, 4, none⟩ v4) :=
  ((((h.setCell (p := ⟨g, 0, none⟩) hg _).setCell (p := ⟨g, 1, none⟩) hg _).setCell (p := ⟨g, 2, none⟩) hg _).setCell (p := ⟨g, 3, none⟩) hg _).setCell (p := ⟨g, 4, none⟩) hg _
theorem hasN_take_succ (L : List Ck) (j : Nat) (h : j < L.length) (n : Int) : hasN (L.take (j + 1)) n = (hasN (L.take j) n || L[j].num == n) := by
  rw [List.take_succ_eq_append_getElem h]
  unfold hasN
  rw [List.any_append]
  simp
theorem find_first (L : List Ck) (j : Nat) (h : j < L.length) (n : Int) (h0 : hasN (L.take j) n = false) (h1 : L[j].num = n) : findC L n = L[j] ∧ hasN L n = true := by
  have e : L = L.take j ++ L[j] :: L.drop (j + 1) := by rw [List.getElem_cons_drop, List.take_append_drop]
  have hf : (L.take j).find? (fun c => c.num == n) = none := by
    rw [List.find?_eq_none]
    unfold hasN at h0
    rw [List.any_eq_false] at h0
    exact h0
  constructor
  · unfold findC
    conv => lhs; rw [e, List.find?_append, hf, List.find?_cons, h1]
    simp
  · unfold hasN
    rw [List.any_eq_true]
    exact ⟨L[j], List.getElem_mem h, by simp [h1]⟩
theorem find_none {L : List Ck} {n : Int} (h0 : hasN L n = false) : findC L n = zCk := by
  unfold findC
  have hf : L.find? (fun c => c.num == n) = none := by
    rw [List.find?_eq_none]
    unfold hasN at h0
    rw [List.any_eq_false] at h0
    exact h0
  rw [hf]
  rfl
set_option maxRecDepth 100000 in
set_option maxHeartbeats 1000000 in
/-- the document's has -/
theorem rhas_any {base r : Nat} {w : World} {L : List Ck} (h : RI base r w L) (n : Int) : Calls Try.prog 33 #[.pointer (some ⟨r, 0, none⟩), .int .i64 n] w fun e w' => e = .returned (.tuple #[(findC L n).v, .bool (hasN L n)]) ∧ Below w.heap.size w w' := by
  obtain ⟨v, h1, h2⟩ := h.mem
  obtain ⟨ao, cap, rfl, hlc, hcm, hcell⟩ := h2.lie
  unfold maxLen at hcm
  have c0 : w.cell? ⟨r, 0, none⟩ = some (.slice ao L.length cap) := by rw [cell_of h1]; rfl
  have hrl := lt_of_block h1
  have HC := hid hcell
  obtain ⟨N, hN⟩ : ∃ N, N = L.length := ⟨_, rfl⟩
  rw [← hN] at c0 hlc
  have HN := hid hN
  clear hcell h1 h2 h hN
  have d0 : (w.alloc (.cells #[.int .i64 0, .int .i64 0, .int .i64 0, .string ⟨#[]⟩, .int .i64 0] 35)).cell? ⟨r, 0, none⟩ = some (.slice ao N cap) := ((below_alloc w _).cell (p := ⟨r, 0, none⟩) hrl).trans c0
  go_enter Try.func33, Try.ntmps33
  go_wp2
  go_loopw [13] (fun i wr => ∃ j : Nat, j ≤ N ∧ i = .int .i64 j ∧ Hid (hasN (L.take j) n = false) ∧ Hid (Below w.heap.size w wr) ∧ Hid (KBox 35 w.heap.size wr zCk)) (fun i _ => N - (intOf i).toNat)
  case atStart => exact ⟨0, Nat.zero_le _, rfl, rfl, below_alloc _ _, box_at _ _⟩
  case round =>
    obtain ⟨j, hj, rfl, HH, HB, HK⟩ := hrel
    rename World => wr
    by_cases hlt : j < N
    · have hj' : j < L.length := by rw [← HN.out]; exact hlt
      obtain ⟨gb, off, e, hgb, ck⟩ := HC.out j hj'
      subst e
      have HSU := hid (hasN_take_succ L j hj' n)
      have HFF := hid (find_first L j hj' n HH.out)
      obtain ⟨y, hy⟩ : ∃ y, y = L[j]'hj' := ⟨_, rfl⟩
      rw [← hy] at ck HSU HFF
      have hcl : ∀ q, q < 5 → wr.cell? ⟨gb, off + j * 5 + q, none⟩ = (Ck.cs y)[q]? := fun q hq => (HB.out.cell (p := ⟨gb, off + j * 5 + q, none⟩) hgb).trans (ck q hq)
      have a0 : wr.cell? ⟨gb, off + j * 5, none⟩ = some (.int .i64 y.dg) := hcl 0 (by omega)
      have a1 : wr.cell? ⟨gb, off + j * 5 + 1, none⟩ = some (.int .i64 y.tot) := hcl 1 (by omega)
      have a2 : wr.cell? ⟨gb, off + j * 5 + 2, none⟩ = some (.int .i64 y.num) := hcl 2 (by omega)
      have a3 : wr.cell? ⟨gb, off + j * 5 + 3, none⟩ = some (.string y.dat) := hcl 3 (by omega)
      have a4 : wr.cell? ⟨gb, off + j * 5 + 4, none⟩ = some (.int .i64 y.sm) := hcl 4 (by omega)
      clear ck hcl hy
      obtain ⟨xd, xt, xn, xs, xm⟩ := y
      simp only at a0 a1 a2 a3 a4
      by_cases hx : xn = n
      · obtain ⟨f1, f2⟩ := HFF.out hx
        have HF1 := hid f1
        have HF2 := hid f2
        clear f1 f2
        subst hx
        obtain ⟨k0, k1, k2, k3, k4⟩ := KBox.cell HK.out
        have kk := HK.out
        unfold KBox at kk
        have g0 := frees kk 0
        have g1 := frees kk 1
        have g2 := frees kk 2
        have g3 := frees kk 3
        have g4 := frees kk 4
        have hwl := KBox.lt HK.out
        simp only [zCk] at k0 k1 k2 k3 k4
        go_wp2
        refine ret33 (R := w.heap.size) (c := ⟨xd, xt, xn, xs, xm⟩) ?_ rfl rfl rfl ⟨by rw [HF1.out, HF2.out], ?_⟩
        · exact KBox.same (KBox.set5 HK.out ⟨xd, xt, xn, xs, xm⟩) (Below.heap_alloc _ _ _ (by simp [World.setCell]; exact hwl))
        · exact (below5 HB.out (Nat.le_refl _) _ _ _ _ _).alloc (by simp [World.setCell]; omega) _
      · go_wp2
        go_roundw
        case rel =>
          refine ⟨j + 1, hlt, by simp, ?_, HB.out.next (below_alloc _ _), KBox.same HK.out (Below.heap_alloc _ _ _ (KBox.lt HK.out))⟩
          show _ = _
          rw [HSU.out, HH.out]
          simpa using hx
        case measure => simp [intOf]; omega
    · have HHN : Hid (hasN L n = false) := by
        have := HH.out
        rw [List.take_of_length_le (by rw [← HN.out]; omega)] at this
        exact this
      have HF1 := hid (find_none HHN.out)
      obtain ⟨k0, k1, k2, k3, k4⟩ := KBox.cell HK.out
      have kk := HK.out
      unfold KBox at kk
      have g0 := frees kk 0
      have g1 := frees kk 1
      have g2 := frees kk 2
      have g3 := frees kk 3
      have g4 := frees kk 4
      simp only [zCk] at k0 k1 k2 k3 k4
      go_wp2
      refine ret33 (R := w.heap.size) (c := zCk) ?_ rfl rfl rfl ⟨by rw [HF1.out, HHN.out], ?_⟩
      · exact KBox.set5 HK.out zCk
      · exact below5 HB.out (Nat.le_refl _) _ _ _ _ _
end Go.Proofs.Ytogiiefaakejlaa
