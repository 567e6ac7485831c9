import Derived.Test.YtopebghandojbaaGreatZd
import Derived.Test.YtopebghandojbaaGreatKe
import Derived.Handy
import Derived.BigRegion
import Derived.Test.YtopebghandojbaaGreatZe
namespace Go.Proofs.YtopebghandojbaaGreat
open Go.RowKit Go.Maps

/-- an act: its kind, its block, what is written -/
structure AT where
  k : Int
  a : Int
  d : ByteArray
def encA (c : AT) : List Value := [.int .i64 c.k, .int .i64 c.a, .string c.d]
def ac (l : List AT) : List Value := l.flatMap encA
theorem ac_append (a b : List AT) : ac (a ++ b) = ac a ++ ac b := by simp [ac]
theorem ac_one (c : AT) : ac [c] = encA c := by simp [ac]
/-- a row of acts of one's own -/
def ARow (base : Nat) (w : World) (v : Value) (l : List AT) : Prop := w.ownsRow base 133 3 v l.length (ac l)
theorem ARow.nil (base : Nat) (w : World) : ARow base w (.slice none 0 0) [] := ⟨rfl, .inl ⟨rfl, rfl⟩⟩
theorem ARow.same {base : Nat} {w w' : World} {v : Value} {l : List AT} (h : ARow base w v l) (k : ∀ x, v.ownBlock = some x → w'.heap[x]? = w.heap[x]?) : ARow base w' v l := by
  obtain ⟨e1, e2 | ⟨x, cap, cur, rfl, e4, e5, e6⟩⟩ := h
  · exact ⟨e1, .inl e2⟩
  · exact ⟨e1, .inr ⟨x, cap, cur, rfl, e4, (k x rfl).trans e5, e6⟩⟩
theorem ARow.own {base : Nat} {w : World} {v : Value} {l : List AT} (h : ARow base w v l) : ∀ x, v.ownBlock = some x → base ≤ x ∧ ∃ cur, w.heap[x]? = some (.cells cur 133 (0, 0)) := by
  obtain ⟨e1, ⟨rfl, _⟩ | ⟨x, cap, cur, rfl, e4, e5, e6⟩⟩ := h
  · intro x hx; cases hx
  · intro y hy; cases hy; exact ⟨e4, _, e5⟩
theorem ARow.below {base : Nat} {w w' : World} {v : Value} {l : List AT} (h : ARow base w v l) (k : Below w.heap.size w w') : ARow base w' v l :=
  h.same fun x hx => by
    obtain ⟨_, cur, hc⟩ := h.own x hx
    exact k.block x (lt_of_block hc)
theorem ARow.len {base : Nat} {w : World} {v : Value} {l : List AT} (h : ARow base w v l) : ∃ ao cap, v = .slice ao l.length cap ∧ l.length ≤ cap ∧ cap ≤ maxLen := by
  rcases h.2 with ⟨rfl, hz⟩ | ⟨gb, cap, cur, rfl, _, _, r1, r2, _⟩
  · exact ⟨none, 0, by rw [hz], by omega, by decide⟩
  · exact ⟨_, cap, rfl, r1, r2⟩
set_option maxRecDepth 100000 in
theorem Tryz.info133 : (Tryz.prog.info? 133).map (fun i => (i.zero, i.size, i.bytes)) = some (some (.agg #[.int .i64 0, .int .i64 0, .string ⟨#[]⟩]), 3, 32) := by kernel_rfl
set_option maxRecDepth 100000 in
theorem pushA {ops : Array Oper} {rest : List Oper} {o : Oper} {a : Act} {Q : Exit → Act → World → Prop} {w0 : World} (hgd : o.guard = none) (s x : Operand)
    (ho : o.op = .call { callee := .builtin .append, args := #[s, x], argTypes := #[105, 105] }) (B1 bb : Nat) (v : Value) (T : List AT) (y : AT)
    (hs : a.eval s = v) (hx : a.eval x = .slice (some ⟨bb, 0, none⟩) 1 1) (hbb : bb = w0.heap.size) (hA : ARow B1 w0 v T) (hn : T.length ≤ 2000) (hbase : B1 ≤ w0.heap.size)
    (h : ∀ v' w', ARow B1 w' v' (T ++ [y]) → Below B1 w0 w' → (∀ k, k < w0.heap.size → some k ≠ v.ownBlock → w'.heap[k]? = w0.heap[k]?) → wpList Tryz.prog ops Q rest (a.put o.dst v') w') :
    wpList Tryz.prog ops Q (o :: rest) a (w0.alloc (.cells #[.int .i64 y.k, .int .i64 y.a, .string y.d] 133)) := by
  subst hbb
  obtain ⟨i0, hi, hz0, hz1, hz2⟩ := info_parts Tryz.info133
  have ho2 := hA.own
  refine wpList_append_own _ hgd s x 105 ho B1 133 i0 (.agg #[.int .i64 0, .int .i64 0, .string ⟨#[]⟩]) 3 32 Tryz.underlying105 hi hz0 hz1 hz2 rfl (by decide) v T.length (ac T) hs (World.ownsRow.alloc hA _) ⟨w0.heap.size, 0, none⟩ 1 1 (encA y) hx rfl (by
      intro j u hu
      match j, hu with
      | 0, hu => simp [encA] at hu; subst hu; simp [Addr.add]
      | 1, hu => simp [encA] at hu; subst hu; simp [Addr.add]
      | 2, hu => simp [encA] at hu; subst hu; simp [Addr.add]
      | j + 3, hu => simp [encA] at hu) (by intro u hu; simp [encA] at hu; rcases hu with rfl | rfl | rfl <;> rfl) (by unfold maxLen; omega) (by omega) (by simp; omega) ?_
  intro v' w' hown hg _
  refine h v' w' ?_ ?_ (fun k hk hne => (hg.block k (by simp; omega) hne).trans (Below.heap_alloc _ _ k hk))
  · unfold ARow
    rw [ac_append, ac_one, List.length_append]
    exact hown
  · refine (below_alloc w0 (.cells #[.int .i64 y.k, .int .i64 y.a, .string y.d] 133)).mono hbase |>.trans ⟨hg.os, hg.tape, hg.output, hg.size, fun k hk => hg.block k ?_ ?_⟩
    · simp; omega
    · intro e
      have := (ho2 k e.symm).1
      omega
/-- a store whose acts are a row of its own, from a block on -/
structure SA (B1 s : Nat) (w : World) (g x y z j m : Nat) (uv : Value) (c : Int) (A : List AT) : Prop where
  ex : ∃ av, StIs s w g x y z j av m uv c ∧ ARow B1 w av A
  lo : s < B1
  hi : B1 ≤ w.heap.size
theorem SA.below {B1 s : Nat} {w w' : World} {g x y z j m : Nat} {uv : Value} {c : Int} {A : List AT} (h : SA B1 s w g x y z j m uv c A) (k : Below w.heap.size w w') : SA B1 s w' g x y z j m uv c A := by
  obtain ⟨⟨av, h1, h2⟩, h3, h4⟩ := h
  exact ⟨⟨av, h1.below k, h2.below k⟩, h3, Nat.le_trans h4 k.size⟩
/-- nothing but a store's block and rows of acts has changed -/
structure AF (B1 s : Nat) (w w' : World) : Prop where
  os : w'.os = w.os
  tape : w'.tape = w.tape
  output : w'.output = w.output
  size : w.heap.size ≤ w'.heap.size
  block : ∀ k, k < w.heap.size → k ≠ s → (k < B1 ∨ ∀ cur, w.heap[k]? ≠ some (.cells cur 133 (0, 0))) → w'.heap[k]? = w.heap[k]?
theorem AF.refl (B1 s : Nat) (w : World) : AF B1 s w w := ⟨rfl, rfl, rfl, Nat.le_refl _, fun _ _ _ _ => rfl⟩
theorem AF.of_below {B1 s : Nat} {w w' : World} (h : Below w.heap.size w w') : AF B1 s w w' := ⟨h.os, h.tape, h.output, h.size, fun k hk _ _ => h.block k hk⟩
theorem AF.trans {B1 s : Nat} {w w1 w2 : World} (h : AF B1 s w w1) (k : AF B1 s w1 w2) : AF B1 s w w2 := by
  refine ⟨k.os.trans h.os, k.tape.trans h.tape, k.output.trans h.output, Nat.le_trans h.size k.size, fun i hi hs hc => ?_⟩
  have e := h.block i hi hs hc
  refine (k.block i (Nat.lt_of_lt_of_le hi h.size) hs ?_).trans e
  rcases hc with hc | hc
  · exact .inl hc
  · exact .inr (fun cur => by rw [e]; exact hc cur)
theorem AF.kept {B1 s : Nat} {w w' : World} (h : AF B1 s w w') (hb : B1 ≤ w.heap.size) : Kept B1 s w w' := ⟨h.os, h.tape, h.output, h.size, fun k hk hs => h.block k (by omega) hs (.inl hk)⟩
theorem AF.cells {B1 s k : Nat} {w w' : World} {cs : Array Value} {t : TypeId} (h : AF B1 s w w') (hk : w.heap[k]? = some (.cells cs t (0, 0))) (hs : k ≠ s) (ht : t ≠ 133) : w'.heap[k]? = some (.cells cs t (0, 0)) :=
  (h.block k (lt_of_block hk) hs (.inr fun cur e => by rw [hk] at e; cases e; exact ht rfl)).trans hk
theorem push_end {B1 s : Nat} {w w5 : World} {g x y z j m : Nat} {uv av v5 : Value} {c : Int} {A : List AT} (h : StIs s w g x y z j av m uv c) (hlo : s < B1) (hhi : B1 ≤ w.heap.size) {A0 : List AT} (hA0 : ARow B1 w av A0) (hA5 : ARow B1 w5 v5 A) (hb5 : Below B1 w w5) (hk5 : ∀ k, k < w.heap.size → some k ≠ av.ownBlock → w5.heap[k]? = w.heap[k]?) :
    SA B1 s (w5.setCell ⟨s, 10, none⟩ v5) g x y z j m uv c A ∧ AF B1 s w (w5.setCell ⟨s, 10, none⟩ v5) := by
  have h5 : StIs s w5 g x y z j av m uv c := (hb5.block s hlo).trans h
  have hsz := hb5.size
  refine ⟨⟨⟨v5, h5.acts v5, hA5.same fun b hb => Below.heap_setCell _ _ _ _ ?_⟩, hlo, ?_⟩, ⟨hb5.os, hb5.tape, hb5.output, ?_, fun k hk hs hc => (Below.heap_setCell _ _ _ _ hs).trans (hk5 k hk ?_)⟩⟩
  · have := (hA5.own b hb).1
    show b ≠ s
    omega
  · show B1 ≤ (w5.heap.modify s _).size
    rw [Array.size_modify]
    omega
  · show w.heap.size ≤ (w5.heap.modify s _).size
    rw [Array.size_modify]
    exact hsz
  · intro e
    obtain ⟨h1, cur, h2⟩ := hA0.own k e.symm
    rcases hc with hc | hc
    · omega
    · exact hc cur h2
set_option maxRecDepth 100000 in
set_option maxHeartbeats 1000000 in
theorem swrite {B1 s : Nat} {g x y z j m : Nat} {uv : Value} {c : Int} {A : List AT} (a : Int) (d : ByteArray) (hn : A.length ≤ 2000) (w : World) (h : SA B1 s w g x y z j m uv c A) :
    Calls Tryz.prog 105 #[.pointer (some ⟨s, 0, none⟩), .int .i64 a, .string d] w fun e w' => e = .returned (.tuple #[]) ∧ SA B1 s w' g x y z j m uv c (A ++ [⟨0, a, d⟩]) ∧ AF B1 s w w' := by
  obtain ⟨⟨av, h1, h2⟩, hlo, hhi⟩ := h
  have c10 : w.cell? ⟨s, 10, none⟩ = some av := (h1.cell 10).trans rfl
  have hsl := h1.lt
  have HS := hid h1
  have HA := hid h2
  clear h1 h2
  go_enter Tryz.func105, Tryz.ntmps105
  go_wp2_with (first
    | (at_builtin; refine pushA (w0 := w) rfl (.tmp 10) (.tmp 14) rfl B1 w.heap.size _ A ⟨0, a, d⟩ rfl rfl rfl HA.out (by omega) hhi ?_; intro v5 w5 hA5 hb5 hk5
       have HP := hid (push_end HS.out hlo hhi HA.out hA5 hb5 hk5)
       obtain ⟨ao5, cap5, e5, _, _⟩ := hA5.len
       rw [List.length_append] at e5
       have e5 : v5 = .slice ao5 (A.length + 1) cap5 := e5
       subst e5
       have h5 : StIs s w5 g x y z j av m uv c := (hb5.block s hlo).trans HS.out
       have d10 : w5.cell? ⟨s, 10, none⟩ = some av := (h5.cell 10).trans rfl
       have f10 := h5.free 10
       clear h5 hA5 hb5 hk5))
  go_end0
  exact ⟨rfl, HP.out⟩
set_option maxRecDepth 100000 in
set_option maxHeartbeats 1000000 in
theorem sflush {B1 s : Nat} {g x y z j m : Nat} {uv : Value} {c : Int} {A : List AT} (k : Int) (hn : A.length ≤ 2000) (w : World) (h : SA B1 s w g x y z j m uv c A) :
    Calls Tryz.prog 67 #[.pointer (some ⟨s, 0, none⟩), .int .i64 k] w fun e w' => e = .returned (.tuple #[]) ∧ SA B1 s w' g x y z j m uv c (A ++ [⟨k, 0, ByteArray.empty⟩]) ∧ AF B1 s w w' := by
  obtain ⟨⟨av, h1, h2⟩, hlo, hhi⟩ := h
  have c10 : w.cell? ⟨s, 10, none⟩ = some av := (h1.cell 10).trans rfl
  have hsl := h1.lt
  have HS := hid h1
  have HA := hid h2
  clear h1 h2
  go_enter Tryz.func67, Tryz.ntmps67
  go_wp2_with (first
    | (at_builtin; refine pushA (w0 := w) rfl (.tmp 8) (.tmp 11) rfl B1 w.heap.size _ A ⟨k, 0, ByteArray.empty⟩ rfl rfl rfl HA.out (by omega) hhi ?_; intro v5 w5 hA5 hb5 hk5
       have HP := hid (push_end HS.out hlo hhi HA.out hA5 hb5 hk5)
       obtain ⟨ao5, cap5, e5, _, _⟩ := hA5.len
       rw [List.length_append] at e5
       have e5 : v5 = .slice ao5 (A.length + 1) cap5 := e5
       subst e5
       have h5 : StIs s w5 g x y z j av m uv c := (hb5.block s hlo).trans HS.out
       have d10 : w5.cell? ⟨s, 10, none⟩ = some av := (h5.cell 10).trans rfl
       have f10 := h5.free 10
       clear h5 hA5 hb5 hk5))
  go_end0
  exact ⟨rfl, HP.out⟩
set_option maxRecDepth 100000 in
set_option maxHeartbeats 2000000 in
theorem slog {B1 s : Nat} {g x y z j m : Nat} {uv : Value} {c : Int} {A : List AT} (a : Int) (ha : 0 ≤ a ∧ a ≤ 1024) (d : ByteArray) (hn : A.length ≤ 2000) (w : World) (h : SA B1 s w g x y z j m uv c A) :
    Calls Tryz.prog 66 #[.pointer (some ⟨s, 0, none⟩), .agg #[.int .i64 a, .string d]] w fun e w' => e = .returned (.tuple #[]) ∧ SA B1 s w' g x y z j m uv c (A ++ [⟨0, 1 + a, d⟩]) ∧ AF B1 s w w' := by
  have HW := hid (fun w (h : SA B1 s w g x y z j m uv c A) => swrite (1 + a) d hn w h)
  have HS := hid (h.below (below_alloc w (.cells #[.int .i64 a, .string d] 120)))
  have hhi := h.hi
  obtain ⟨⟨av, h1, h2⟩, hlo, _⟩ := h
  have c4 : w.cell? ⟨s, 4, none⟩ = some (.int .i64 1) := (h1.cell 4).trans rfl
  have hsl := h1.lt
  clear h1 h2
  obtain ⟨ha1, ha2⟩ := ha
  go_enter Tryz.func66, Tryz.ntmps66
  go_wp2
  obtain ⟨w1, hw1⟩ : ∃ w1, w1 = w.alloc (.cells #[.int .i64 a, .string d] 120) := ⟨_, rfl⟩
  have hB1 : Below w.heap.size w w1 := by rw [hw1]; exact below_alloc w _
  have hv1 : w1.heap[w.heap.size]? = some (.cells #[.int .i64 a, .string d] 120 (0, 0)) := by rw [hw1]; exact box_at w _
  rw [← hw1] at HS ⊢
  have HB1 := hid hB1
  replace c4 := (hB1.cell (p := ⟨s, 4, none⟩) hsl).trans c4
  obtain ⟨v0, v1⟩ := two_cells hv1
  have HV1 := hid hv1
  have hne : w.heap.size ≠ s := by omega
  clear hB1 hv1 hw1 hsl
  have hwr : IntKind.i64.wrap (1 + a) = 1 + a := by rw [IntKind.wrap_i64]; omega
  go_region_held3 (fun w' => w'.cell? ⟨s, 4, none⟩ = some (.int .i64 1) ∧ w'.cell? ⟨w.heap.size, 0, none⟩ = some (.int .i64 a) ∧ w'.cell? ⟨w.heap.size, 1, none⟩ = some (.string d)) (first | exact ⟨c4, v0, v1⟩ | exact d5 | go_keep) (first
    | (go_at_call 105; refine (HW.out _ (by exact HS.out.below ⟨rfl, rfl, rfl, Nat.le_refl _, fun _ _ => rfl⟩)).mono ?_; rintro e w5 ⟨rfl, hs5, hk5⟩
       have HS5 := hid hs5
       have HK5 : Hid (AF B1 s w1 w5) := hid ⟨hk5.os, hk5.tape, hk5.output, hk5.size, hk5.block⟩
       have hv5 := HK5.out.cells HV1.out hne (by decide)
       clear hs5 hk5
       have d5 : w5.cell? ⟨s, 4, none⟩ = some (.int .i64 1) ∧ w5.cell? ⟨w.heap.size, 0, none⟩ = some (.int .i64 a) ∧ w5.cell? ⟨w.heap.size, 1, none⟩ = some (.string d) := ⟨by obtain ⟨av5, h51, _⟩ := HS5.out.ex; exact (h51.cell 4).trans rfl, (two_cells hv5).1, (two_cells hv5).2⟩
       clear hv5))
  all_goals
    go_wp2
    go_end0
    exact ⟨rfl, HS5.out, (AF.of_below HB1.out).trans HK5.out⟩
end Go.Proofs.YtopebghandojbaaGreat
namespace Go.Proofs.YtopebghandojbaaGreat
open Go.RowKit Go.Maps

set_option maxRecDepth 100000 in
theorem Tryz.info94 : (Tryz.prog.info? 94).map (fun i => (i.zero, i.size, i.bytes)) = some (some (.agg #[.int .i64 0, .string ⟨#[]⟩]), 2, 24) := by kernel_rfl
theorem cc_one' (l : List Chg) (u : Value) (hu : u ∈ cc l) : u.oneCell' = true := by
  simp only [cc, List.mem_flatMap] at hu
  obtain ⟨c, _, hc⟩ := hu
  simp [encC] at hc
  rcases hc with rfl | rfl <;> rfl
theorem eql_nil94 (w : World) (a : Addr) (n c : Nat) : (binOp .eql 24 (.slice (some a) n c) (.slice none 0 0)).run Tryz.prog w = .ok (.bool false) w := by
  exact Lib.run_eql_slice_nil (P := Tryz.prog) w 24 94 (some a) n c 0 0 Tryz.underlying24
set_option maxRecDepth 100000 in
set_option maxHeartbeats 1000000 in
theorem clone_any (v : Value) (L : List Chg) (h0 : L ≠ []) (hn : L.length ≤ 1000) (w : World) (h : CLie w v L) :
    Calls Tryz.prog 69 #[v] w fun e w' => ∃ v', e = .returned v' ∧ CLie w' v' L ∧ (∀ a, v'.ownBlock = some a → w.heap.size ≤ a ∧ a < w'.heap.size) ∧ (∃ ao cap, v' = .slice ao L.length cap) ∧ Below w.heap.size w w' := by
  obtain ⟨ao, cap, rfl, hlc, hcm, hcell⟩ := h
  have hpos : 0 < L.length := List.length_pos_iff.2 h0
  obtain ⟨gb, off, rfl, hgb, _⟩ := hcell 0 hpos
  have HC : Hid (∀ i (hi : i < L.length), w.cell? ⟨gb, off + i * 2, none⟩ = some (.int .i64 L[i].b) ∧ w.cell? ⟨gb, off + i * 2 + 1, none⟩ = some (.string L[i].d)) := by
    intro i hi
    obtain ⟨g', o', e, _, k1, k2⟩ := hcell i hi
    cases e
    exact ⟨k1, k2⟩
  clear hcell h0
  have hq := eql_nil94
  obtain ⟨i0, hi, hz0, hz1, hz2⟩ := info_parts Tryz.info94
  have HI := hid (And.intro hi (And.intro hz0 (And.intro hz1 hz2)))
  clear hi hz0 hz1 hz2
  have HR0 : Hid ((w.alloc (.cells #[] 94)).ownsRow w.heap.size 94 2 (.slice (some ⟨w.heap.size, 0, none⟩) 0 0) 0 []) := ⟨rfl, .inr ⟨w.heap.size, 0, #[], rfl, Nat.le_refl _, box_at _ _, by simp, by decide, by simp, by simp⟩⟩
  have HNW : Hid (∀ j u, (cc L)[j]? = some u → (w.alloc (.cells #[] 94)).cell? (Addr.add ⟨gb, off, none⟩ j) = some u) := by
    intro j u hu
    have hj : j < L.length * 2 := by
      have := (List.getElem?_eq_some_iff.1 hu).1
      rw [cc_len] at this; exact this
    rw [cc_get L j hj] at hu
    have hi : j / 2 < L.length := by omega
    rw [getElem!_pos L (j / 2) hi] at hu
    have k := HC.out (j / 2) hi
    have hb := below_alloc w (.cells #[] 94)
    rw [show Addr.add ⟨gb, off, none⟩ j = ⟨gb, off + j, none⟩ by simp [Addr.add]]
    rw [hb.cell (p := ⟨gb, off + j, none⟩) hgb]
    rcases Nat.mod_two_eq_zero_or_one j with h2 | h2
    · rw [h2] at hu
      rw [show off + j = off + j / 2 * 2 by omega, k.1, ← hu]; rfl
    · rw [h2] at hu
      rw [show off + j = off + j / 2 * 2 + 1 by omega, k.2, ← hu]; rfl
  go_enter Tryz.func69, Tryz.ntmps69
  go_wp2_with (first
    | (at_builtin; refine wpList_append_own _ rfl (.tmp 5) (.tmp 6) 24 rfl w.heap.size 94 i0 (.agg #[.int .i64 0, .string ⟨#[]⟩]) 2 24 Tryz.underlying24 HI.out.1 HI.out.2.1 HI.out.2.2.1 HI.out.2.2.2 rfl (by decide) (.slice (some ⟨w.heap.size, 0, none⟩) 0 0) 0 [] rfl HR0.out ⟨gb, off, none⟩ L.length cap (cc L) rfl (cc_len L) HNW.out (cc_one' L) (by unfold maxLen; omega) (by omega) (by simp) ?_; intro v5 w5 hown hg _))
  have HO : w5.ownsRow w.heap.size 94 2 v5 L.length (cc L) := by
    have := hown
    rw [Nat.zero_add, List.nil_append] at this
    exact this
  have hb5 : Below w.heap.size w w5 := (below_alloc w (.cells #[] 94)).trans ⟨hg.os, hg.tape, hg.output, hg.size, fun k hk => hg.block k (by simp; omega) (by intro e; have e : some k = some w.heap.size := e; cases e; omega)⟩
  go_ret
  refine ⟨v5, rfl, cc_lie HO, fun a ha => ?_, ?_, hb5⟩
  · obtain ⟨_, ⟨rfl, _⟩ | ⟨x, cp, cur, rfl, e4, e5, e6⟩⟩ := HO
    · cases ha
    · cases ha
      exact ⟨e4, lt_of_block e5⟩
  · obtain ⟨_, ⟨rfl, hz⟩ | ⟨x, cp, cur, rfl, e4, e5, e6⟩⟩ := HO
    · exact ⟨none, 0, by rw [hz]⟩
    · exact ⟨_, _, rfl⟩
end Go.Proofs.YtopebghandojbaaGreat
namespace Go.Proofs.YtopebghandojbaaGreat
open Go.RowKit Go.Maps

/-- nothing but a store's block, a journal and its row has changed -/
structure CF (s j : Nat) (r : Option Nat) (w w' : World) : Prop where
  os : w'.os = w.os
  tape : w'.tape = w.tape
  output : w'.output = w.output
  size : w.heap.size ≤ w'.heap.size
  block : ∀ k, k < w.heap.size → k ≠ s → k ≠ j → some k ≠ r → w'.heap[k]? = w.heap[k]?
theorem CF.of_below {s j : Nat} {r : Option Nat} {w w' : World} (h : Below w.heap.size w w') : CF s j r w w' := ⟨h.os, h.tape, h.output, h.size, fun k hk _ _ _ => h.block k hk⟩
theorem CF.bel {s j : Nat} {r : Option Nat} {w w1 w2 : World} (h : CF s j r w w1) (k : Below w1.heap.size w1 w2) : CF s j r w w2 :=
  ⟨k.os.trans h.os, k.tape.trans h.tape, k.output.trans h.output, Nat.le_trans h.size k.size, fun i hi h1 h2 h3 => (k.block i (Nat.lt_of_lt_of_le hi h.size)).trans (h.block i hi h1 h2 h3)⟩
theorem CF.jfr {s j : Nat} {r r' : Option Nat} {w w1 w2 : World} (h : CF s j r w w1) (hn : New w r r') (k : JFr j r' w1 w2) : CF s j r w w2 := by
  refine ⟨k.os.trans h.os, k.tape.trans h.tape, k.output.trans h.output, Nat.le_trans h.size k.size, fun i hi h1 h2 h3 => (k.block i (Nat.lt_of_lt_of_le hi h.size) h2 ?_).trans (h.block i hi h1 h2 h3)⟩
  rcases hn with rfl | ⟨x, rfl, hx⟩
  · exact h3
  · intro e; cases e; omega
theorem CF.af {s j B1 : Nat} {r : Option Nat} {w w1 w2 : World} (h : CF s j r w w1) (k : AF B1 s w1 w2) (hB : w.heap.size ≤ B1) : CF s j r w w2 :=
  ⟨k.os.trans h.os, k.tape.trans h.tape, k.output.trans h.output, Nat.le_trans h.size k.size, fun i hi h1 h2 h3 => (k.block i (Nat.lt_of_lt_of_le hi h.size) h1 (.inl (by omega))).trans (h.block i hi h1 h2 h3)⟩
theorem CF.set {s j : Nat} {r : Option Nat} {w w' : World} (h : CF s j r w w') (o : Nat) (v : Value) : CF s j r w (w'.setCell ⟨s, o, none⟩ v) :=
  ⟨h.os, h.tape, h.output, by simpa [World.setCell] using h.size, fun k hk h1 h2 h3 => (Below.heap_setCell _ _ _ _ h1).trans (h.block k hk h1 h2 h3)⟩
theorem CF.lie {s j : Nat} {r : Option Nat} {w w' : World} {v : Value} {L : List Chg} (h : CF s j r w w') (hL : CLie w v L) (hv : ∀ a, v.ownBlock = some a → a ≠ s ∧ a ≠ j ∧ some a ≠ r) : CLie w' v L := by
  obtain ⟨ao, cap, rfl, h1, h2, h3⟩ := hL
  refine ⟨ao, cap, rfl, h1, h2, fun i hi => ?_⟩
  obtain ⟨gb, off, rfl, hg, c0, c1⟩ := h3 i hi
  have k := hv gb rfl
  have e := h.block gb hg k.1 k.2.1 k.2.2
  refine ⟨gb, off, rfl, Nat.lt_of_lt_of_le hg h.size, ?_, ?_⟩
  · simp only [World.cell?] at c0 ⊢
    rw [e]; exact c0
  · simp only [World.cell?] at c1 ⊢
    rw [e]; exact c1
theorem JS.af {j s B1 : Nat} {r : Option Nat} {w w' : World} {P : Int} {T F S : Nat} {l : List Int} (h : JS j r w P T F S l) (k : AF B1 s w w') (hs : j ≠ s) (hr : r ≠ some s) (hj : j < B1) (hrl : ∀ x, r = some x → x < B1) : JS j r w' P T F S l := by
  have hl := h.lt
  obtain ⟨sv, h0, h1, h2⟩ := h
  refine ⟨sv, h0, (k.block j hl.1 hs (.inl hj)).trans h1, h2.same fun x hx => ?_⟩
  have hx' : r = some x := h0 ▸ hx
  exact k.block x (hl.2 x hx').1 (fun e => hr (by rw [hx', e])) (.inl (hrl x hx'))
theorem SA.jfr {B1 s j : Nat} {r : Option Nat} {w w' : World} {g x y z j' m : Nat} {uv : Value} {c : Int} {A : List AT} (h : SA B1 s w g x y z j' m uv c A) (k : JFr j r w w') (hs : s ≠ j) (hr : some s ≠ r) (hj : j < B1) (hrl : ∀ x, r = some x → x < B1) : SA B1 s w' g x y z j' m uv c A := by
  obtain ⟨⟨av, h1, h2⟩, h3, h4⟩ := h
  refine ⟨⟨av, (k.block s h1.lt hs hr).trans h1, h2.same fun b hb => ?_⟩, h3, Nat.le_trans h4 k.size⟩
  obtain ⟨hb1, cur, hb2⟩ := h2.own b hb
  exact k.block b (lt_of_block hb2) (by omega) (fun e => by have := hrl b e.symm; omega)
theorem SA.under {B1 s : Nat} {w : World} {g x y z j m : Nat} {uv : Value} {c : Int} {A : List AT} (h : SA B1 s w g x y z j m uv c A) (v : Value) : SA B1 s (w.setCell ⟨s, 12, none⟩ v) g x y z j m v c A := by
  obtain ⟨⟨av, h1, h2⟩, h3, h4⟩ := h
  refine ⟨⟨av, h1.under v, h2.same fun b hb => Below.heap_setCell _ _ _ _ ?_⟩, h3, ?_⟩
  · have := (h2.own b hb).1
    show b ≠ s
    omega
  · show B1 ≤ (w.heap.modify s _).size
    rw [Array.size_modify]
    exact h4
/-- the acts of a transaction's writes -/
def actsL (l : List Chg) : List AT := l.map fun c => ⟨0, 1 + c.b, c.d⟩
theorem actsL_len (l : List Chg) : (actsL l).length = l.length := by simp [actsL]
theorem actsL_take (l : List Chg) (q : Nat) (h : q < l.length) : (actsL l).take (q + 1) = (actsL l).take q ++ [⟨0, 1 + l[q].b, l[q].d⟩] := by
  rw [List.take_succ_eq_append_getElem (by rw [actsL_len]; exact h)]
  simp [actsL]
theorem wrL_bound (P : Int) (hP : 0 < P) : ∀ (h : Int) (B : List ByteArray) (c : Chg), c ∈ wrL P h B → 0 ≤ c.b ∧ c.b ≤ P
  | _, [], c, hc => by simp [wrL] at hc
  | h, b :: B, c, hc => by
    simp only [wrL, List.mem_cons] at hc
    rcases hc with rfl | hc
    · have h1 := Int.emod_nonneg h (show P ≠ 0 by omega)
      have h2 := Int.emod_lt_of_pos h hP
      exact ⟨by show 0 ≤ 1 + h % P; omega, by show 1 + h % P ≤ P; omega⟩
    · exact wrL_bound P hP (h + 1) B c hc
set_option maxRecDepth 100000 in
set_option maxHeartbeats 4000000 in
theorem commit_ok {s g x y z j m : Nat} {uv : Value} {c : Int} {r : Option Nat} {T F S : Nat} {l : List Int} (v : Value) (L : List Chg) (hok : Sh.okS x y z) (h0 : L ≠ []) (hr : right L = true) (hwi : withinB (1 + y) x L = true) (hT : (T : Int) < (y : Int) - 1) (hF0 : 1 ≤ F) (hF : F + l.length ≤ 1099511627776) (hl : l.length ≤ 299) (hn : ∀ x ∈ l, 0 ≤ x) (hsum : sumI l + L.length + 1 ≤ (y : Int) - 1) (w : World) (hst : StIs s w g x y z j (.slice none 0 0) m uv c) (hj : JS j r w ((y : Int) - 1) T F S l) (hL : CLie w v L) (hsj : s ≠ j) (hsr : some s ≠ r) (hva : ∀ a, v.ownBlock = some a → a ≠ s ∧ a ≠ j ∧ some a ≠ r) :
    Calls Tryz.prog 14 #[.pointer (some ⟨s, 0, none⟩), v] w fun e w' => e = .returned (.int .i64 0) ∧ ∃ B1 uv' r', w.heap.size ≤ B1 ∧ SA B1 s w' g x y z j m uv' c (actsL (wrL ((y : Int) - 1) (T + sumI l) (encL (F + l.length) L)) ++ [⟨1, 0, ByteArray.empty⟩, ⟨0, 1, hdB T F (F + (l.length + 1))⟩, ⟨3, 0, ByteArray.empty⟩]) ∧ CLie w' uv' L ∧ (∀ a, uv'.ownBlock = some a → w.heap.size ≤ a ∧ a < w'.heap.size) ∧
      JS j r' w' ((y : Int) - 1) T F (l.length + 1) (l ++ [(L.length : Int) + 1]) ∧ New w r r' ∧ CF s j r w w' := by
  have h48 := right_len hr
  have hs0 := sumI_nn hn
  have hy := hok.1.2.1
  have hx := hok.1.1
  have HCK := hid (check_any v L w hL)
  rw [hr] at HCK
  simp only [if_true] at HCK
  have HNO := hid (fun w (h : StIs s w g x y z j (.slice none 0 0) m uv c) => snone_any w h)
  have HBU := hid (fun w (h : StIs s w g x y z j (.slice none 0 0) m uv c) => busy_any w h)
  have HWI := hid (fun w (h : CLie w v L) (r2 r3 r4 : Int) => within_any v L x y z 1 (1 + y) r2 r3 r4 w h)
  rw [hwi] at HWI
  have HNX := hid (fun w h => jnext j r ((y : Int) - 1) T F S l (by omega) (by omega) (by omega) w h)
  have HFR := hid (fun w h => jfree j r ((y : Int) - 1) T F S l (by omega) (by omega) hn (by omega) w h)
  have HAP := hid (fun w h hL => jappend j r ((y : Int) - 1) T F S l v L (by omega) (by omega) (by omega) hF0 (by omega) (by omega) hn (by omega) hr w h hL)
  have hcl := hL
  obtain ⟨ao, cap, hve, hlc, hcm, _⟩ := hL
  have HL := hid hcl
  have HST := hid hst
  have HJ := hid hj
  have HVA := hid hva
  clear hcl hva hj
  have hsl := hst.lt
  have c1 : w.cell? ⟨s, 1, none⟩ = some (.int .i64 x) := (hst.cell 1).trans rfl
  have c2 : w.cell? ⟨s, 2, none⟩ = some (.int .i64 y) := (hst.cell 2).trans rfl
  have c3 : w.cell? ⟨s, 3, none⟩ = some (.int .i64 z) := (hst.cell 3).trans rfl
  have c4 : w.cell? ⟨s, 4, none⟩ = some (.int .i64 1) := (hst.cell 4).trans rfl
  have c5 : w.cell? ⟨s, 5, none⟩ = some (.int .i64 (1 + (y : Int))) := (hst.cell 5).trans rfl
  have c6 : w.cell? ⟨s, 6, none⟩ = some (.int .i64 (2 + (y : Int))) := (hst.cell 6).trans rfl
  have c7 : w.cell? ⟨s, 7, none⟩ = some (.int .i64 (2 + (y : Int) + ((z : Int) + 3) / 4)) := (hst.cell 7).trans rfl
  have c8 : w.cell? ⟨s, 8, none⟩ = some (.int .i64 ((x : Int) - (2 + (y : Int) + ((z : Int) + 3) / 4))) := (hst.cell 8).trans rfl
  clear hst
  obtain ⟨A, hA⟩ : ∃ A, A = sumI l := ⟨_, rfl⟩
  rw [← hA] at HFR HAP hsum hs0 ⊢
  clear hA hn
  have HWL : Hid (∀ W, W = wrL ((y : Int) - 1) (T + A) (encL (F + l.length) L) → W.length = L.length + 1 ∧ ∀ c ∈ W, 0 ≤ c.b ∧ c.b ≤ 1024) := by
    intro W hW
    refine ⟨by rw [hW, wrL_len, encL_len], fun c hc => ?_⟩
    have := wrL_bound ((y : Int) - 1) (by omega) _ _ c (by rw [← hW]; exact hc)
    exact ⟨this.1, by omega⟩
  obtain ⟨W, hW⟩ : ∃ W, W = wrL ((y : Int) - 1) (T + A) (encL (F + l.length) L) := ⟨_, rfl⟩
  have hWl := (HWL.out W hW).1
  have HWB := hid (HWL.out W hW).2
  clear HWL
  rw [← hW] at HAP ⊢
  clear hW
  subst hve
  go_enter Tryz.func14, Tryz.ntmps14
  go_upto_region 8 with (first
    | (go_at_call 63; refine HCK.out.mono ?_; rintro e w1 ⟨rfl, hb1⟩; have HB1 := hid hb1; clear hb1)
    | (go_at_call 62; refine (HNO.out _ (HST.out.below HB1.out)).mono ?_; rintro e w1' ⟨rfl, hw⟩; have hw := hw.symm; subst hw))
  replace c1 := (HB1.out.cell (p := ⟨s, 1, none⟩) hsl).trans c1
  replace c2 := (HB1.out.cell (p := ⟨s, 2, none⟩) hsl).trans c2
  replace c3 := (HB1.out.cell (p := ⟨s, 3, none⟩) hsl).trans c3
  replace c4 := (HB1.out.cell (p := ⟨s, 4, none⟩) hsl).trans c4
  replace c5 := (HB1.out.cell (p := ⟨s, 5, none⟩) hsl).trans c5
  replace c6 := (HB1.out.cell (p := ⟨s, 6, none⟩) hsl).trans c6
  replace c7 := (HB1.out.cell (p := ⟨s, 7, none⟩) hsl).trans c7
  replace c8 := (HB1.out.cell (p := ⟨s, 8, none⟩) hsl).trans c8
  have hsl1 : s < w1.heap.size := Nat.lt_of_lt_of_le hsl HB1.out.size
  go_cut [30] (fun v30 wx => v30 = .bool false ∧ Below w.heap.size w wx)
  case first =>
    go_region_held3 (fun w' => w'.cell? ⟨s, 1, none⟩ = some (.int .i64 x) ∧ w'.cell? ⟨s, 2, none⟩ = some (.int .i64 y) ∧ w'.cell? ⟨s, 3, none⟩ = some (.int .i64 z) ∧ w'.cell? ⟨s, 4, none⟩ = some (.int .i64 1) ∧ w'.cell? ⟨s, 5, none⟩ = some (.int .i64 (1 + (y : Int))) ∧ w'.cell? ⟨s, 6, none⟩ = some (.int .i64 (2 + (y : Int))) ∧ w'.cell? ⟨s, 7, none⟩ = some (.int .i64 (2 + (y : Int) + ((z : Int) + 3) / 4)) ∧ w'.cell? ⟨s, 8, none⟩ = some (.int .i64 ((x : Int) - (2 + (y : Int) + ((z : Int) + 3) / 4)))) (first | exact ⟨c1, c2, c3, c4, c5, c6, c7, c8⟩ | exact d2 | go_keep) (first
      | (go_at_call 42; refine (HWI.out _ (by exact HL.out.below (HB1.out.next ⟨rfl, rfl, rfl, Nat.le_refl _, fun _ _ => rfl⟩)) _ _ _).mono ?_; rintro e w2 ⟨rfl, hb2⟩
         have hb2 : Below w1.heap.size w1 w2 := ⟨hb2.os, hb2.tape, hb2.output, hb2.size, hb2.block⟩
         have HB2 := hid (HB1.out.next hb2)
         have d2 : w2.cell? ⟨s, 1, none⟩ = some (.int .i64 x) ∧ w2.cell? ⟨s, 2, none⟩ = some (.int .i64 y) ∧ w2.cell? ⟨s, 3, none⟩ = some (.int .i64 z) ∧ w2.cell? ⟨s, 4, none⟩ = some (.int .i64 1) ∧ w2.cell? ⟨s, 5, none⟩ = some (.int .i64 (1 + (y : Int))) ∧ w2.cell? ⟨s, 6, none⟩ = some (.int .i64 (2 + (y : Int))) ∧ w2.cell? ⟨s, 7, none⟩ = some (.int .i64 (2 + (y : Int) + ((z : Int) + 3) / 4)) ∧ w2.cell? ⟨s, 8, none⟩ = some (.int .i64 ((x : Int) - (2 + (y : Int) + ((z : Int) + 3) / 4))) := ⟨(hb2.cell (p := ⟨s, 1, none⟩) hsl1).trans c1, (hb2.cell (p := ⟨s, 2, none⟩) hsl1).trans c2, (hb2.cell (p := ⟨s, 3, none⟩) hsl1).trans c3, (hb2.cell (p := ⟨s, 4, none⟩) hsl1).trans c4, (hb2.cell (p := ⟨s, 5, none⟩) hsl1).trans c5, (hb2.cell (p := ⟨s, 6, none⟩) hsl1).trans c6, (hb2.cell (p := ⟨s, 7, none⟩) hsl1).trans c7, (hb2.cell (p := ⟨s, 8, none⟩) hsl1).trans c8⟩
         clear hb2))
    all_goals
      go_wp2
      go_meet
      exact ⟨rfl, HB2.out⟩
  case rest =>
    obtain ⟨rfl, hb3⟩ := hcut
    rename World => w3
    have HB3 := hid hb3
    clear hb3 c1 c3 c4 c5 c6 c7 c8 HWI HCK
    have c9 : w3.cell? ⟨s, 9, none⟩ = some (.pointer (some ⟨j, 0, none⟩)) := ((HST.out.below HB3.out).cell 9).trans rfl
    have e2 : w3.cell? ⟨s, 2, none⟩ = some (.int .i64 y) := ((HST.out.below HB3.out).cell 2).trans rfl
    go_upto_region 17 with (first
      | (go_at_call 21; refine (HBU.out _ (by exact HST.out.below HB3.out)).mono ?_; rintro e w4 ⟨rfl, hw⟩; have hw := hw.symm; subst hw)
      | (go_at_call 54; refine (HNX.out _ (by exact HJ.out.below HB3.out)).mono ?_; rintro e w4 ⟨rfl, q4, hw⟩; have hw := hw.symm; subst hw)
      | (go_at_call 64; refine (HFR.out _ (by exact HJ.out.below (HB3.out.next ⟨rfl, rfl, rfl, Nat.le_refl _, fun _ _ => rfl⟩))).mono ?_; rintro e w4 ⟨rfl, q5, hw⟩; have hw := hw.symm; subst hw))
    have HB4 : Hid (Below w.heap.size w (w3.drewN (q4 + q5))) := hid (HB3.out.next ⟨rfl, rfl, rfl, Nat.le_refl _, fun _ _ => rfl⟩)
    obtain ⟨w4, hw4⟩ : ∃ w4, w4 = w3.drewN (q4 + q5) := ⟨_, rfl⟩
    rw [← hw4] at HB4 ⊢
    clear hw4 c9 e2 HNX HFR HBU HNO
    have c9 : w4.cell? ⟨s, 9, none⟩ = some (.pointer (some ⟨j, 0, none⟩)) := ((HST.out.below HB4.out).cell 9).trans rfl
    go_wp2_with (first
      | (go_at_call 65; refine (HAP.out _ (by exact HJ.out.below HB4.out) (by exact HL.out.below HB4.out)).mono ?_; rintro e w6 ⟨wb, r', rfl, hwb, hwr, hcw, hj6, hn6, hf6⟩
         have HCW := hid hcw
         have HJ6 := hid hj6
         have HN6 := hid hn6
         have HF6 := hid hf6
         clear hcw hj6 hn6 hf6))
    have hs4 : s < w4.heap.size := Nat.lt_of_lt_of_le hsl HB4.out.size
    have hjl := HJ6.out.lt
    have HRL : Hid (∀ a, r' = some a → a < w6.heap.size) := hid fun a ha => (hjl.2 a ha).1
    have hj1 := hjl.1
    clear hjl
    have h46 := HF6.out.size
    have HS6 : Hid (SA w6.heap.size s w6 g x y z j m uv c []) := hid ⟨⟨_, (HF6.out.block s hs4 hsj hsr).trans (HST.out.below HB4.out), ARow.nil _ _⟩, by omega, Nat.le_refl _⟩
    have HC6 : Hid (CF s j r w w6) := hid ((CF.of_below HB4.out).jfr (.inl rfl) HF6.out)
    have hsr' : some s ≠ r' := by
      rcases HN6.out with e | ⟨k, e, hk⟩
      · rw [e]; exact hsr
      · rw [e]; intro e; cases e; omega
    have HNW : Hid (New w r r') := by
      rcases HN6.out with e | ⟨k, e, hk⟩
      · exact .inl e
      · exact .inr ⟨k, e, Nat.le_trans HB4.out.size hk⟩
    have HWC : Hid (wb < w6.heap.size ∧ ∀ i (hi : i < W.length), w6.cell? ⟨wb, i * 2, none⟩ = some (.int .i64 W[i].b) ∧ w6.cell? ⟨wb, i * 2 + 1, none⟩ = some (.string W[i].d)) := by
      obtain ⟨ao', cap', e, _, _, hcell⟩ := HCW.out
      injection e with e1 _ _
      subst e1
      have hwl : 0 < W.length := by omega
      refine ⟨?_, fun i hi => ?_⟩
      · obtain ⟨gb, off, e, hg, _⟩ := hcell 0 hwl
        cases e
        exact hg
      · obtain ⟨gb, off, e, hg, k0, k1⟩ := hcell i hi
        cases e
        rw [Nat.zero_add] at k0 k1
        exact ⟨k0, k1⟩
    have hwbs : wb ≠ s := by omega
    clear c9 HAP
    go_loopw [72] (fun i wr => ∃ q : Nat, i = .int .i64 q ∧ q ≤ W.length ∧ SA w6.heap.size s wr g x y z j m uv c ((actsL W).take q) ∧ AF w6.heap.size s w6 wr) (fun i _ => W.length - (intOf i).toNat)
    case atStart => exact ⟨0, rfl, Nat.zero_le _, HS6.out, AF.refl _ _ _⟩
    case round =>
      obtain ⟨q, rfl, hq, hsq, haq⟩ := hrel
      have HSq := hid hsq
      have HAq := hid haq
      clear hsq haq
      by_cases hqw : q < W.length
      · obtain ⟨k0, k1⟩ := HWC.out.2 q hqw
        have hbe := HAq.out.block wb HWC.out.1 hwbs (.inl HWC.out.1)
        have g0 : wr.cell? ⟨wb, q * 2, none⟩ = some (.int .i64 W[q].b) := by
          simp only [World.cell?] at k0 ⊢
          rw [hbe]; exact k0
        have g1 : wr.cell? ⟨wb, q * 2 + 1, none⟩ = some (.string W[q].d) := by
          simp only [World.cell?] at k1 ⊢
          rw [hbe]; exact k1
        have HTK := hid (actsL_take W q hqw)
        have hcb := HWB.out W[q] (List.getElem_mem hqw)
        obtain ⟨cq, hcq⟩ : ∃ cq, cq = W[q] := ⟨_, rfl⟩
        rw [← hcq] at g0 g1 HTK hcb
        have HLG := hid (fun w (h : SA w6.heap.size s w g x y z j m uv c ((actsL W).take q)) => slog cq.b hcb cq.d (by rw [List.length_take, actsL_len]; omega) w h)
        have hwbr : wb < wr.heap.size := Nat.lt_of_lt_of_le HWC.out.1 HAq.out.size
        clear k0 k1 hbe hcq hcb
        go_wp2_with (first
          | (go_at_call 66; refine (HLG.out _ (by exact HSq.out.below (below_alloc _ _))).mono ?_; rintro e w7 ⟨rfl, hs7, ha7⟩))
        go_roundw
        case rel =>
          refine ⟨q + 1, by go_num, by omega, ?_, (HAq.out.trans (AF.of_below (below_alloc _ _))).trans ha7⟩
          rw [HTK.out]; exact hs7
        case measure => simp only [intOf] at *; omega
      · have hqe : q = W.length := by omega
        have HS7 : Hid (SA w6.heap.size s wr g x y z j m uv c (actsL W)) := by
          have k := HSq.out
          rw [hqe, List.take_of_length_le (by rw [actsL_len]; omega)] at k
          exact hid k
        subst hqe
        have HFL1 := hid (fun w (h : SA w6.heap.size s w g x y z j m uv c (actsL W)) => sflush 1 (by rw [actsL_len]; omega) w h)
        have HSE := hid (fun w (h : JS j r' w ((y : Int) - 1) T F S (l ++ [(L.length : Int) + 1])) => jseal j r' ((y : Int) - 1) T F S (l ++ [(L.length : Int) + 1]) (by omega) (by omega) (by rw [List.length_append]; show F + (l.length + 1) ≤ _; omega) w h)
        rw [List.length_append] at HSE
        have HLG := hid (fun w (h : SA w6.heap.size s w g x y z j m uv c (actsL W ++ [⟨1, 0, ByteArray.empty⟩])) => slog 0 ⟨by decide, by decide⟩ (hdB T F (F + (l.length + 1))) (by rw [List.length_append, actsL_len]; show W.length + 1 ≤ _; omega) w h)
        have HFL3 := hid (fun w (h : SA w6.heap.size s w g x y z j m uv c (actsL W ++ [⟨1, 0, ByteArray.empty⟩] ++ [⟨0, 1 + 0, hdB T F (F + (l.length + 1))⟩])) => sflush 3 (by rw [List.length_append, List.length_append, actsL_len]; show W.length + 1 + 1 ≤ _; omega) w h)
        have HCL := hid (fun w h => clone_any (.slice ao L.length cap) L h0 (by omega) w h)
        obtain ⟨hdr, hhdr⟩ : ∃ hdr, hdr = hdB T F (F + (l.length + 1)) := ⟨_, rfl⟩
        have HSE' : Hid (∀ w, JS j r' w ((y : Int) - 1) T F S (l ++ [(L.length : Int) + 1]) → Calls Tryz.prog 68 #[.pointer (some ⟨j, 0, none⟩)] w fun e w' => e = .returned (.agg #[.int .i64 0, .string hdr]) ∧ JS j r' w' ((y : Int) - 1) T F (l.length + 1) (l ++ [(L.length : Int) + 1]) ∧ JFr j r' w w') := by
          rw [hhdr]; exact HSE
        rw [← hhdr] at HLG HFL3
        have HHD := hid hhdr
        clear HSE hhdr
        have hw6 : w.heap.size ≤ w6.heap.size := HC6.out.size
        have g9 : wr.cell? ⟨s, 9, none⟩ = some (.pointer (some ⟨j, 0, none⟩)) := by
          obtain ⟨av, k, _⟩ := HS7.out.ex
          exact (k.cell 9).trans rfl
        go_wp2_with (first
          | (go_at_call 69; refine (HCL.out _ (by exact HC11.out.lie HL.out HVA.out)).mono ?_; rintro e w12 ⟨v12, rfl, hc12, ho12, ⟨a12, p12, rfl⟩, hb12⟩
             have HS12 := hid (HS11.out.below hb12)
             have HC12 := hid (HC11.out.bel hb12)
             have HCL12 := hid hc12
             have HO12 := hid ho12
             have HJ12 := hid (HJ11.out.below hb12)
             have HZ12 := hid (HC11.out.size)
             clear hc12 ho12 hb12
             obtain ⟨u12, t12, f12⟩ : ∃ u, w12.cell? ⟨s, 12, none⟩ = some u ∧ w12.frozen? ⟨s, 12, none⟩ = false := by
               obtain ⟨av, k, _⟩ := HS12.out.ex
               exact ⟨uv, (k.cell 12).trans rfl, k.free 12⟩)
          | (go_at_call 67; have hk := HS10; clear hk; refine (HFL3.out _ (by exact HS10.out)).mono ?_; rintro e w11 ⟨rfl, hs11, ha11⟩
             have HS11 := hid hs11
             have HC11 := hid (HC10.out.af ha11 hw6)
             have HJ11 := hid (HJ10.out.af ha11 (Ne.symm hsj) (Ne.symm hsr') hj1 HRL.out)
             clear hs11 ha11)
          | (go_at_call 66; refine (HLG.out _ (by exact HS9.out)).mono ?_; rintro e w10 ⟨rfl, hs10, ha10⟩
             have HS10 := hid hs10
             have HC10 := hid (HC9.out.af ha10 hw6)
             have HJ10 := hid (HJ9.out.af ha10 (Ne.symm hsj) (Ne.symm hsr') hj1 HRL.out)
             clear hs10 ha10)
          | (go_at_call 68; refine (HSE'.out _ (by exact HJ8.out)).mono ?_; rintro e w9 ⟨rfl, hj9, hf9⟩
             have HJ9 := hid hj9
             have HS9 := hid (HS8.out.jfr hf9 hsj hsr' hj1 HRL.out)
             have HC9 := hid (HC8.out.jfr HNW.out hf9)
             clear hj9 hf9)
          | (go_at_call 67; refine (HFL1.out _ (by exact HS7.out)).mono ?_; rintro e w8 ⟨rfl, hs8, ha8⟩
             have HS8 := hid hs8
             have HC8 := hid ((HC6.out.af HAq.out hw6).af ha8 hw6)
             have HJ8 := hid (HJ6.out.af (HAq.out.trans ha8) (Ne.symm hsj) (Ne.symm hsr') hj1 HRL.out)
             have g9 : w8.cell? ⟨s, 9, none⟩ = some (.pointer (some ⟨j, 0, none⟩)) := by
               obtain ⟨av, k, _⟩ := HS8.out.ex
               exact (k.cell 9).trans rfl
             clear hs8 ha8))
        go_ret
        refine ⟨rfl, w6.heap.size, .slice a12 L.length p12, r', hw6, ?_, ?_, ?_, HJ12.out.set hsj hsr' _ _, HNW.out, HC12.out.set 12 _⟩
        · have k := HS12.out.under (.slice a12 L.length p12)
          rw [List.append_assoc, List.append_assoc, HHD.out] at k
          exact k
        · refine HCL12.out.same (by show _ ≤ (w12.heap.modify s _).size; rw [Array.size_modify]; exact Nat.le_refl _) fun a ha => Below.heap_setCell _ _ _ _ ?_
          have k1 := (HO12.out a ha).1
          have k2 := HZ12.out
          show a ≠ s
          omega
        · intro a ha
          have k1 := HO12.out a ha
          have k2 := HZ12.out
          refine ⟨by omega, ?_⟩
          show a < (w12.heap.modify s _).size
          rw [Array.size_modify]
          exact k1.2
end Go.Proofs.YtopebghandojbaaGreat
namespace Go.Proofs.YtopebghandojbaaGreat
open Go.RowKit Go.Maps
set_option maxRecDepth 100000 in
/-- Read of a store: what is not laid yet, else what the device has -/
theorem sread {base g N Nm s x y z j m : Nat} {S : Dv.DS} {fp : List Nat} {av uv : Value} {c : Int} {M : List Chg} (k : Nat) (hk : k < S.n) (w : World) (hst : StIs s w g x y z j av m uv c) (hD : Dv.DIs base g w N S fp) (hM : Um.MIs m w Nm M) :
    Calls Tryz.prog 23 #[.pointer (some ⟨s, 0, none⟩), .int .i64 (k : Int)] w fun e w' => e = .returned (.tuple #[.string (match Um.lookL M k with | some c => c.d | none => (Dv.seen S.L S.Q k).getD Dv.Z), .int .i64 0]) ∧ Below w.heap.size w w' := by
  have hn2 := hD.n2
  have HN := hid (snone_any w hst)
  have HR := hid (fun w' (hb : Below w.heap.size w w') => Dv.read_any k hk w' (hD.below hb))
  have hl := hM.look k ⟨by omega, by omega⟩
  have c0 : w.cell? ⟨s, 0, none⟩ = some (.pointer (some ⟨g, 0, none⟩)) := (hst.cell 0).trans rfl
  have c11 : w.cell? ⟨s, 11, none⟩ = some (.map (some m)) := (hst.cell 11).trans rfl
  have hsl := hst.lt
  clear hst hD hM
  cases hL : Um.lookL M k with
  | some q =>
    rw [hL] at hl
    simp only [Option.getD_some, Option.isSome_some, valC] at hl ⊢
    go_enter Tryz.func23, Tryz.ntmps23
    go_wp2_with (first | (go_at_call 62; refine HN.out.mono ?_; rintro e w1 ⟨rfl, hw⟩; have hw := hw.symm; subst hw))
    go_ret2
    exact ⟨rfl, below_alloc _ _⟩
  | none =>
    rw [hL] at hl
    simp only [Option.getD_none, Option.isSome_none, valC] at hl ⊢
    go_enter Tryz.func23, Tryz.ntmps23
    go_wp2_with (first
      | (go_at_call 62; refine HN.out.mono ?_; rintro e w1 ⟨rfl, hw⟩; have hw := hw.symm; subst hw)
      | (go_at_call 25; refine (HR.out _ (below_alloc _ _)).mono ?_; rintro e w2 ⟨rfl, hb2⟩))
    go_ret2
    exact ⟨rfl, (below_alloc _ _).next hb2⟩
end Go.Proofs.YtopebghandojbaaGreat
namespace Go.Proofs.YtopebghandojbaaGreat
open Go.RowKit Go.Maps

theorem CLie.only {fp : List Nat} {w w' : World} {v : Value} {L : List Chg} (h : Dv.Only fp w w') (hL : CLie w v L) (hv : ∀ a, v.ownBlock = some a → a ∉ fp) : CLie w' v L := by
  obtain ⟨ao, cap, rfl, h1, h2, h3⟩ := hL
  refine ⟨ao, cap, rfl, h1, h2, fun i hi => ?_⟩
  obtain ⟨gb, off, rfl, hg, c0, c1⟩ := h3 i hi
  have e := h.block gb hg (hv gb rfl)
  refine ⟨gb, off, rfl, Nat.lt_of_lt_of_le hg h.size, ?_, ?_⟩
  · simp only [World.cell?] at c0 ⊢
    rw [e]; exact c0
  · simp only [World.cell?] at c1 ⊢
    rw [e]; exact c1
set_option maxRecDepth 100000 in
set_option maxHeartbeats 2000000 in
/-- keep: the changes stand in the map of what is not laid -/
theorem keep_any {s g x y z j m N : Nat} {av uv : Value} {c : Int} {M : List Chg} (v : Value) (L : List Chg) (hI : ∀ c ∈ L, inI c.b) (hN : N + L.length < 100000) (w : World) (hst : StIs s w g x y z j av m uv c) (hM : Um.MIs m w N M) (hL : CLie w v L) (hms : m ≠ s) (hv : ∀ a, v.ownBlock = some a → a ≠ m) :
    Calls Tryz.prog 55 #[.pointer (some ⟨s, 0, none⟩), v] w fun e w' => e = .returned (.tuple #[]) ∧ Um.MIs m w' (N + L.length) (Um.mergeL M L) ∧ Dv.Only [m] w w' := by
  have HL := hid hL
  have HV := hid hv
  have HST := hid hst
  have HI := hid hI
  have HM := hid hM
  obtain ⟨ao, cap, rfl, hlc, hcm, _⟩ := hL
  clear hv hst hI hM
  unfold maxLen at hcm
  go_enter Tryz.func55, Tryz.ntmps55
  go_wp2
  go_loopw [8] (fun i wr => ∃ q : Nat, i = .int .i64 q ∧ q ≤ L.length ∧ Um.MIs m wr (N + q) (Um.mergeL M (L.take q)) ∧ Dv.Only [m] w wr) (fun i _ => L.length - (intOf i).toNat)
  case atStart => exact ⟨0, rfl, Nat.zero_le _, HM.out, Dv.Only.refl _ _⟩
  case round =>
    obtain ⟨q, rfl, hq, hMq, hOq⟩ := hrel
    have HMq := hid hMq
    have HOq := hid hOq
    clear hMq hOq
    by_cases hql : q < L.length
    · have hSt := HST.out.only HOq.out (by simp; exact Ne.symm hms)
      have c11 : wr.cell? ⟨s, 11, none⟩ = some (.map (some m)) := (hSt.cell 11).trans rfl
      have hsl := hSt.lt
      obtain ⟨ao', cap', e, _, _, hcell⟩ := CLie.only HOq.out HL.out (fun a ha => by simp; exact HV.out a ha)
      cases e
      obtain ⟨gb, off, rfl, hgl, c0, c1⟩ := hcell q hql
      have hin := HI.out L[q] (List.getElem_mem hql)
      have HTK : Hid (Um.mergeL M (L.take (q + 1)) = Um.withL (Um.mergeL M (L.take q)) L[q]) := by
        show _ = _
        rw [List.take_succ_eq_append_getElem hql, Um.mergeL_snoc]
      obtain ⟨cq, hcq⟩ : ∃ cq, cq = L[q] := ⟨_, rfl⟩
      rw [← hcq] at c0 c1 hin HTK
      clear hcq hcell hSt
      have hml := HMq.out.lt
      obtain ⟨w1, hrun, hM1, hg1, hs1⟩ := Um.MIs.store (w := (wr.alloc (.cells #[.int .i64 cq.b, .string cq.d] 94)).drew) (HMq.out.same (Below.heap_alloc _ _ _ hml)) (by omega) cq hin
      unfold valC at hrun
      have HM1 := hid hM1
      have HG1 := hid hg1
      clear hM1 hg1 hs1 hin
      go_wp2
      go_region
      have hg : (wr.alloc (.cells #[.int .i64 cq.b, .string cq.d] 94)).grownBy w1 (some m) := ⟨HG1.out.os, HG1.out.tape, HG1.out.output, HG1.out.size, HG1.out.block⟩
      have HO1 : Hid (Dv.Only [m] w w1) := hid ((HOq.out.trans (Dv.Only.of_below (fp := [m]) (below_alloc wr _)) (fun _ hx => .inl hx)).trans (Dv.Only.of_grown (fp := [m]) hg (by simp)) (fun _ hx => .inl hx))
      clear hg hrun c0 c1 c11
      go_wp2
      go_roundw
      case rel =>
        refine ⟨q + 1, by go_num, by omega, ?_, HO1.out⟩
        rw [HTK.out]
        exact HM1.out
      case measure => simp only [intOf] at *; omega
    · have hqe : q = L.length := by omega
      subst hqe
      go_wp2
      go_end0
      have k := HMq.out
      rw [List.take_of_length_le (Nat.le_refl _)] at k
      exact ⟨rfl, k, HOq.out⟩
end Go.Proofs.YtopebghandojbaaGreat
namespace Go.Proofs.YtopebghandojbaaGreat
open Go.RowKit Go.Maps

set_option maxRecDepth 100000 in
set_option maxHeartbeats 2000000 in
theorem do_write {base s g x y z j m N : Nat} {S : Dv.DS} {fp : List Nat} {av uv : Value} {c : Int} (a : Nat) (d : ByteArray) (hd : d.size = 128) (ha : a < S.n) (hN : N ≤ 100000000) (hQ : S.Q.length ≤ 100000) (w : World) (hst : StIs s w g x y z j av m uv c) (hD : Dv.DIs base g w N S fp) (hb : base ≤ w.heap.size) (hs : s ∉ fp) :
    Calls Tryz.prog 74 #[.pointer (some ⟨s, 0, none⟩), .agg #[.int .i64 0, .int .i64 (a : Int), .string d]] w fun e w' => e = .returned (.tuple #[]) ∧ ∃ fp', Dv.DIs base g w' (N + 1) ⟨S.n, S.L, S.Q ++ [(a, d)]⟩ fp' ∧ Dv.Only fp w w' ∧ ∀ k ∈ fp', k ∈ fp ∨ w.heap.size ≤ k := by
  have HWR : Hid (∀ w', Dv.DIs base g w' N S fp → base ≤ w'.heap.size → Calls Tryz.prog 29 #[.pointer (some ⟨g, 0, none⟩), .int .i64 (a : Int), .string d] w' fun e w'' => e = .returned (.int .i64 0) ∧ ∃ fp', Dv.DIs base g w'' (N + 1) ⟨S.n, S.L, S.Q ++ [(a, d)]⟩ fp' ∧ Dv.Only fp w' w'' ∧ ∀ k ∈ fp', k ∈ fp ∨ w'.heap.size ≤ k) := by
    refine hid (fun w' hD' hb' => ?_)
    have k := Dv.write_ok a d (by omega) (by omega) (by omega) (by rw [cnt_one hd]; omega) hN hQ w' hD' hb'
    rw [cnt_one hd] at k
    exact k
  have HLO := hid (fun k hk => (hD.lo k hk).2)
  have HD := hid (hD.below (below_alloc w (.cells #[.int .i64 0, .int .i64 (a : Int), .string d] 133)))
  have HST := hid (hst.below (below_alloc w (.cells #[.int .i64 0, .int .i64 (a : Int), .string d] 133)))
  have hx := hD.n2
  have hsl := hst.lt
  clear hst hD hd
  go_enter Tryz.func74, Tryz.ntmps74
  go_wp2
  obtain ⟨w1, hw1⟩ : ∃ w1, w1 = w.alloc (.cells #[.int .i64 0, .int .i64 (a : Int), .string d] 133) := ⟨_, rfl⟩
  have hB1 : Below w.heap.size w w1 := by rw [hw1]; exact below_alloc w _
  have hv1 : w1.heap[w.heap.size]? = some (.cells #[.int .i64 0, .int .i64 (a : Int), .string d] 133 (0, 0)) := by rw [hw1]; exact box_at w _
  rw [← hw1] at HD HST ⊢
  have HB1 := hid hB1
  have HV1 := hid hv1
  have c0 : w1.cell? ⟨s, 0, none⟩ = some (.pointer (some ⟨g, 0, none⟩)) := (HST.out.cell 0).trans rfl
  obtain ⟨v0, v1, v2⟩ := three_cells hv1
  clear hB1 hv1 hw1
  go_region_held3 (fun w' => w'.cell? ⟨s, 0, none⟩ = some (.pointer (some ⟨g, 0, none⟩)) ∧ w'.cell? ⟨w.heap.size, 1, none⟩ = some (.int .i64 (a : Int)) ∧ w'.cell? ⟨w.heap.size, 2, none⟩ = some (.string d)) (first | exact ⟨c0, v1, v2⟩ | exact d5 | go_keep) (first
    | (go_at_call 29; refine (HWR.out _ (by exact HD.out.below ⟨rfl, rfl, rfl, Nat.le_refl _, fun _ _ => rfl⟩) (by exact Nat.le_trans hb HB1.out.size)).mono ?_; rintro e w5 ⟨rfl, fp5, hd5, ho5, hf5⟩
       have HO5 : Hid (Dv.Only fp w1 w5) := hid ⟨ho5.os, ho5.tape, ho5.output, ho5.size, ho5.block⟩
       have HD5 := hid hd5
       have HF5 := hid hf5
       clear hd5 ho5 hf5
       have hv5 : w5.heap[w.heap.size]? = some (.cells #[.int .i64 0, .int .i64 (a : Int), .string d] 133 (0, 0)) := (HO5.out.block _ (lt_of_block HV1.out) (fun hm => by have := HLO.out _ hm; omega)).trans HV1.out
       have d5 : w5.cell? ⟨s, 0, none⟩ = some (.pointer (some ⟨g, 0, none⟩)) ∧ w5.cell? ⟨w.heap.size, 1, none⟩ = some (.int .i64 (a : Int)) ∧ w5.cell? ⟨w.heap.size, 2, none⟩ = some (.string d) := ⟨((HST.out.only HO5.out hs).cell 0).trans rfl, (three_cells hv5).2⟩
       clear hv5))
  all_goals
    go_wp2
    (try simp only [Exit.inBlock, Exit.then]); refine bodyPost_ret (results_none rfl _ _ _) rfl ?_
    refine ⟨rfl, fp5, HD5.out, (Dv.Only.of_below HB1.out).trans HO5.out (fun _ h => .inl h), fun k hk => ?_⟩
    rcases HF5.out k hk with h | h
    · exact .inl h
    · have k1 := HB1.out.size
      have k2 : w1.heap.size ≤ k := h
      exact .inr (by omega)
set_option maxRecDepth 100000 in
set_option maxHeartbeats 2000000 in
theorem do_flush {base s g x y z j m N : Nat} {S : Dv.DS} {fp : List Nat} {av uv : Value} {c : Int} (hN : N ≤ 100000000) (w : World) (hst : StIs s w g x y z j av m uv c) (hD : Dv.DIs base g w N S fp) :
    Calls Tryz.prog 74 #[.pointer (some ⟨s, 0, none⟩), .agg #[.int .i64 1, .int .i64 0, .string ByteArray.empty]] w fun e w' => e = .returned (.tuple #[]) ∧ Dv.DIs base g w' (N + N) ⟨S.n, Dv.seen S.L S.Q, []⟩ fp ∧ Dv.Only fp w w' := by
  have hb1 := below_alloc w (.cells #[.int .i64 1, .int .i64 0, .string ByteArray.empty] 133)
  have HFL := hid (Dv.flush_any hN _ (hD.below hb1))
  have HB1 := hid hb1
  have HLO := hid (fun k hk => (hD.lo k hk).2)
  have c0 : w.cell? ⟨s, 0, none⟩ = some (.pointer (some ⟨g, 0, none⟩)) := (hst.cell 0).trans rfl
  have hsl := hst.lt
  clear hst hD hb1
  go_enter Tryz.func74, Tryz.ntmps74
  go_wp2_with (first
    | (go_at_call 31; refine HFL.out.mono ?_; rintro e w5 ⟨rfl, hd5, ho5⟩
       have hv5 : w5.heap[w.heap.size]? = some (.cells #[.int .i64 1, .int .i64 0, .string ByteArray.empty] 133 (0, 0)) := (ho5.block _ (lt_of_block (box_at w _)) (fun hm => by have := HLO.out _ hm; omega)).trans (box_at w _)
       obtain ⟨v0, v1, v2⟩ := three_cells hv5))
  go_end0
  exact ⟨rfl, hd5, (Dv.Only.of_below HB1.out).trans ho5 (fun _ h => .inl h)⟩
end Go.Proofs.YtopebghandojbaaGreat
namespace Go.Proofs.YtopebghandojbaaGreat
open Go.RowKit Go.Maps

set_option maxRecDepth 100000 in
set_option maxHeartbeats 2000000 in
theorem do_end {base s g x y z j m N Nm : Nat} {S : Dv.DS} {fp : List Nat} {av uv : Value} {c : Int} {M L : List Chg} (hN : N ≤ 100000000) (hc : 0 ≤ c ∧ c ≤ 1000000000000000) (hI : ∀ c ∈ L, inI c.b) (hNm : Nm + L.length < 100000) (w : World) (hst : StIs s w g x y z j av m uv c) (hD : Dv.DIs base g w N S fp) (hM : Um.MIs m w Nm M) (hL : CLie w uv L) (hs : s ∉ fp) (hm : m ∉ fp) (hms : m ≠ s) (hu : ∀ a, uv.ownBlock = some a → a ∉ fp ∧ a ≠ m) :
    Calls Tryz.prog 74 #[.pointer (some ⟨s, 0, none⟩), .agg #[.int .i64 3, .int .i64 0, .string ByteArray.empty]] w fun e w' => e = .returned (.tuple #[]) ∧ StIs s w' g x y z j av m (.slice none 0 0) (c + 1) ∧ Dv.DIs base g w' (N + N) ⟨S.n, Dv.seen S.L S.Q, []⟩ fp ∧ Um.MIs m w' (Nm + L.length) (Um.mergeL M L) ∧ Dv.Only (s :: m :: fp) w w' := by
  have hb1 := below_alloc w (.cells #[.int .i64 3, .int .i64 0, .string ByteArray.empty] 133)
  have HFL := hid (Dv.flush_any hN _ (hD.below hb1))
  have HB1 := hid hb1
  have HLO := hid (fun k hk => (hD.lo k hk).2)
  have c0 : w.cell? ⟨s, 0, none⟩ = some (.pointer (some ⟨g, 0, none⟩)) := (hst.cell 0).trans rfl
  have hsl := hst.lt
  have HST := hid (hst.below hb1)
  have HM := hid (hM.same (hb1.block m hM.lt))
  have HL := hid (hL.below hb1)
  have HKP := hid (fun w h1 h2 h3 => keep_any (s := s) (g := g) (x := x) (y := y) (z := z) (j := j) (m := m) (N := Nm) (av := av) (uv := uv) (c := c) (M := M) uv L hI hNm w h1 h2 h3 hms (fun a ha => (hu a ha).2))
  have HU := hid hu
  obtain ⟨ao, cap, hue, _, _, _⟩ := hL
  have hml := HM.out.lt
  clear hst hD hb1 hM hu hI
  subst hue
  go_enter Tryz.func74, Tryz.ntmps74
  go_wp2_with (first
    | (go_at_call 31; refine HFL.out.mono ?_; rintro e w5 ⟨rfl, hd5, ho5⟩
       have HD5 := hid hd5
       have HO5 := hid ho5
       clear hd5 ho5
       have hv5 : w5.heap[w.heap.size]? = some (.cells #[.int .i64 3, .int .i64 0, .string ByteArray.empty] 133 (0, 0)) := (HO5.out.block _ (lt_of_block (box_at w _)) (fun hm => by have := HLO.out _ hm; omega)).trans (box_at w _)
       obtain ⟨v0, v1, v2⟩ := three_cells hv5
       have HS5 := hid (HST.out.only HO5.out hs)
       have HM5 := hid (HM.out.same (HO5.out.block m hml hm))
       have HL5 := hid (CLie.only HO5.out HL.out (fun a ha => (HU.out a ha).1))
       have c12 : w5.cell? ⟨s, 12, none⟩ = some (.slice ao L.length cap) := (HS5.out.cell 12).trans rfl)
    | (go_at_call 55; refine (HKP.out _ HS5.out HM5.out HL5.out).mono ?_; rintro e w6 ⟨rfl, hm6, ho6⟩
       have HM6 := hid hm6
       have HO6 := hid ho6
       have HS6 := hid (HS5.out.only ho6 (by simp; exact Ne.symm hms))
       have e12 : w6.cell? ⟨s, 12, none⟩ = some (.slice ao L.length cap) := (HS6.out.cell 12).trans rfl
       have f12 := HS6.out.free 12
       have e13 : w6.cell? ⟨s, 13, none⟩ = some (.int .i64 c) := (HS6.out.cell 13).trans rfl
       have f13 := HS6.out.free 13
       clear hm6 ho6))
  go_end0
  refine ⟨rfl, (HS6.out.under _).count _, ?_, ?_, ?_⟩
  · refine ((HD5.out.other HO6.out (fun a ha => by simp; exact fun e => hm (e ▸ ha))).other (fp' := [s]) (Dv.Only.setCell _ (by simp)) (fun a ha => by simp; exact fun e => hs (e ▸ ha))).other (fp' := [s]) (Dv.Only.setCell _ (by simp)) (fun a ha => by simp; exact fun e => hs (e ▸ ha))
  · exact (HM6.out.same (Below.heap_setCell _ _ _ _ hms)).same (Below.heap_setCell _ _ _ _ hms)
  · refine ((((Dv.Only.of_below HB1.out).trans HO5.out ?_).trans HO6.out ?_).trans (Dv.Only.setCell (fp := [s]) _ (by simp)) ?_).trans (Dv.Only.setCell (fp := [s]) _ (by simp)) ?_
    · intro a ha; exact .inl (by simp [ha])
    · intro a ha; simp at ha; exact .inl (by simp [ha])
    · intro a ha; simp at ha; exact .inl (by simp [ha])
    · intro a ha; simp at ha; exact .inl (by simp [ha])
/-- a slice that reads as acts -/
def ALie (w : World) (v : Value) (A : List AT) : Prop :=
  ∃ ao cap, v = .slice ao A.length cap ∧ A.length ≤ cap ∧ cap ≤ maxLen ∧ ∀ i (hi : i < A.length), ∃ gb off, ao = some ⟨gb, off, none⟩ ∧ gb < w.heap.size ∧ w.cell? ⟨gb, off + i * 3, none⟩ = some (.int .i64 A[i].k) ∧ w.cell? ⟨gb, off + i * 3 + 1, none⟩ = some (.int .i64 A[i].a) ∧ w.cell? ⟨gb, off + i * 3 + 2, none⟩ = some (.string A[i].d)
theorem ALie.only {fp : List Nat} {w w' : World} {v : Value} {A : List AT} (h : Dv.Only fp w w') (hL : ALie w v A) (hv : ∀ a, v.ownBlock = some a → a ∉ fp) : ALie w' v A := by
  obtain ⟨ao, cap, rfl, h1, h2, h3⟩ := hL
  refine ⟨ao, cap, rfl, h1, h2, fun i hi => ?_⟩
  obtain ⟨gb, off, rfl, hg, c0, c1, c2⟩ := h3 i hi
  have e := h.block gb hg (hv gb rfl)
  refine ⟨gb, off, rfl, Nat.lt_of_lt_of_le hg h.size, ?_, ?_, ?_⟩
  · simp only [World.cell?] at c0 ⊢
    rw [e]; exact c0
  · simp only [World.cell?] at c1 ⊢
    rw [e]; exact c1
  · simp only [World.cell?] at c2 ⊢
    rw [e]; exact c2
theorem ac_get : ∀ (l : List AT) (i : Nat) (hi : i < l.length), (ac l)[i * 3]? = some (.int .i64 l[i].k) ∧ (ac l)[i * 3 + 1]? = some (.int .i64 l[i].a) ∧ (ac l)[i * 3 + 2]? = some (.string l[i].d)
  | [], i, hi => by simp at hi
  | c :: l, 0, _ => by simp [ac, encA]
  | c :: l, i + 1, hi => by
    have := ac_get l i (by simpa using hi)
    have e : ac (c :: l) = .int .i64 c.k :: .int .i64 c.a :: .string c.d :: ac l := by simp [ac, encA]
    rw [e, show (i + 1) * 3 = i * 3 + 3 by omega, show i * 3 + 3 + 1 = (i * 3 + 1) + 3 by omega, show i * 3 + 3 + 2 = (i * 3 + 2) + 3 by omega]
    simpa using this
theorem ARow.lie {base : Nat} {w : World} {v : Value} {l : List AT} (h : ARow base w v l) : ALie w v l := by
  rcases h.2 with ⟨rfl, hz⟩ | ⟨gb, cap, cur, rfl, hbase, hgb, r1, r2, r3, r4⟩
  · have : l = [] := List.eq_nil_of_length_eq_zero hz
    subst this
    exact ⟨none, 0, rfl, Nat.le_refl _, by decide, fun i hi => by simp at hi⟩
  · refine ⟨_, cap, rfl, r1, r2, fun i hi => ⟨gb, 0, rfl, lt_of_block hgb, ?_⟩⟩
    have key : ∀ j, j < 3 → w.cell? ⟨gb, i * 3 + j, none⟩ = (ac l)[i * 3 + j]? := by
      intro j hj
      have hlt : i * 3 + j < l.length * 3 := by omega
      have e1 : cur.toList[i * 3 + j]? = (ac l)[i * 3 + j]? := by rw [← r4, List.getElem?_take_of_lt hlt]
      rw [Array.getElem?_toList] at e1
      rw [← e1]
      simp [World.cell?, hgb]
    have g := ac_get l i hi
    rw [Nat.zero_add]
    exact ⟨(key 0 (by decide)).trans g.1, (key 1 (by decide)).trans g.2.1, (key 2 (by decide)).trans g.2.2⟩
end Go.Proofs.YtopebghandojbaaGreat
namespace Go.Proofs.YtopebghandojbaaGreat
open Go.RowKit Go.Maps

set_option maxRecDepth 100000 in
theorem elem105 : Tryz.prog.elem 105 = 133 := by simp [Program.elem, Tryz.underlying105]
set_option maxRecDepth 100000 in
theorem run_size133 (w : World) : (sizeOf (Tryz.prog.elem 105)).run Tryz.prog w = .ok 3 w := by
  obtain ⟨i0, hi, hz0, hz1, hz2⟩ := info_parts Tryz.info133
  rw [elem105]
  simp [sizeOf, typeInfo, hi, hz1]
set_option maxRecDepth 100000 in
theorem under105 : Tryz.prog.underlying 105 = some (.slice (Tryz.prog.elem 105)) := by
  rw [elem105]
  exact Tryz.underlying105
set_option maxRecDepth 100000 in
/-- acts without the first -/
theorem ALie.cut {gb off cap : Nat} (a : AT) {A : List AT} (hlc : A.length + 1 ≤ cap) (hcm : cap ≤ maxLen) :
    ∃ off', (∀ w : World, (Instr.slice 105 (.slice (some ⟨gb, off, none⟩) (A.length + 1) cap) (some (.int .i64 1)) (some (.int .i64 ((A.length : Int) + 1))) (some (.int .i64 ((A.length : Int) + 1)))).run Tryz.prog w = .ok (.slice (some ⟨gb, off', none⟩) A.length A.length) w) ∧
      ∀ w : World, ALie w (.slice (some ⟨gb, off, none⟩) (A.length + 1) cap) (a :: A) → ALie w (.slice (some ⟨gb, off', none⟩) A.length A.length) A := by
  refine ⟨if A.length + 1 = 1 then off else off + 3, fun w => ?_, fun w h => ?_⟩
  · have := run_slice_lhm (P := Tryz.prog) w 105 (some ⟨gb, off, none⟩) (A.length + 1) cap under105 .i64 .i64 .i64 1 ((A.length : Int) + 1) ((A.length : Int) + 1) (by omega) (by omega) (by omega) (by omega)
    rw [this, run_size133]
    by_cases h1 : A.length + 1 = 1
    · have : A.length = 0 := by omega
      simp [Result.andThen, sliced, this]
    · have e : ((A.length : Int) + 1).toNat = A.length + 1 := by omega
      have e1 : (1 : Int).toNat = 1 := rfl
      rw [e, e1]
      simp only [Result.andThen, sliced, if_neg h1, Option.map_some, Nat.add_sub_cancel, Nat.one_mul]
      rw [show Addr.add ⟨gb, off, none⟩ 3 = ⟨gb, off + 3, none⟩ by simp [Addr.add]]
  · obtain ⟨ao, cap', e, k1, k2, k3⟩ := h
    injection e with e0 e1 e2
    subst e0
    refine ⟨_, A.length, rfl, Nat.le_refl _, by omega, fun i hi => ?_⟩
    obtain ⟨g', o', e, hg, c0, c1, c2⟩ := k3 (i + 1) (by simpa using hi)
    injection e with e
    injection e with e3 e4
    subst e3 e4
    have hne : ¬ A.length + 1 = 1 := by omega
    rw [if_neg hne]
    refine ⟨gb, off + 3, rfl, hg, ?_, ?_, ?_⟩
    · rw [show off + 3 + i * 3 = off + (i + 1) * 3 by omega]; exact c0
    · rw [show off + 3 + i * 3 + 1 = off + (i + 1) * 3 + 1 by omega]; exact c1
    · rw [show off + 3 + i * 3 + 2 = off + (i + 1) * 3 + 2 by omega]; exact c2
set_option maxRecDepth 100000 in
set_option maxHeartbeats 4000000 in
theorem step_any {s g x y z j m : Nat} {av uv : Value} {c : Int} (a : AT) (A : List AT) (hlen : A.length ≤ 1000) (w : World) (hst : StIs s w g x y z j av m uv c) (hA : ALie w av (a :: A)) (hav : ∀ b, av.ownBlock = some b → b ≠ s) (Post : World → Prop)
    (hdo : ∀ w1 av', StIs s w1 g x y z j av' m uv c → ALie w1 av' A → (∀ b, av'.ownBlock = some b → av.ownBlock = some b) → Dv.Only [s] w w1 → Calls Tryz.prog 74 #[.pointer (some ⟨s, 0, none⟩), .agg #[.int .i64 a.k, .int .i64 a.a, .string a.d]] w1 fun e w' => e = .returned (.tuple #[]) ∧ Post w' ∧ ∃ uv' c', StIs s w' g x y z j av' m uv' c') :
    Calls Tryz.prog 18 #[.pointer (some ⟨s, 0, none⟩)] w fun e w' => e = .returned (.tuple #[.bool (!decide (0 < A.length)), .int .i64 0]) ∧ Post w' := by
  obtain ⟨ao, cap, hve, hlc, hcm, hcell⟩ := id hA
  obtain ⟨gb, off, e, hgl, k0, k1, k2⟩ := hcell 0 (by simp)
  subst e
  have hve : av = .slice (some ⟨gb, off, none⟩) (A.length + 1) cap := hve
  subst hve
  have hlc : A.length + 1 ≤ cap := hlc
  obtain ⟨off', hcut, hcl⟩ := ALie.cut (gb := gb) (off := off) a hlc hcm
  have k0 : w.cell? ⟨gb, off, none⟩ = some (.int .i64 a.k) := k0
  have k1 : w.cell? ⟨gb, off + 1, none⟩ = some (.int .i64 a.a) := k1
  have k2 : w.cell? ⟨gb, off + 2, none⟩ = some (.string a.d) := k2
  have HBU := hid (busy_any w hst)
  rw [decide_eq_true (show 0 < A.length + 1 by omega)] at HBU
  have HBE := hid (fun w1 (uv' : Value) (c' : Int) (h : StIs s w1 g x y z j (.slice (some ⟨gb, off', none⟩) A.length A.length) m uv' c') => busy_any w1 h)
  have hsg : gb ≠ s := hav gb rfl
  have HST := hid hst
  have c10 : w.cell? ⟨s, 10, none⟩ = some (.slice (some ⟨gb, off, none⟩) (A.length + 1) cap) := (hst.cell 10).trans rfl
  have f10 := hst.free 10
  have hsl := hst.lt
  have HDO := hid hdo
  have HA := hid hA
  have HCL := hid hcl
  unfold maxLen at hcm
  clear hcell hdo hst hA hcl hav
  go_enter Tryz.func18, Tryz.ntmps18
  go_upto_region 4 with (first
    | (go_at_call 21; refine HBU.out.mono ?_; rintro e w1 ⟨rfl, hw⟩; have hw := hw.symm; subst hw))
  have HB1 := hid (below_alloc w (.cells #[.int .i64 a.k, .int .i64 a.a, .string a.d] 133))
  have HV1 := hid (box_at w (.cells #[.int .i64 a.k, .int .i64 a.a, .string a.d] 133))
  obtain ⟨w1, hw1⟩ : ∃ w1, w1 = w.alloc (.cells #[.int .i64 a.k, .int .i64 a.a, .string a.d] 133) := ⟨_, rfl⟩
  rw [← hw1] at HB1 HV1 ⊢
  clear hw1 k0 k1 k2 c10 f10
  have HS1 := hid (HST.out.below HB1.out)
  have c10 : w1.cell? ⟨s, 10, none⟩ = some (.slice (some ⟨gb, off, none⟩) (A.length + 1) cap) := (HS1.out.cell 10).trans rfl
  have f10 := HS1.out.free 10
  go_region
  have hO2 : Dv.Only [s] w (w1.setCell ⟨s, 10, none⟩ (.slice (some ⟨gb, off', none⟩) A.length A.length)).drew := ((Dv.Only.of_below HB1.out).trans (Dv.Only.setCell (fp := [s]) _ (by simp)) (fun _ h => .inl h)).drew
  have hS2 : StIs s (w1.setCell ⟨s, 10, none⟩ (.slice (some ⟨gb, off', none⟩) A.length A.length)).drew g x y z j (.slice (some ⟨gb, off', none⟩) A.length A.length) m uv c := HS1.out.acts _
  have hV2 : (w1.setCell ⟨s, 10, none⟩ (.slice (some ⟨gb, off', none⟩) A.length A.length)).drew.heap[w.heap.size]? = some (.cells #[.int .i64 a.k, .int .i64 a.a, .string a.d] 133 (0, 0)) := (Below.heap_setCell _ _ _ _ (by show w.heap.size ≠ s; omega)).trans HV1.out
  obtain ⟨w2, hw2⟩ : ∃ w2, w2 = (w1.setCell ⟨s, 10, none⟩ (.slice (some ⟨gb, off', none⟩) A.length A.length)).drew := ⟨_, rfl⟩
  rw [← hw2] at hO2 hS2 hV2 ⊢
  have HO2 := hid hO2
  have HS2 := hid hS2
  have HA2 := hid (HCL.out _ (ALie.only hO2 HA.out (fun b hb => by
    have hb : some gb = some b := hb
    cases hb
    simp; exact hsg)))
  obtain ⟨v0, v1, v2⟩ := three_cells hV2
  clear hw2 hO2 hS2 hV2 c10 f10 hcut
  go_wp2_with (first
    | (go_at_call 21; refine (HBE.out _ _ _ (by exact HS3.out)).mono ?_; rintro e w4 ⟨rfl, hw⟩; have hw := hw.symm; subst hw)
    | (go_at_call 74; refine (HDO.out _ _ HS2.out HA2.out (fun _ h => h) HO2.out).mono ?_; rintro e w3 ⟨rfl, hp3, uv3, c3, hs3⟩
       have HS3 := hid hs3
       have HP3 := hid hp3
       clear hs3 hp3))
  go_ret2
  exact ⟨rfl, HP3.out⟩
end Go.Proofs.YtopebghandojbaaGreat
namespace Go.Proofs.YtopebghandojbaaGreat
open Go.RowKit Go.Maps

def bnd (n : Nat) : Nat := if n = 5 then 8 else if n = 4 then 16 else if n = 3 then 32 else if n = 2 then 64 else if n = 1 then 128 else 256
/-- an act that leaves block 20 as it is -/
def Good (a : AT) : Prop := (a.k = 0 ∧ (∃ n : Nat, a.a = n ∧ n < 32 ∧ n ≠ 20) ∧ a.d.size = 128) ∨ (a = ⟨1, 0, ByteArray.empty⟩)
/-- the store of 'speaks', some acts ahead of the end of its commit -/
structure SK (w0 : World) (s g j m : Nat) (uv : Value) (L : List Chg) (A : List AT) (w : World) : Prop where
  ex : ∃ av N S fp, StIs s w g 32 8 4 j av m uv 0 ∧ ALie w av A ∧ Dv.DIs w0.heap.size g w N S fp ∧ S.n = 32 ∧ N ≤ bnd A.length ∧ S.Q.length + A.length ≤ 5 ∧ Dv.seen S.L S.Q 20 = none ∧ s ∉ fp ∧ m ∉ fp ∧ (∀ b, av.ownBlock = some b → b ∉ fp ∧ b ≠ s ∧ b < w.heap.size) ∧ (∀ b, uv.ownBlock = some b → b ∉ fp ∧ b ≠ m ∧ b ≠ s ∧ b < w.heap.size)
  mis : Um.MIs m w 0 []
  lie : CLie w uv L
  ms : m ≠ s
  lo : w0.heap.size ≤ s
  mo : w0.heap.size ≤ m
  bel : Below w0.heap.size w0 w
theorem over_other {f : Nat → Option ByteArray} {a k : Nat} {d : ByteArray} (hd : d.size = 128) (h : k ≠ a) : Dv.over f a d (Dv.cnt d) k = f k := by
  unfold Dv.over
  rw [cnt_one hd, if_neg (by omega)]
theorem SK.step {w0 : World} {s g j m : Nat} {uv : Value} {L : List Chg} (a : AT) (A : List AT) (w : World) (hg : Good a) (hA : A.length ≤ 4) (h : SK w0 s g j m uv L (a :: A) w) :
    Calls Tryz.prog 18 #[.pointer (some ⟨s, 0, none⟩)] w fun e w' => e = .returned (.tuple #[.bool (!decide (0 < A.length)), .int .i64 0]) ∧ SK w0 s g j m uv L A w' := by
  obtain ⟨⟨av, N, S, fp, hst, hal, hD, hSn, hN, hQ, h20, hsf, hmf, hav, huv⟩, hmis, hlie, hms, hlo, hmo, hbel⟩ := h
  have hQ' : S.Q.length + (A.length + 1) ≤ 5 := hQ
  have hN' : N ≤ bnd (A.length + 1) := hN
  have hNs : N ≤ 256 := by unfold bnd at hN'; split at hN' <;> (try split at hN') <;> (try split at hN') <;> (try split at hN') <;> (try split at hN') <;> omega
  have hN2 : N + N ≤ bnd A.length := by
    have : A.length = 0 ∨ A.length = 1 ∨ A.length = 2 ∨ A.length = 3 ∨ A.length = 4 := by omega
    rcases this with e | e | e | e | e <;> (rw [e] at hN' ⊢; simp [bnd] at hN' ⊢; omega)
  have hN1 : N + 1 ≤ bnd A.length := by
    have : A.length = 0 ∨ A.length = 1 ∨ A.length = 2 ∨ A.length = 3 ∨ A.length = 4 := by omega
    rcases this with e | e | e | e | e <;> (rw [e] at hN' ⊢; simp [bnd] at hN' ⊢; omega)
  refine step_any a A (by omega) w hst hal (fun b hb => (hav b hb).2.1) (SK w0 s g j m uv L A) ?_
  intro w1 av' hst1 hal1 how1 ho1
  have hsl : s < w.heap.size := hst.lt
  have hD1 : Dv.DIs w0.heap.size g w1 N S fp := hD.other ho1 (fun x hx => by simp; exact fun e => hsf (e ▸ hx))
  have hb1 : Below w0.heap.size w0 w1 := hbel.trans (ho1.below hbel.size (by simp; exact hlo))
  have hm1 : Um.MIs m w1 0 [] := hmis.same (ho1.block m hmis.lt (by simp; exact hms))
  have hl1 : CLie w1 uv L := CLie.only ho1 hlie (fun b hb => by simp; exact (huv b hb).2.2.1)
  rcases hg with ⟨hk, ⟨n, hn, hn32, hn20⟩, hd⟩ | rfl
  · rw [hk, hn]
    refine (do_write n a.d hd (by omega) (by omega) (by omega) w1 hst1 hD1 (Nat.le_trans hbel.size ho1.size) hsf).mono ?_
    rintro e w2 ⟨rfl, fp2, hD2, ho2, hf2⟩
    have hst2 := hst1.only ho2 hsf
    have hz := ho1.size
    refine ⟨rfl, ⟨⟨av', N + 1, _, fp2, hst2, ALie.only ho2 hal1 (fun b hb => (hav b (how1 b hb)).1), hD2, hSn, hN1, ?_, ?_, ?_, ?_, ?_, ?_⟩, hm1.same (ho2.block m hm1.lt hmf), CLie.only ho2 hl1 (fun b hb => (huv b hb).1), hms, hlo, hmo, hb1.trans (ho2.below hb1.size (fun x hx => (hD1.lo x hx).1))⟩, _, _, hst2⟩
    · show (S.Q ++ [(n, a.d)]).length + A.length ≤ 5
      rw [List.length_append]
      show S.Q.length + 1 + A.length ≤ 5
      omega
    · show Dv.seen S.L (S.Q ++ [(n, a.d)]) 20 = none
      rw [Dv.seen_snoc, over_other hd (Ne.symm hn20)]
      exact h20
    · intro hx; rcases hf2 s hx with h | h
      · exact hsf h
      · omega
    · intro hx; have := hmis.lt; rcases hf2 m hx with h | h
      · exact hmf h
      · omega
    · intro b hb
      have k := hav b (how1 b hb)
      have := ho2.size
      refine ⟨fun hx => ?_, k.2.1, by omega⟩
      rcases hf2 b hx with h | h
      · exact k.1 h
      · omega
    · intro b hb
      have k := huv b hb
      have := ho2.size
      refine ⟨fun hx => ?_, k.2.1, k.2.2.1, by omega⟩
      rcases hf2 b hx with h | h
      · exact k.1 h
      · omega
  · refine (do_flush (by omega) w1 hst1 hD1).mono ?_
    rintro e w2 ⟨rfl, hD2, ho2⟩
    have hst2 := hst1.only ho2 hsf
    have hz := ho1.size
    have hz2 := ho2.size
    refine ⟨rfl, ⟨⟨av', N + N, _, fp, hst2, ALie.only ho2 hal1 (fun b hb => (hav b (how1 b hb)).1), hD2, hSn, hN2, by show 0 + A.length ≤ 5; omega, h20, hsf, hmf, fun b hb => ?_, fun b hb => ?_⟩, hm1.same (ho2.block m hm1.lt hmf), CLie.only ho2 hl1 (fun b hb => (huv b hb).1), hms, hlo, hmo, hb1.trans (ho2.below hb1.size (fun x hx => (hD1.lo x hx).1))⟩, _, _, hst2⟩
    · have k := hav b (how1 b hb)
      exact ⟨k.1, k.2.1, by omega⟩
    · have k := huv b hb
      exact ⟨k.1, k.2.1, k.2.2.1, by omega⟩
end Go.Proofs.YtopebghandojbaaGreat
namespace Go.Proofs.YtopebghandojbaaGreat
open Go.RowKit Go.Maps

theorem piece_all {d : ByteArray} (h : d.size = 128) : Dv.piece d 0 = d := by
  unfold Dv.piece
  rw [show (0 + 1) * 128 = d.size by omega]
  simp
theorem SK.read {w0 : World} {s g j m : Nat} {uv : Value} {L : List Chg} {A : List AT} (w : World) (h : SK w0 s g j m uv L A w) :
    Calls Tryz.prog 23 #[.pointer (some ⟨s, 0, none⟩), .int .i64 20] w fun e w' => e = .returned (.tuple #[.string (Dv.B 0), .int .i64 0]) ∧ Below w.heap.size w w' := by
  obtain ⟨⟨av, N, S, fp, hst, hal, hD, hSn, hN, hQ, h20, hsf, hmf, hav, huv⟩, hmis, hlie, hms, hlo, hmo, hbel⟩ := h
  have k := sread 20 (by omega) w hst hD hmis
  rw [h20] at k
  exact k
/-- the store behind its commit's end -/
def SE (w0 : World) (s g j m : Nat) (d : ByteArray) (w : World) : Prop :=
  ∃ ao cap N Nm S fp, StIs s w g 32 8 4 j (.slice ao 0 cap) m (.slice none 0 0) 1 ∧ Dv.DIs w0.heap.size g w N S fp ∧ S.n = 32 ∧ Um.MIs m w Nm [⟨20, d⟩] ∧ Below w0.heap.size w0 w
theorem SK.last {w0 : World} {s g j m : Nat} {uv : Value} {d : ByteArray} (w : World) (h : SK w0 s g j m uv [⟨20, d⟩] [⟨3, 0, ByteArray.empty⟩] w) :
    Calls Tryz.prog 18 #[.pointer (some ⟨s, 0, none⟩)] w fun e w' => e = .returned (.tuple #[.bool true, .int .i64 0]) ∧ SE w0 s g j m d w' := by
  obtain ⟨⟨av, N, S, fp, hst, hal, hD, hSn, hN, hQ, h20, hsf, hmf, hav, huv⟩, hmis, hlie, hms, hlo, hmo, hbel⟩ := h
  have hN : N ≤ 128 := by simpa [bnd] using hN
  refine step_any ⟨3, 0, ByteArray.empty⟩ [] (by simp) w hst hal (fun b hb => (hav b hb).2.1) (SE w0 s g j m d) ?_
  intro w1 av' hst1 hal1 how1 ho1
  have hD1 : Dv.DIs w0.heap.size g w1 N S fp := hD.other ho1 (fun x hx => by simp; exact fun e => hsf (e ▸ hx))
  have hb1 : Below w0.heap.size w0 w1 := hbel.trans (ho1.below hbel.size (by simp; exact hlo))
  have hm1 : Um.MIs m w1 0 [] := hmis.same (ho1.block m hmis.lt (by simp; exact hms))
  have hl1 : CLie w1 uv [⟨20, d⟩] := CLie.only ho1 hlie (fun b hb => by simp; exact (huv b hb).2.2.1)
  refine (do_end (by omega) ⟨by decide, by decide⟩ (by intro c hc; simp at hc; subst hc; show (-9223372036854775808 : Int) ≤ 20 ∧ (20 : Int) ≤ 9223372036854775807; decide) (by simp) w1 hst1 hD1 hm1 hl1 hsf hmf hms (fun b hb => ⟨(huv b hb).1, (huv b hb).2.1⟩)).mono ?_
  rintro e w2 ⟨rfl, hst2, hD2, hm2, ho2⟩
  obtain ⟨ao, cap, rfl, _⟩ := hal1
  refine ⟨rfl, ⟨ao, cap, _, _, _, fp, hst2, hD2, hSn, hm2, hb1.trans (ho2.below hb1.size ?_)⟩, _, _, hst2⟩
  intro x hx
  simp at hx
  rcases hx with rfl | rfl | hx
  · exact hlo
  · exact hmo
  · exact (hD1.lo x hx).1
theorem SE.read {w0 : World} {s g j m : Nat} {d : ByteArray} (w : World) (h : SE w0 s g j m d w) :
    Calls Tryz.prog 23 #[.pointer (some ⟨s, 0, none⟩), .int .i64 20] w fun e w' => e = .returned (.tuple #[.string d, .int .i64 0]) ∧ Below w.heap.size w w' := by
  obtain ⟨ao, cap, N, Nm, S, fp, hst, hD, hSn, hM, _⟩ := h
  have k := sread 20 (by omega) w hst hD hM
  exact k
theorem two_over {su hd : ByteArray} (h1 : su.size = 128) (h2 : hd.size = 128) (k : Nat) : Dv.over (Dv.over (fun _ => none) 0 su (Dv.cnt su)) 1 hd (Dv.cnt hd) k = if k = 0 then some su else if k = 1 then some hd else none := by
  by_cases e1 : k = 1
  · subst e1
    unfold Dv.over
    rw [cnt_one h2, if_pos (by decide), if_neg (by decide), if_pos rfl, Nat.sub_self, piece_all h2]
  · rw [over_other h2 e1, if_neg e1]
    by_cases e0 : k = 0
    · subst e0
      unfold Dv.over
      rw [cnt_one h1, if_pos (by decide), if_pos rfl, Nat.sub_self, piece_all h1]
    · rw [over_other h1 e0, if_neg e0]
theorem seen_two (su hd : ByteArray) : Dv.seen (fun _ => none) [(0, su), (1, hd)] = Dv.over (Dv.over (fun _ => none) 0 su (Dv.cnt su)) 1 hd (Dv.cnt hd) := rfl
theorem fmt_at (x y z k : Nat) : fmtL x y z k = if k = 0 then some (Sh.superS x y z) else if k = 1 then some (hdB 0 1 1) else none := by
  unfold fmtL
  rw [seen_two]
  exact two_over (super_size x y z) (hdB_size 0 1 1) k
theorem fmt0 (x y z : Nat) : fmtL x y z 0 = some (Sh.superS x y z) := by rw [fmt_at, if_pos rfl]
theorem fmt1 (x y z : Nat) : fmtL x y z 1 = some (hdB 0 1 1) := by rw [fmt_at, if_neg (by decide), if_pos rfl]
theorem fmt2 (x y z k : Nat) (h0 : k ≠ 0) (h1 : k ≠ 1) : fmtL x y z k = none := by rw [fmt_at, if_neg h0, if_neg h1]
theorem Bd_size (c : UInt8) : (Dv.B c).size = 128 := by
  unfold Dv.B
  rw [← len_list]
  show (List.replicate 128 c).length = 128
  simp
theorem fmt_size (x y z k : Nat) : ((fmtL x y z k).getD Dv.Z).size ≤ 150000000000000 := by
  by_cases h0 : k = 0
  · subst h0; rw [fmt0]; show (Sh.superS x y z).size ≤ _; rw [super_size]; omega
  · by_cases h1 : k = 1
    · subst h1; rw [fmt1]; show (hdB 0 1 1).size ≤ _; rw [hdB_size]; omega
    · rw [fmt2 x y z k h0 h1]; show (Dv.B 0).size ≤ _; rw [Bd_size]; omega
end Go.Proofs.YtopebghandojbaaGreat
namespace Go.Proofs.YtopebghandojbaaGreat
open Go.RowKit Go.Maps

theorem seen_nil (f : Nat → Option ByteArray) : Dv.seen f [] = f := rfl
theorem ok32 : Sh.okS ((32 : Nat) : Int) ((8 : Nat) : Int) ((4 : Nat) : Int) := by
  unfold Sh.okS Sh.inS
  decide
theorem right_one {d : ByteArray} (hd : d.size = 128) : right [⟨20, d⟩] = true := by
  simp [right, rises, hd]
theorem within_one (d : ByteArray) : withinB (1 + ((8 : Nat) : Int)) ((32 : Nat) : Int) [⟨20, d⟩] = true := by
  simp [withinB]
theorem acts_one (d : ByteArray) : ∃ hb, hb.size = 128 ∧ actsL (wrL (((8 : Nat) : Int) - 1) (((0 : Nat) : Int) + sumI []) (encL (1 + ([] : List Int).length) [⟨20, d⟩])) = [⟨0, 2, hb⟩, ⟨0, 3, d⟩] := by
  refine ⟨headB 1 [⟨20, d⟩], ?_, ?_⟩
  · unfold headB
    exact sealed_size _ (by rw [headL_len]; simp)
  · simp [actsL, wrL, encL, headB, sumI]
theorem Um.MIs.ne {b N : Nat} {w : World} {M : List Chg} (h : Um.MIs b w N M) {k : Nat} {cs : Array Value} {t : TypeId} (hk : w.heap[k]? = some (.cells cs t (0, 0))) : b ≠ k := by
  obtain ⟨n, D, ⟨es, clock, h1, h4⟩, h2⟩ := h
  intro e
  rw [e, hk] at h1
  cases h1
theorem st_ne {s j : Nat} {r : Option Nat} {w : World} {g x y z jj : Nat} {av : Value} {m : Nat} {uv : Value} {c : Int} {P : Int} {T F S : Nat} {l : List Int} (hst : StIs s w g x y z jj av m uv c) (hj : JS j r w P T F S l) : s ≠ j ∧ some s ≠ r := by
  obtain ⟨sv, h0, h1, h2⟩ := hj
  unfold StIs at hst
  unfold JIs at h1
  constructor
  · rintro rfl
    rw [h1] at hst
    simp at hst
  · intro e
    obtain ⟨cur, hc⟩ := h2.own s (by rw [h0, ← e])
    rw [hc] at hst
    simp at hst
theorem commit_sk {w0 w4 : World} {s g j m b : Nat} {r : Option Nat} {fp : List Nat} (d : ByteArray) (hd : d.size = 128) (v : Value) (hst : StIs s w4 g 32 8 4 j (.slice none 0 0) m (.slice none 0 0) 0) (hj : JS j r w4 (((8 : Nat) : Int) - 1) 0 1 0 []) (hM : Um.MIs m w4 0 []) (hD : Dv.DIs w0.heap.size g w4 4 ⟨32, fmtL 32 8 4, []⟩ fp) (hL : CLie w4 v [⟨20, d⟩])
    (hf : ∀ k ∈ fp, k < b) (h1 : b ≤ s) (h2 : b ≤ j) (h3 : ∀ a, r = some a → b ≤ a) (h4 : b ≤ m) (h5 : w0.heap.size ≤ b) (hv : ∀ a, v.ownBlock = some a → a ≠ s ∧ a ≠ j ∧ some a ≠ r) (hbel : Below w0.heap.size w0 w4) :
    Calls Tryz.prog 14 #[.pointer (some ⟨s, 0, none⟩), v] w4 fun e w5 => e = .returned (.int .i64 0) ∧ ∃ uv hb hdr, hb.size = 128 ∧ hdr.size = 128 ∧ SK w0 s g j m uv [⟨20, d⟩] [⟨0, 2, hb⟩, ⟨0, 3, d⟩, ⟨1, 0, ByteArray.empty⟩, ⟨0, 1, hdr⟩, ⟨3, 0, ByteArray.empty⟩] w5 := by
  obtain ⟨hsj, hsr⟩ := st_ne hst hj
  refine (commit_ok v [⟨20, d⟩] ok32 (by simp) (right_one hd) (within_one d) (by decide) (by decide) (by decide) (by decide) (by simp) (by simp [sumI]) w4 hst hj hL hsj hsr hv).mono ?_
  rintro e w5 ⟨rfl, B1, uv, r', hB1, hSA, hcl, how, hj5, hnw, hcf⟩
  obtain ⟨hb, hbs, hae⟩ := acts_one d
  rw [hae] at hSA
  have hms : m ≠ s := hM.ne hst
  have hmj : m ≠ j := by
    obtain ⟨sv, _, k1, _⟩ := hj
    exact hM.ne k1
  have hmr : some m ≠ r := by
    intro e
    obtain ⟨sv, k0, _, k2⟩ := hj
    obtain ⟨cur, hc⟩ := k2.own m (by rw [k0, ← e])
    exact hM.ne hc rfl
  obtain ⟨⟨av, hst5, har⟩, hlo, hhi⟩ := hSA
  have hsl := hst.lt
  have ho : Dv.Only (s :: j :: r.toList) w4 w5 := ⟨hcf.os, hcf.tape, hcf.output, hcf.size, fun k hk hn => hcf.block k hk (fun e => hn (by simp [e])) (fun e => hn (by simp [e])) (fun e => hn (by simp [← e]))⟩
  have hfs : ∀ k ∈ fp, k ∉ (s :: j :: r.toList) := by
    intro k hk hm
    have := hf k hk
    simp at hm
    rcases hm with rfl | rfl | hm
    · omega
    · omega
    · have := h3 k hm; omega
  have h20 : Dv.seen (fmtL 32 8 4) [] 20 = none := by rw [seen_nil]; exact fmt2 32 8 4 20 (by decide) (by decide)
  refine ⟨rfl, uv, hb, _, hbs, hdB_size 0 1 _, ⟨⟨av, 4, _, fp, hst5, har.lie, hD.other ho hfs, rfl, by simp [bnd], by simp, h20, fun h => by have := hf s h; omega, fun h => by have := hf m h; omega, fun a ha => ?_, fun a ha => ?_⟩, hM.same (hcf.block m hM.lt hms hmj hmr), hcl, hms, by omega, by omega, ?_⟩⟩
  · obtain ⟨k1, cur, k2⟩ := har.own a ha
    exact ⟨fun h => by have := hf a h; omega, by omega, lt_of_block k2⟩
  · have k := how a ha
    have := hM.lt
    exact ⟨fun h => by have := hf a h; omega, by omega, by omega, k.2⟩
  · refine hbel.trans ⟨hcf.os, hcf.tape, hcf.output, hcf.size, fun k hk => hcf.block k (Nat.lt_of_lt_of_le hk hbel.size) (by omega) (by omega) (fun e => by have := h3 k e.symm; omega)⟩
end Go.Proofs.YtopebghandojbaaGreat
namespace Go.Proofs.YtopebghandojbaaGreat
open Go.RowKit Go.Maps

/-- the acts ahead of the last one -/
theorem SK.next {w0 : World} {s g j m : Nat} {uv : Value} {d hb hdr : ByteArray} (hd : d.size = 128) (hbs : hb.size = 128) (hhs : hdr.size = 128) (q : Nat) (hq : q < 4) (w : World) (h : SK w0 s g j m uv [⟨20, d⟩] (([⟨0, 2, hb⟩, ⟨0, 3, d⟩, ⟨1, 0, ByteArray.empty⟩, ⟨0, 1, hdr⟩, ⟨3, 0, ByteArray.empty⟩] : List AT).drop q) w) :
    Calls Tryz.prog 18 #[.pointer (some ⟨s, 0, none⟩)] w fun e w' => e = .returned (.tuple #[.bool false, .int .i64 0]) ∧ SK w0 s g j m uv [⟨20, d⟩] (([⟨0, 2, hb⟩, ⟨0, 3, d⟩, ⟨1, 0, ByteArray.empty⟩, ⟨0, 1, hdr⟩, ⟨3, 0, ByteArray.empty⟩] : List AT).drop (q + 1)) w' := by
  have : q = 0 ∨ q = 1 ∨ q = 2 ∨ q = 3 := by omega
  rcases this with rfl | rfl | rfl | rfl
  · exact SK.step ⟨0, 2, hb⟩ _ w (.inl ⟨rfl, ⟨2, rfl, by decide, by decide⟩, hbs⟩) (by simp) h
  · exact SK.step ⟨0, 3, d⟩ _ w (.inl ⟨rfl, ⟨3, rfl, by decide, by decide⟩, hd⟩) (by simp) h
  · exact SK.step ⟨1, 0, ByteArray.empty⟩ _ w (.inr rfl) (by simp) h
  · exact SK.step ⟨0, 1, hdr⟩ _ w (.inl ⟨rfl, ⟨1, rfl, by decide, by decide⟩, hhs⟩) (by simp) h
theorem SK.below {w0 w w' : World} {s g j m : Nat} {uv : Value} {L : List Chg} {A : List AT} (h : SK w0 s g j m uv L A w) (k : Below w.heap.size w w') : SK w0 s g j m uv L A w' := by
  obtain ⟨⟨av, N, S, fp, hst, hal, hD, hSn, hN, hQ, h20, hsf, hmf, hav, huv⟩, hmis, hlie, hms, hlo, hmo, hbel⟩ := h
  have hz := k.size
  exact ⟨⟨av, N, S, fp, hst.below k, ALie.only (fp := []) (Dv.Only.of_below k) hal (fun _ _ => by simp), hD.below k, hSn, hN, hQ, h20, hsf, hmf, fun b hb => ⟨(hav b hb).1, (hav b hb).2.1, by have := (hav b hb).2.2; omega⟩, fun b hb => ⟨(huv b hb).1, (huv b hb).2.1, (huv b hb).2.2.1, by have := (huv b hb).2.2.2; omega⟩⟩, hmis.same (k.block m hmis.lt), hlie.below k, hms, hlo, hmo, hbel.next k⟩
theorem SE.below {w0 w w' : World} {s g j m : Nat} {d : ByteArray} (h : SE w0 s g j m d w) (k : Below w.heap.size w w') : SE w0 s g j m d w' := by
  obtain ⟨ao, cap, N, Nm, S, fp, hst, hD, hSn, hM, hb⟩ := h
  exact ⟨ao, cap, N, Nm, S, fp, hst.below k, hD.below k, hSn, hM.same (k.block m hM.lt), hb.next k⟩
theorem SE.busy {w0 : World} {s g j m : Nat} {d : ByteArray} (w : World) (h : SE w0 s g j m d w) : Calls Tryz.prog 21 #[.pointer (some ⟨s, 0, none⟩)] w fun e w' => e = .returned (.bool false) ∧ w' = w := by
  obtain ⟨ao, cap, N, Nm, S, fp, hst, hD, hSn, hM, hb⟩ := h
  exact busy_any w hst
theorem SE.blocks {w0 : World} {s g j m : Nat} {d : ByteArray} (w : World) (h : SE w0 s g j m d w) : Calls Tryz.prog 50 #[.pointer (some ⟨g, 0, none⟩)] w fun e w' => e = .returned (.int .i64 32) ∧ w' = w := by
  obtain ⟨ao, cap, N, Nm, S, fp, hst, hD, hSn, hM, hb⟩ := h
  have k := Dv.blocks_any w hD
  rw [hSn] at k
  exact k
theorem commit_go {w w1 w2 w3 : World} {s g j m : Nat} {r : Option Nat} {fp : List Nat} {da : ByteArray} (hd : da.size = 128) (hb1 : Below w.heap.size w w1) (hD1 : Dv.DIs w.heap.size g w1 4 ⟨32, fmtL 32 8 4, []⟩ fp)
    (h2 : StIs s w2 g 32 8 4 j (.slice none 0 0) m (.slice none 0 0) 0 ∧ JS j r w2 (((8 : Nat) : Int) - 1) 0 1 0 [] ∧ Um.MIs m w2 0 [] ∧ w1.heap.size ≤ s ∧ w1.heap.size ≤ j ∧ (∀ a, r = some a → w1.heap.size ≤ a) ∧ w1.heap.size ≤ m ∧ Below w1.heap.size w1 w2) (hb3 : Below w2.heap.size w2 w3) :
    Calls Tryz.prog 14 #[.pointer (some ⟨s, 0, none⟩), .slice (some ⟨w3.heap.size, 0, none⟩) 1 1] (w3.alloc (.cells #[.int .i64 20, .string da] 94)) fun e w5 => e = .returned (.int .i64 0) ∧ ∃ uv hb hdr, hb.size = 128 ∧ hdr.size = 128 ∧ SK w s g j m uv [⟨20, da⟩] [⟨0, 2, hb⟩, ⟨0, 3, da⟩, ⟨1, 0, ByteArray.empty⟩, ⟨0, 1, hdr⟩, ⟨3, 0, ByteArray.empty⟩] w5 := by
  obtain ⟨hst, hj, hm, l1, l2, l3, l4, hb2⟩ := h2
  have hb4 : Below w2.heap.size w2 (w3.alloc (.cells #[.int .i64 20, .string da] 94)) := hb3.next (below_alloc w3 _)
  have hz := hb3.size
  have hsl := hst.lt
  have hjl := hj.lt
  refine commit_sk (w0 := w) (b := w1.heap.size) da hd _ (hst.below hb4) (hj.below hb4) (hm.same (hb4.block m hm.lt)) ((hD1.below hb2).below hb4) (CLie.one w3 20 da) (fun k hk => (hD1.lo k hk).2) l1 l2 l3 l4 hb1.size ?_ ((hb1.next hb2).next hb4)
  intro a ha
  have ha : some w3.heap.size = some a := ha
  cases ha
  refine ⟨by omega, by omega, fun e => ?_⟩
  have := (hjl.2 _ e.symm).1
  omega
set_option maxRecDepth 100000 in
set_option maxHeartbeats 4000000 in
theorem speaks_any (w : World) : Calls Tryz.prog 10 #[] w fun e w' => e = .returned (.bool true) ∧ Below w.heap.size w w' := by
  have HF := hid (fun w => format_nil 32 8 4 ok32 w)
  have HOP : Hid (∀ (w' : World) (g : Nat) (fp : List Nat), Dv.DIs w.heap.size g w' 4 ⟨32, fmtL 32 8 4, []⟩ fp → Calls Tryz.prog 11 #[.pointer (some ⟨g, 0, none⟩)] w' fun e w'' => ∃ s j m r, e = .returned (.tuple #[.pointer (some ⟨s, 0, none⟩), .int .i64 0]) ∧ StIs s w'' g 32 8 4 j (.slice none 0 0) m (.slice none 0 0) 0 ∧ JS j r w'' (((8 : Nat) : Int) - 1) 0 1 0 [] ∧ Um.MIs m w'' 0 [] ∧ w'.heap.size ≤ s ∧ w'.heap.size ≤ j ∧ (∀ a, r = some a → w'.heap.size ≤ a) ∧ w'.heap.size ≤ m ∧ Below w'.heap.size w' w'') := by
    refine hid (fun w' g fp hD => ?_)
    refine open_zero 32 8 4 ok32 rfl ?_ ?_ (fun k => by show ((Dv.seen (fmtL 32 8 4) [] k).getD Dv.Z).size ≤ _; rw [seen_nil]; exact fmt_size 32 8 4 k) w' hD
    · show (Dv.seen (fmtL 32 8 4) [] 0).getD Dv.Z = _
      rw [seen_nil, fmt0]; rfl
    · show (Dv.seen (fmtL 32 8 4) [] 1).getD Dv.Z = _
      rw [seen_nil, fmt1]; rfl
  have HBA : Hid (∀ w, Calls Tryz.prog 49 #[.int .u8 97] w fun e w' => e = .returned (.string (Dv.B 97)) ∧ Below w.heap.size w w') := hid (fun w => Dv.block_any 97 w)
  have HBZ : Hid (∀ w, Calls Tryz.prog 49 #[.int .u8 0] w fun e w' => e = .returned (.string (Dv.B 0)) ∧ Below w.heap.size w w') := hid (fun w => Dv.block_any 0 w)
  have HSR := hid (fun s g j m uv L A w' h => SK.read (w0 := w) (s := s) (g := g) (j := j) (m := m) (uv := uv) (L := L) (A := A) w' h)
  have hA := Bd_size 97
  obtain ⟨da, hda⟩ : ∃ da, da = Dv.B 97 := ⟨_, rfl⟩
  obtain ⟨dz, hdz⟩ : ∃ dz, dz = Dv.B 0 := ⟨_, rfl⟩
  rw [← hda] at HBA hA
  rw [← hdz] at HBZ HSR
  clear hda hdz
  have HSA := hid hA
  go_enter Tryz.func10, Tryz.ntmps10
  go_wp2_with (first
    | (go_at_call 8; refine (HF.out _).mono ?_; rintro e w1 ⟨g, fp, rfl, hD1, hb1⟩
       have HD1 := hid hD1
       have HB1 := hid hb1
       clear hD1 hb1)
    | (go_at_call 11; refine (HOP.out _ _ _ HD1.out).mono ?_; rintro e w2 ⟨s, j, m, r, rfl, hst, hj, hm, l1, l2, l3, l4, hb2⟩
       have HS2 := hid (And.intro hst (And.intro hj (And.intro hm (And.intro l1 (And.intro l2 (And.intro l3 (And.intro l4 hb2)))))))
       clear hst hj hm l1 l2 l3 l4 hb2)
    | (go_at_call 49; refine (HBA.out _).mono ?_; rintro e w3 ⟨rfl, hb3⟩
       have HB3 := hid hb3
       clear hb3)
    | (go_at_call 14; refine (commit_go HSA.out HB1.out HD1.out HS2.out HB3.out).mono ?_; rintro e w5 ⟨rfl, uv, hb, hdr, hbs, hhs, hk⟩
       have HK5 := hid hk
       have HSB := hid (And.intro hbs hhs)
       clear hk hbs hhs))
  go_loopw [5] (fun i wr => ∃ q : Nat, i = .int .i64 q ∧ q ≤ 4 ∧ SK w s g j m uv [⟨20, da⟩] (([⟨0, 2, hb⟩, ⟨0, 3, da⟩, ⟨1, 0, ByteArray.empty⟩, ⟨0, 1, hdr⟩, ⟨3, 0, ByteArray.empty⟩] : List AT).drop q) wr) (fun i _ => 4 - (intOf i).toNat)
  case atStart => exact ⟨0, rfl, by omega, HK5.out⟩
  case round =>
    obtain ⟨q, rfl, hq, hkq⟩ := hrel
    have HKq := hid hkq
    clear hkq
    by_cases hq4 : q < 4
    · have HN := hid (fun w h => SK.next (w0 := w) (s := s) (g := g) (j := j) (m := m) (uv := uv) (d := da) (hb := hb) (hdr := hdr) HSA.out HSB.out.1 HSB.out.2 q hq4 wr h)
      have HN := hid (HN.out w HKq.out)
      go_wp2_with (first | (go_at_call 18; refine HN.out.mono ?_; rintro e w6 ⟨rfl, hk6⟩))
      go_roundw
      case rel => exact ⟨q + 1, by go_num, by omega, hk6⟩
      case measure => simp only [intOf] at *; omega
    · have hqe : q = 4 := by omega
      subst hqe
      have HK : Hid (SK w s g j m uv [⟨20, da⟩] [⟨3, 0, ByteArray.empty⟩] wr) := hid HKq.out
      clear HKq
      go_wp2_with (first
        | (go_at_call 50; refine (SE.blocks _ HE11.out).mono ?_; rintro e w12 ⟨rfl, hw⟩; have hw := hw.symm; subst hw)
        | (go_at_call 21; refine (SE.busy _ HE11.out).mono ?_; rintro e w12 ⟨rfl, hw⟩; have hw := hw.symm; subst hw)
        | (go_at_call 49; have hk := HE10; clear hk; refine (HBA.out _).mono ?_; rintro e w11 ⟨rfl, hb11⟩; have HE11 := hid (HE10.out.below hb11); clear hb11)
        | (go_at_call 49; refine (HBZ.out _).mono ?_; rintro e w10 ⟨rfl, hb10⟩; have HE10 := hid (HE9.out.below hb10); clear hb10)
        | (go_at_call 23; have hk := HE8; clear hk; refine (SE.read _ HE8.out).mono ?_; rintro e w9 ⟨rfl, hb9⟩; have HE9 := hid (HE8.out.below hb9); clear hb9)
        | (go_at_call 18; refine (SK.last _ HK7.out).mono ?_; rintro e w8 ⟨rfl, he8⟩; have HE8 := hid he8; clear he8)
        | (go_at_call 23; refine (HSR.out _ _ _ _ _ _ _ _ HK.out).mono ?_; rintro e w7 ⟨rfl, hb7⟩; have HK7 := hid (HK.out.below hb7); clear hb7))
      go_ret
      refine ⟨rfl, ?_⟩
      obtain ⟨_, _, _, _, _, _, _, _, _, _, hb⟩ := HE11.out
      exact hb
end Go.Proofs.YtopebghandojbaaGreat
namespace Go.Proofs.YtopebghandojbaaGreat
open Go.RowKit Go.Maps
end Go.Proofs.YtopebghandojbaaGreat
