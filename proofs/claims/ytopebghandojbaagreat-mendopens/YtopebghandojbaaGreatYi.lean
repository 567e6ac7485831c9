import Derived.Test.YtopebghandojbaaGreatZs
import Derived.Test.YtopebghandojbaaGreatLg
import Derived.Handy
import Derived.BigRegion
import Derived.Shelf.SlIterI.Nil
import Derived.Shelf.SlIterI.Sorted
import Derived.Shelf.SortM.Plain
import Derived.Shelf.SortM.SortNone
namespace Go.Proofs.YtopebghandojbaaGreat
open Go.RowKit Go.Maps

/-- a block as it is read -/
def val (f : Nat → Option ByteArray) (k : Nat) : ByteArray := (f k).getD Dv.Z
/-- blocks with one written -/
def one (f : Nat → Option ByteArray) (a : Nat) (d : ByteArray) : Nat → Option ByteArray := fun k => if k = a then some d else f k
theorem val_one (f : Nat → Option ByteArray) (a : Nat) (d : ByteArray) (k : Nat) : val (one f a d) k = if k = a then d else val f k := by
  unfold val one
  by_cases e : k = a
  · rw [if_pos e, if_pos e]; rfl
  · rw [if_neg e, if_neg e]
theorem over_one (f : Nat → Option ByteArray) (a : Nat) {d : ByteArray} (hd : d.size = 128) : Dv.over f a d (Dv.cnt d) = one f a d := by
  funext k
  rw [cnt_one hd]
  unfold Dv.over one
  by_cases e : k = a
  · subst e
    rw [if_pos (by omega), if_pos rfl, Nat.sub_self, piece_all hd]
  · rw [if_neg (by omega), if_neg e]
theorem seen_snoc (f : Nat → Option ByteArray) (Q : List (Nat × ByteArray)) (a : Nat) {d : ByteArray} (hd : d.size = 128) : Dv.seen f (Q ++ [(a, d)]) = one (Dv.seen f Q) a d := by
  unfold Dv.seen
  rw [List.foldl_append]
  exact over_one _ a hd
theorem seen_cons (f : Nat → Option ByteArray) (Q : List (Nat × ByteArray)) (a : Nat) {d : ByteArray} (hd : d.size = 128) : Dv.seen f ((a, d) :: Q) = Dv.seen (one f a d) Q := by
  unfold Dv.seen
  rw [List.foldl_cons]
  show List.foldl _ (Dv.over f a d (Dv.cnt d)) Q = _
  rw [over_one f a hd]
/-- the blocks of transactions, the last one's content of each -/
def mg (Ls : List (List Chg)) : List Chg := Ls.foldl Um.mergeL []
theorem mg_snoc (Ls : List (List Chg)) (X : List Chg) : mg (Ls ++ [X]) = Um.mergeL (mg Ls) X := by unfold mg; rw [List.foldl_append]; rfl
theorem look_none {M : List Chg} {k : Int} : Um.lookL M k = none ↔ ∀ c ∈ M, c.b ≠ k := by
  unfold Um.lookL
  rw [List.find?_eq_none]
  constructor
  · intro h c hc e; exact h c hc (by simp [e])
  · intro h c hc e; exact h c hc (by simpa using e)
/-- right changes of home blocks -/
def okX (y x : Nat) (X : List Chg) : Prop := right X = true ∧ withinB (1 + (y : Int)) (x : Int) X = true
theorem okX.rise {y x : Nat} {X : List Chg} (h : okX y x X) : Rise X ∧ (∀ c ∈ X, 1 + (y : Int) ≤ c.b ∧ c.b < x ∧ c.d.size = 128) ∧ X.length ≤ 48 := by
  obtain ⟨h1, h2⟩ := h
  unfold right at h1
  rw [Bool.and_eq_true, decide_eq_true_eq] at h1
  obtain ⟨r1, r2⟩ := rises_rise h1.2
  refine ⟨r1, fun c hc => ?_, h1.1⟩
  unfold withinB at h2
  have h3 := List.all_eq_true.1 h2 c hc
  simp only [Bool.and_eq_true, decide_eq_true_eq] at h3
  exact ⟨h3.1, h3.2, (r2 c hc).2.2⟩
theorem mg_ok {y x : Nat} {Ls : List (List Chg)} (h : ∀ L ∈ Ls, okX y x L) : Rise (mg Ls) ∧ ∀ c ∈ mg Ls, 1 + (y : Int) ≤ c.b ∧ c.b < x ∧ c.d.size = 128 := by
  have : ∀ (Ls : List (List Chg)) (a : List Chg), (∀ L ∈ Ls, okX y x L) → (Rise a ∧ ∀ c ∈ a, 1 + (y : Int) ≤ c.b ∧ c.b < x ∧ c.d.size = 128) → Rise (Ls.foldl Um.mergeL a) ∧ ∀ c ∈ Ls.foldl Um.mergeL a, 1 + (y : Int) ≤ c.b ∧ c.b < x ∧ c.d.size = 128 := by
    intro Ls
    induction Ls with
    | nil => intro a _ h; exact h
    | cons L Ls ih =>
      intro a hL ha
      have hX := (hL L (List.mem_cons_self ..)).rise
      refine ih _ (fun K hK => hL K (List.mem_cons_of_mem _ hK)) ⟨Um.mergeL_rise ha.1, fun c hc => ?_⟩
      rcases (Um.mergeL_mem ha.1 hX.1 c).1 hc with h | ⟨h, _⟩
      · exact hX.2.1 c h
      · exact ha.2 c h
  exact this Ls [] h ⟨List.Pairwise.nil, fun c hc => by cases hc⟩
/-- the ring of a device's journal -/
def ringOf (f : Nat → Option ByteArray) (P : Nat) : List ByteArray := (List.range P).map fun i => val f (2 + i)
theorem ringOf_len (f : Nat → Option ByteArray) (P : Nat) : (ringOf f P).length = P := by unfold ringOf; simp
end Go.Proofs.YtopebghandojbaaGreat
namespace Go.Proofs.YtopebghandojbaaGreat
open Go.RowKit Go.Maps

/-- a store and its device, as they stand: what is flushed, what waits, what is not laid, what is under way, the count -/
structure MS where
  f : Nat → Option ByteArray
  Q : List (Nat × ByteArray)
  M : List Chg
  U : List Chg
  c : Int
/-- an act done -/
def MS.act (σ : MS) (a : AT) : MS :=
  if a.k = 0 then { σ with Q := σ.Q ++ [(a.a.toNat, a.d)] }
  else if a.k = 1 then { σ with f := Dv.seen σ.f σ.Q, Q := [] }
  else if a.k = 2 then { σ with f := Dv.seen σ.f σ.Q, Q := [], M := [] }
  else { f := Dv.seen σ.f σ.Q, Q := [], M := Um.mergeL σ.M σ.U, U := [], c := σ.c + 1 }
/-- an act as it may be, for a device of so many blocks -/
def AOk (n : Nat) (a : AT) : Prop := (a.k = 0 ∧ 0 ≤ a.a ∧ a.a < n ∧ a.d.size = 128) ∨ ((a.k = 1 ∨ a.k = 2 ∨ a.k = 3) ∧ a.a = 0 ∧ a.d = ByteArray.empty)
/-- what a crash may leave of what waits -/
def Left (Q Q' : List (Nat × ByteArray)) : Prop := Q'.Sublist Q
/-- a block as the store reads it -/
def rdM (σ : MS) (k : Nat) : ByteArray := match Um.lookL σ.M (k : Int) with
  | some c => c.d
  | none => val (Dv.seen σ.f σ.Q) k
/-- the acts of a checkpoint -/
def layA (M : List Chg) (hd : ByteArray) : List AT := (M.map fun c => (⟨0, c.b, c.d⟩ : AT)) ++ [⟨1, 0, ByteArray.empty⟩, ⟨0, 1, hd⟩, ⟨2, 0, ByteArray.empty⟩]
end Go.Proofs.YtopebghandojbaaGreat
namespace Go.Proofs.YtopebghandojbaaGreat.Q
open Go.RowKit Go.Maps

/-- a row of acts of one's own, or one of which none is left -/
def ARow (base : Nat) (w : World) (v : Value) (l : List AT) : Prop := (l = [] ∧ ∃ ao, v = .slice ao 0 0) ∨ (l ≠ [] ∧ w.ownsRow base 133 3 v l.length (ac l))
theorem ARow.none (base : Nat) (w : World) (ao : Option Addr) : ARow base w (.slice ao 0 0) [] := .inl ⟨rfl, ao, rfl⟩
theorem ARow.own {base : Nat} {w : World} {v : Value} {l : List AT} (h : w.ownsRow base 133 3 v l.length (ac l)) : ∀ x, v.ownBlock = some x → base ≤ x ∧ ∃ cur, w.heap[x]? = some (.cells cur 133 (0, 0)) := YtopebghandojbaaGreat.ARow.own h
theorem ARow.same {base : Nat} {w w' : World} {v : Value} {l : List AT} (h : ARow base w v l) (k : ∀ x, base ≤ x → x < w.heap.size → (∃ cur, w.heap[x]? = some (.cells cur 133 (0, 0))) → w'.heap[x]? = w.heap[x]?) : ARow base w' v l := by
  rcases h with h | ⟨h0, h⟩
  · exact .inl h
  · refine .inr ⟨h0, YtopebghandojbaaGreat.ARow.same h fun x hx => ?_⟩
    obtain ⟨h1, cur, h2⟩ := ARow.own h x hx
    exact k x h1 (lt_of_block h2) ⟨cur, h2⟩
theorem ARow.below {base : Nat} {w w' : World} {v : Value} {l : List AT} (h : ARow base w v l) (k : Below w.heap.size w w') : ARow base w' v l := h.same fun x _ hx _ => k.block x hx
theorem ARow.len {base : Nat} {w : World} {v : Value} {l : List AT} (h : ARow base w v l) : ∃ ao cap, v = .slice ao l.length cap ∧ l.length ≤ cap ∧ cap ≤ maxLen := by
  rcases h with ⟨rfl, ao, rfl⟩ | ⟨_, h⟩
  · exact ⟨ao, 0, rfl, Nat.le_refl _, by decide⟩
  · exact YtopebghandojbaaGreat.ARow.len h
theorem ARow.lie {base : Nat} {w : World} {v : Value} {l : List AT} (h : ARow base w v l) : ALie w v l := by
  rcases h with ⟨rfl, ao, rfl⟩ | ⟨_, h⟩
  · exact ⟨ao, 0, rfl, Nat.le_refl _, by decide, fun i hi => by simp at hi⟩
  · exact YtopebghandojbaaGreat.ARow.lie h
set_option maxRecDepth 100000 in
theorem pushA {ops : Array Oper} {rest : List Oper} {o : Oper} {a : Act} {Q : Exit → Act → World → Prop} {w0 : World} (hgd : o.guard = none) (s x : Operand)
    (ho : o.op = .call { callee := .builtin .append, args := #[s, x], argTypes := #[105, 105] }) (B1 bb : Nat) (v : Value) (T : List AT) (y : AT)
    (hs : a.eval s = v) (hx : a.eval x = .slice (some ⟨bb, 0, none⟩) 1 1) (hbb : bb = w0.heap.size) (hA : ARow B1 w0 v T) (hn : T.length ≤ 2000) (hbase : B1 ≤ w0.heap.size)
    (h : ∀ v' w', ARow B1 w' v' (T ++ [y]) → Below B1 w0 w' → (∀ k, k < w0.heap.size → (∀ cur, w0.heap[k]? ≠ some (.cells cur 133 (0, 0))) → w'.heap[k]? = w0.heap[k]?) → wpList Tryz.prog ops Q rest (a.put o.dst v') w') :
    wpList Tryz.prog ops Q (o :: rest) a (w0.alloc (.cells #[.int .i64 y.k, .int .i64 y.a, .string y.d] 133)) := by
  rcases hA with ⟨rfl, ao, rfl⟩ | ⟨_, hA⟩
  · subst hbb
    obtain ⟨i0, hi, hz0, hz1, hz2⟩ := info_parts Tryz.info133
    refine wpList_append_grows _ hgd s x 105 ho 133 i0 (.agg #[.int .i64 0, .int .i64 0, .string ⟨#[]⟩]) 3 32 Tryz.underlying105 hi hz0 hz1 hz2 rfl (by decide) ao 0 0 [] hs (fun _ => ⟨rfl, rfl⟩) rfl (fun b _ j u hu => by simp at hu) ⟨w0.heap.size, 0, none⟩ 1 1 (encA y) hx rfl (by
      intro j u hu
      match j, hu with
      | 0, hu => simp [encA] at hu; subst hu; simp [Addr.add]
      | 1, hu => simp [encA] at hu; subst hu; simp [Addr.add]
      | 2, hu => simp [encA] at hu; subst hu; simp [Addr.add]
      | j + 3, hu => simp [encA] at hu) (by intro u hu; simp [encA] at hu; rcases hu with rfl | rfl | rfl <;> rfl) (by omega) (by unfold maxLen; omega) (by omega) ?_
    intro v' w' hown hg
    refine h v' w' (.inr ⟨by simp, ?_⟩) ?_ (fun k hk _ => (hg.block k (by simp; omega) (by simp)).trans (Below.heap_alloc _ _ k hk))
    · rw [ac_append, ac_one, List.length_append]
      obtain ⟨e1, e2 | ⟨x, cap, cur, e3, e4, e5⟩⟩ := hown
      · exact ⟨e1, .inl e2⟩
      · exact ⟨e1, .inr ⟨x, cap, cur, e3, by simp at e4; omega, e5⟩⟩
    · exact (below_alloc w0 (.cells #[.int .i64 y.k, .int .i64 y.a, .string y.d] 133)).mono hbase |>.trans ⟨hg.os, hg.tape, hg.output, hg.size, fun k hk => hg.block k (by simp; omega) (by simp)⟩
  · refine YtopebghandojbaaGreat.pushA hgd s x ho B1 bb v T y hs hx hbb hA hn hbase fun v' w' h1 h2 h3 => h v' w' (.inr ⟨by simp, h1⟩) h2 fun k hk hc => h3 k hk fun e => ?_
    obtain ⟨_, cur, h4⟩ := ARow.own hA k e.symm
    exact hc cur h4
/-- a store whose acts are a row of its own, from a block on -/
structure SA (B1 s : Nat) (w : World) (g x y z j m : Nat) (uv : Value) (c : Int) (A : List AT) : Prop where
  ex : ∃ av, StIs s w g x y z j av m uv c ∧ ARow B1 w av A
  lo : s < B1
  hi : B1 ≤ w.heap.size
theorem SA.below {B1 s : Nat} {w w' : World} {g x y z j m : Nat} {uv : Value} {c : Int} {A : List AT} (h : SA B1 s w g x y z j m uv c A) (k : Below w.heap.size w w') : SA B1 s w' g x y z j m uv c A := by
  obtain ⟨⟨av, h1, h2⟩, h3, h4⟩ := h
  exact ⟨⟨av, h1.below k, h2.below k⟩, h3, Nat.le_trans h4 k.size⟩
theorem push_end {B1 s : Nat} {w w5 : World} {g x y z j m : Nat} {uv av v5 : Value} {c : Int} {A : List AT} (h : StIs s w g x y z j av m uv c) (hlo : s < B1) (hhi : B1 ≤ w.heap.size) (hA5 : ARow B1 w5 v5 A) (hb5 : Below B1 w w5) (hk5 : ∀ k, k < w.heap.size → (∀ cur, w.heap[k]? ≠ some (.cells cur 133 (0, 0))) → w5.heap[k]? = w.heap[k]?) :
    SA B1 s (w5.setCell ⟨s, 10, none⟩ v5) g x y z j m uv c A ∧ AF B1 s w (w5.setCell ⟨s, 10, none⟩ v5) := by
  have h5 : StIs s w5 g x y z j av m uv c := (hb5.block s hlo).trans h
  have hsz := hb5.size
  refine ⟨⟨⟨v5, h5.acts v5, hA5.same fun b hb _ _ => Below.heap_setCell _ _ _ _ ?_⟩, hlo, ?_⟩, ⟨hb5.os, hb5.tape, hb5.output, ?_, fun k hk hs hc => (Below.heap_setCell _ _ _ _ hs).trans ?_⟩⟩
  · show b ≠ s
    omega
  · show B1 ≤ (w5.heap.modify s _).size
    rw [Array.size_modify]
    omega
  · show w.heap.size ≤ (w5.heap.modify s _).size
    rw [Array.size_modify]
    exact hsz
  · rcases hc with hc | hc
    · exact hb5.block k hc
    · exact hk5 k hk hc
set_option maxRecDepth 100000 in
set_option maxHeartbeats 1000000 in
theorem swrite {B1 s : Nat} {g x y z j m : Nat} {uv : Value} {c : Int} {A : List AT} (a : Int) (d : ByteArray) (hn : A.length ≤ 2000) (w : World) (h : SA B1 s w g x y z j m uv c A) :
    Calls Tryz.prog 105 #[.pointer (some ⟨s, 0, none⟩), .int .i64 a, .string d] w fun e w' => e = .returned (.tuple #[]) ∧ SA B1 s w' g x y z j m uv c (A ++ [⟨0, a, d⟩]) ∧ AF B1 s w w' := by
  obtain ⟨⟨av, h1, h2⟩, hlo, hhi⟩ := h
  have c10 : w.cell? ⟨s, 10, none⟩ = some av := (h1.cell 10).trans rfl
  have hsl := h1.lt
  have HS := hid h1
  have HA := hid h2
  clear h1 h2
  go_enter Tryz.func105, Tryz.ntmps105
  go_wp2_with (first
    | (at_builtin; refine pushA (w0 := w) rfl (.tmp 10) (.tmp 14) rfl B1 w.heap.size _ A ⟨0, a, d⟩ rfl rfl rfl HA.out (by omega) hhi ?_; intro v5 w5 hA5 hb5 hk5
       have HP := hid (push_end HS.out hlo hhi hA5 hb5 hk5)
       obtain ⟨ao5, cap5, e5, _, _⟩ := hA5.len
       rw [List.length_append] at e5
       have e5 : v5 = .slice ao5 (A.length + 1) cap5 := e5
       subst e5
       have h5 : StIs s w5 g x y z j av m uv c := (hb5.block s hlo).trans HS.out
       have d10 : w5.cell? ⟨s, 10, none⟩ = some av := (h5.cell 10).trans rfl
       have f10 := h5.free 10
       clear h5 hA5 hb5 hk5))
  go_end0
  exact ⟨rfl, HP.out⟩
set_option maxRecDepth 100000 in
set_option maxHeartbeats 1000000 in
theorem sflush {B1 s : Nat} {g x y z j m : Nat} {uv : Value} {c : Int} {A : List AT} (k : Int) (hn : A.length ≤ 2000) (w : World) (h : SA B1 s w g x y z j m uv c A) :
    Calls Tryz.prog 67 #[.pointer (some ⟨s, 0, none⟩), .int .i64 k] w fun e w' => e = .returned (.tuple #[]) ∧ SA B1 s w' g x y z j m uv c (A ++ [⟨k, 0, ByteArray.empty⟩]) ∧ AF B1 s w w' := by
  obtain ⟨⟨av, h1, h2⟩, hlo, hhi⟩ := h
  have c10 : w.cell? ⟨s, 10, none⟩ = some av := (h1.cell 10).trans rfl
  have hsl := h1.lt
  have HS := hid h1
  have HA := hid h2
  clear h1 h2
  go_enter Tryz.func67, Tryz.ntmps67
  go_wp2_with (first
    | (at_builtin; refine pushA (w0 := w) rfl (.tmp 8) (.tmp 11) rfl B1 w.heap.size _ A ⟨k, 0, ByteArray.empty⟩ rfl rfl rfl HA.out (by omega) hhi ?_; intro v5 w5 hA5 hb5 hk5
       have HP := hid (push_end HS.out hlo hhi hA5 hb5 hk5)
       obtain ⟨ao5, cap5, e5, _, _⟩ := hA5.len
       rw [List.length_append] at e5
       have e5 : v5 = .slice ao5 (A.length + 1) cap5 := e5
       subst e5
       have h5 : StIs s w5 g x y z j av m uv c := (hb5.block s hlo).trans HS.out
       have d10 : w5.cell? ⟨s, 10, none⟩ = some av := (h5.cell 10).trans rfl
       have f10 := h5.free 10
       clear h5 hA5 hb5 hk5))
  go_end0
  exact ⟨rfl, HP.out⟩
set_option maxRecDepth 100000 in
set_option maxHeartbeats 2000000 in
theorem slog {B1 s : Nat} {g x y z j m : Nat} {uv : Value} {c : Int} {A : List AT} (a : Int) (ha : 0 ≤ a ∧ a ≤ 1024) (d : ByteArray) (hn : A.length ≤ 2000) (w : World) (h : SA B1 s w g x y z j m uv c A) :
    Calls Tryz.prog 66 #[.pointer (some ⟨s, 0, none⟩), .agg #[.int .i64 a, .string d]] w fun e w' => e = .returned (.tuple #[]) ∧ SA B1 s w' g x y z j m uv c (A ++ [⟨0, 1 + a, d⟩]) ∧ AF B1 s w w' := by
  have HW := hid (fun w (h : SA B1 s w g x y z j m uv c A) => swrite (1 + a) d hn w h)
  have HS := hid (h.below (below_alloc w (.cells #[.int .i64 a, .string d] 120)))
  have hhi := h.hi
  obtain ⟨⟨av, h1, h2⟩, hlo, _⟩ := h
  have c4 : w.cell? ⟨s, 4, none⟩ = some (.int .i64 1) := (h1.cell 4).trans rfl
  have hsl := h1.lt
  clear h1 h2
  obtain ⟨ha1, ha2⟩ := ha
  go_enter Tryz.func66, Tryz.ntmps66
  go_wp2
  obtain ⟨w1, hw1⟩ : ∃ w1, w1 = w.alloc (.cells #[.int .i64 a, .string d] 120) := ⟨_, rfl⟩
  have hB1 : Below w.heap.size w w1 := by rw [hw1]; exact below_alloc w _
  have hv1 : w1.heap[w.heap.size]? = some (.cells #[.int .i64 a, .string d] 120 (0, 0)) := by rw [hw1]; exact box_at w _
  rw [← hw1] at HS ⊢
  have HB1 := hid hB1
  replace c4 := (hB1.cell (p := ⟨s, 4, none⟩) hsl).trans c4
  obtain ⟨v0, v1⟩ := two_cells hv1
  have HV1 := hid hv1
  have hne : w.heap.size ≠ s := by omega
  clear hB1 hv1 hw1 hsl
  have hwr : IntKind.i64.wrap (1 + a) = 1 + a := by rw [IntKind.wrap_i64]; omega
  go_region_held3 (fun w' => w'.cell? ⟨s, 4, none⟩ = some (.int .i64 1) ∧ w'.cell? ⟨w.heap.size, 0, none⟩ = some (.int .i64 a) ∧ w'.cell? ⟨w.heap.size, 1, none⟩ = some (.string d)) (first | exact ⟨c4, v0, v1⟩ | exact d5 | go_keep) (first
    | (go_at_call 105; refine (HW.out _ (by exact HS.out.below ⟨rfl, rfl, rfl, Nat.le_refl _, fun _ _ => rfl⟩)).mono ?_; rintro e w5 ⟨rfl, hs5, hk5⟩
       have HS5 := hid hs5
       have HK5 : Hid (AF B1 s w1 w5) := hid ⟨hk5.os, hk5.tape, hk5.output, hk5.size, hk5.block⟩
       have hv5 := HK5.out.cells HV1.out hne (by decide)
       clear hs5 hk5
       have d5 : w5.cell? ⟨s, 4, none⟩ = some (.int .i64 1) ∧ w5.cell? ⟨w.heap.size, 0, none⟩ = some (.int .i64 a) ∧ w5.cell? ⟨w.heap.size, 1, none⟩ = some (.string d) := ⟨by obtain ⟨av5, h51, _⟩ := HS5.out.ex; exact (h51.cell 4).trans rfl, (two_cells hv5).1, (two_cells hv5).2⟩
       clear hv5))
  all_goals
    go_wp2
    go_end0
    exact ⟨rfl, HS5.out, (AF.of_below HB1.out).trans HK5.out⟩
theorem SA.jfr {B1 s j : Nat} {r : Option Nat} {w w' : World} {g x y z j' m : Nat} {uv : Value} {c : Int} {A : List AT} (h : SA B1 s w g x y z j' m uv c A) (k : JFr j r w w') (hs : s ≠ j) (hr : some s ≠ r) (hj : j < B1) (hrl : ∀ x, r = some x → x < B1) : SA B1 s w' g x y z j' m uv c A := by
  obtain ⟨⟨av, h1, h2⟩, h3, h4⟩ := h
  refine ⟨⟨av, (k.block s h1.lt hs hr).trans h1, h2.same fun b hb1 hb _ => ?_⟩, h3, Nat.le_trans h4 k.size⟩
  exact k.block b hb (by omega) (fun e => by have := hrl b e.symm; omega)
theorem SA.under {B1 s : Nat} {w : World} {g x y z j m : Nat} {uv : Value} {c : Int} {A : List AT} (h : SA B1 s w g x y z j m uv c A) (v : Value) : SA B1 s (w.setCell ⟨s, 12, none⟩ v) g x y z j m v c A := by
  obtain ⟨⟨av, h1, h2⟩, h3, h4⟩ := h
  refine ⟨⟨av, h1.under v, h2.same fun b hb _ _ => Below.heap_setCell _ _ _ _ ?_⟩, h3, ?_⟩
  · show b ≠ s
    omega
  · show B1 ≤ (w.heap.modify s _).size
    rw [Array.size_modify]
    exact h4
end Go.Proofs.YtopebghandojbaaGreat.Q
namespace Go.Proofs.YtopebghandojbaaGreat
open Go.Shelf Go.RowKit Go.Maps
def Tryz.sortedA_ren : Go.Shelf.Ren := ⟨fun | 6 => 103 | 8 => 133 | 9 => 134 | 11 => 146 | 13 => 148 | 12 => 147 | 23 => 164 | 24 => 165 | 14 => 155 | 15 => 156 | 16 => 157 | 17 => 158 | 18 => 159 | 19 => 160 | 20 => 161 | 21 => 162 | 22 => 163 | 25 => 170 | 26 => 171 | 27 => 172 | 28 => 173 | 29 => 174 | 30 => 175 | 31 => 178 | n => n, fun | 26 => 3 | 28 => 180 | 24 => 154 | 0 => 0 | 3 => 3 | 37 => 222 | 48 => 223 | 50 => 243 | 4 => 4 | 40 => 235 | 39 => 234 | 45 => 239 | 5 => 5 | 9 => 9 | 51 => 249 | 55 => 253 | 57 => 258 | 58 => 176 | 33 => 140 | n => n, fun | n => n⟩
theorem Tryz.sortedA : Go.Proofs.SlLaysZI.n6 Tryz.prog Tryz.sortedA_ren := {
  mixed := by kernel_rfl
  f6 := ⟨Tryz.f103.name, by decide, Tryz.func103.trans (congrArg some (by kernel_rfl))⟩
  f8 := ⟨Tryz.f133.name, by decide, Tryz.func133.trans (congrArg some (by kernel_rfl))⟩
  f11 := ⟨Tryz.f146.name, by decide, Tryz.func146.trans (congrArg some (by kernel_rfl))⟩
  t0 := Tryz.underlying0
  a0 := Tryz.isAgg0
  z0 := Tryz.sizeOf0
  v0 := Tryz.zeroValue0
  t24 := Tryz.underlying154
  a24 := Tryz.isAgg154
  z24 := Tryz.sizeOf154
  v24 := Tryz.zeroValue154
  t26 := Tryz.underlying3
  a26 := Tryz.isAgg3
  z26 := Tryz.sizeOf3
  v26 := Tryz.zeroValue3
  t28 := Tryz.underlying180
  a28 := Tryz.isAgg180
  z28 := Tryz.sizeOf180
  v28 := Tryz.zeroValue180
  i26 := by kernel_rfl }
def Tryz.keysA_ren : Go.Shelf.Ren := ⟨fun | 7 => 104 | 10 => 135 | n => n, fun | 23 => 104 | 26 => 3 | 3 => 94 | 28 => 180 | 0 => 0 | 27 => 179 | 33 => 140 | 4 => 4 | n => n, fun | n => n⟩
theorem Tryz.keysA : Go.Proofs.SlLaysZI.n7 Tryz.prog Tryz.keysA_ren := {
  mixed := by kernel_rfl
  f7 := ⟨Tryz.f104.name, by decide, Tryz.func104.trans (congrArg some (by kernel_rfl))⟩
  f10 := ⟨Tryz.f135.name, by decide, Tryz.func135.trans (congrArg some (by kernel_rfl))⟩
  t0 := Tryz.underlying0
  a0 := Tryz.isAgg0
  z0 := Tryz.sizeOf0
  v0 := Tryz.zeroValue0
  t4 := Tryz.underlying4
  a4 := Tryz.isAgg4
  z4 := Tryz.sizeOf4
  v4 := Tryz.zeroValue4
  t23 := Tryz.underlying104
  a23 := Tryz.isAgg104
  z23 := Tryz.sizeOf104
  v23 := Tryz.zeroValue104
  t26 := Tryz.underlying3
  a26 := Tryz.isAgg3
  z26 := Tryz.sizeOf3
  v26 := Tryz.zeroValue3
  t27 := Tryz.underlying179
  a27 := Tryz.isAgg179
  z27 := Tryz.sizeOf179
  v27 := Tryz.zeroValue179
  t28 := Tryz.underlying180
  a28 := Tryz.isAgg180
  z28 := Tryz.sizeOf180
  v28 := Tryz.zeroValue180
  t33 := Tryz.underlying140
  a33 := Tryz.isAgg140
  z33 := Tryz.sizeOf140
  v33 := Tryz.zeroValue140 }
def Tryz.sortA_ren : Go.Shelf.Ren := ⟨fun | 5 => 134 | 8 => 148 | 7 => 147 | 19 => 164 | 20 => 165 | 10 => 155 | 11 => 156 | 12 => 157 | 13 => 158 | 14 => 159 | 15 => 160 | 16 => 161 | 17 => 162 | 18 => 163 | 30 => 170 | 31 => 171 | 32 => 172 | 33 => 173 | 34 => 174 | 35 => 175 | 40 => 178 | n => n, fun | 23 => 154 | 25 => 3 | 3 => 3 | 32 => 222 | 22 => 154 | 0 => 0 | 44 => 223 | 46 => 243 | 4 => 4 | 36 => 235 | 35 => 234 | 41 => 239 | 5 => 5 | 9 => 9 | 53 => 249 | 57 => 253 | 63 => 258 | 64 => 176 | n => n, fun | n => n⟩
theorem Tryz.sortA : Go.Proofs.SlLaysM.n5 Tryz.prog Tryz.sortA_ren := {
  mixed := by kernel_rfl
  f5 := ⟨Tryz.f134.name, by decide, Tryz.func134.trans (congrArg some (by kernel_rfl))⟩
  f7 := ⟨Tryz.f147.name, by decide, Tryz.func147.trans (congrArg some (by kernel_rfl))⟩
  f8 := Tryz.func148.trans (congrArg some (by kernel_rfl))
  f10 := ⟨Tryz.f155.name, by decide, Tryz.func155.trans (congrArg some (by kernel_rfl))⟩
  f11 := ⟨Tryz.f156.name, by decide, Tryz.func156.trans (congrArg some (by kernel_rfl))⟩
  f12 := ⟨Tryz.f157.name, by decide, Tryz.func157.trans (congrArg some (by kernel_rfl))⟩
  f13 := ⟨Tryz.f158.name, by decide, Tryz.func158.trans (congrArg some (by kernel_rfl))⟩
  f14 := ⟨Tryz.f159.name, by decide, Tryz.func159.trans (congrArg some (by kernel_rfl))⟩
  f15 := ⟨Tryz.f160.name, by decide, Tryz.func160.trans (congrArg some (by kernel_rfl))⟩
  f16 := ⟨Tryz.f161.name, by decide, Tryz.func161.trans (congrArg some (by kernel_rfl))⟩
  f17 := ⟨Tryz.f162.name, by decide, Tryz.func162.trans (congrArg some (by kernel_rfl))⟩
  f18 := ⟨Tryz.f163.name, by decide, Tryz.func163.trans (congrArg some (by kernel_rfl))⟩
  f19 := Tryz.func164.trans (congrArg some (by kernel_rfl))
  f20 := Tryz.func165.trans (congrArg some (by kernel_rfl))
  f30 := ⟨Tryz.f170.name, by decide, Tryz.func170.trans (congrArg some (by kernel_rfl))⟩
  f31 := Tryz.func171.trans (congrArg some (by kernel_rfl))
  f32 := Tryz.func172.trans (congrArg some (by kernel_rfl))
  f33 := ⟨Tryz.f173.name, by decide, Tryz.func173.trans (congrArg some (by kernel_rfl))⟩
  f34 := ⟨Tryz.f174.name, by decide, Tryz.func174.trans (congrArg some (by kernel_rfl))⟩
  f35 := ⟨Tryz.f175.name, by decide, Tryz.func175.trans (congrArg some (by kernel_rfl))⟩
  f40 := ⟨Tryz.f178.name, by decide, Tryz.func178.trans (congrArg some (by kernel_rfl))⟩
  t0 := Tryz.underlying0
  a0 := Tryz.isAgg0
  z0 := Tryz.sizeOf0
  v0 := Tryz.zeroValue0
  t3 := Tryz.underlying3
  a3 := Tryz.isAgg3
  z3 := Tryz.sizeOf3
  v3 := Tryz.zeroValue3
  t4 := Tryz.underlying4
  a4 := Tryz.isAgg4
  z4 := Tryz.sizeOf4
  v4 := Tryz.zeroValue4
  t5 := Tryz.underlying5
  a5 := Tryz.isAgg5
  z5 := Tryz.sizeOf5
  v5 := Tryz.zeroValue5
  t9 := Tryz.underlying9
  a9 := Tryz.isAgg9
  z9 := Tryz.sizeOf9
  v9 := Tryz.zeroValue9
  t22 := Tryz.underlying154
  a22 := Tryz.isAgg154
  z22 := Tryz.sizeOf154
  v22 := Tryz.zeroValue154
  t23 := Tryz.underlying154
  a23 := Tryz.isAgg154
  z23 := Tryz.sizeOf154
  v23 := Tryz.zeroValue154
  t25 := Tryz.underlying3
  a25 := Tryz.isAgg3
  z25 := Tryz.sizeOf3
  v25 := Tryz.zeroValue3
  t32 := Tryz.underlying222
  a32 := Tryz.isAgg222
  z32 := Tryz.sizeOf222
  v32 := Tryz.zeroValue222
  t35 := Tryz.underlying234
  a35 := Tryz.isAgg234
  z35 := Tryz.sizeOf234
  v35 := Tryz.zeroValue234
  t36 := Tryz.underlying235
  a36 := Tryz.isAgg235
  z36 := Tryz.sizeOf235
  v36 := Tryz.zeroValue235
  t41 := Tryz.underlying239
  a41 := Tryz.isAgg239
  z41 := Tryz.sizeOf239
  v41 := Tryz.zeroValue239
  t44 := Tryz.underlying223
  a44 := Tryz.isAgg223
  z44 := Tryz.sizeOf223
  v44 := Tryz.zeroValue223
  t46 := Tryz.underlying243
  a46 := Tryz.isAgg243
  z46 := Tryz.sizeOf243
  v46 := Tryz.zeroValue243
  t53 := Tryz.underlying249
  a53 := Tryz.isAgg249
  z53 := Tryz.sizeOf249
  v53 := Tryz.zeroValue249
  t57 := Tryz.underlying253
  a57 := Tryz.isAgg253
  z57 := Tryz.sizeOf253
  v57 := Tryz.zeroValue253
  t63 := Tryz.underlying258
  a63 := Tryz.isAgg258
  z63 := Tryz.sizeOf258
  v63 := Tryz.zeroValue258
  t64 := Tryz.underlying176
  a64 := Tryz.isAgg176
  z64 := Tryz.sizeOf176
  v64 := Tryz.zeroValue176 }

theorem keys_call (mb : Option Nat) (W : World) : Calls Tryz.prog 104 #[.map mb] W fun e w' => e = .returned (.func (.func 135) #[] #[.pointer (some ⟨W.heap.size, 0, none⟩)]) ∧ w' = W.alloc (.cells #[.map mb] 104) :=
  (callsIn_wide (n := 5)).1 (AnyZI.keys_in Tryz.keysA Fence.wide 5 trivial rfl mb W)
theorem sortsA (m : Nat) : AnyZI.SortsIn Tryz.prog Tryz.sortedA_ren Fence.wide m :=
  ⟨fun blk off cap ss W hH hblk hsz => callsIn_wide.2 (AnyM.slices_Sort_int Tryz.sortA blk off cap ss W hH hblk hsz),
   fun p cap W => callsIn_wide.2 (AnyM.slices_Sort_int_none Tryz.sortA p cap W)⟩
theorem Rise.nodup {M : List Chg} (h : Rise M) : (M.map (·.b)).Nodup := by
  unfold Rise at h
  unfold List.Nodup
  rw [List.pairwise_map]
  exact List.Pairwise.imp (fun {a b} hab => by omega) h
set_option maxRecDepth 100000 in
theorem sorted_call {b N : Nat} {w : World} {M : List Chg} (h : Um.MIs b w N M) (hl : M.length ≤ 1000000000000) : Calls Tryz.prog 103 #[.func (.func 135) #[] #[.pointer (some ⟨w.heap.size, 0, none⟩)]] (w.alloc (.cells #[.map (some b)] 104)) fun e w' => ∃ v, e = .returned v ∧ IRow (w.heap.size + 1) w' v (M.map (·.b)) ∧ Below (w.heap.size + 1) (w.alloc (.cells #[.map (some b)] 104)) w' := by
  obtain ⟨n, D, hown, h2, hs, h3, h4, h5, hr⟩ := h
  have hbl := hown.lt
  have hseq : SeqGives Fence.wide 2 Tryz.prog 135 #[.pointer (some ⟨w.heap.size, 0, none⟩)] encZ (fun ss => ss.Perm (intKeys D)) (Maps.size D) (w.alloc (.cells #[.map (some b)] 104)) :=
    AnyZI.keys_gives (ρ := Tryz.keysA_ren) { Tryz.keysA with } Fence.wide _ trivial rfl (by omega) w.heap.size b n D _ (by simp) (by simp) (by
      obtain ⟨es, clock, hb, Ft, hs, hD⟩ := hown
      exact ⟨es, clock, (Below.heap_alloc _ _ b hbl).trans hb, Ft, hs, hD⟩)
  have cS := AnyZI.sorted_in Tryz.sortedA Fence.wide 5 trivial trivial trivial trivial rfl (by omega) (sortsA _) (enters_of Tryz.func134 (by kernel_rfl) rfl) 135 #[.pointer (some ⟨w.heap.size, 0, none⟩)] trivial (enters_of Tryz.func135 (by kernel_rfl) rfl) _ _ (by unfold maxLen; omega) (by omega) _ hseq
  change CallsIn _ _ Tryz.prog 103 _ _ _ at cS
  refine ((callsIn_wide (n := 5)).1 cS).mono ?_
  rintro e w' ⟨v, ss, rfl, hS, hrow, hnil, hb⟩
  have hc : CollectedI D (fun _ => false) (M.map (·.b)) := by
    refine ⟨hr.nodup, fun x => ?_⟩
    rw [show (Lit.int .i64 x) = Um.kl x from rfl, h3 x, List.any_eq_true]
    constructor
    · intro hx
      obtain ⟨c, hc, rfl⟩ := List.mem_map.1 hx
      exact ⟨⟨c, hc, by simp⟩, rfl⟩
    · rintro ⟨⟨c, hc, hcx⟩, _⟩
      exact List.mem_map.2 ⟨c, hc, by simpa using hcx⟩
  have hp := hc.perm hown Um.law Tryz.underlying3 (fun _ => rfl)
  have hsort : ss.mergeSort (fun x y => decide (x ≤ y)) = M.map (·.b) := by
    have e1 : ss.mergeSort leI = (M.map (·.b)).mergeSort leI := mergeSort_of_perm_i (hS.trans hp.symm)
    refine e1.trans (List.mergeSort_of_pairwise ?_)
    rw [List.pairwise_map]
    unfold Rise at hr
    exact List.Pairwise.imp (fun {a b} hab => by simp only [leI, decide_eq_true_eq]; omega) hr
  have hlen : ss.length = (M.map (·.b)).length := by rw [(hS.trans hp.symm).length_eq]
  rw [hsort, hlen] at hrow
  rw [World.size_alloc] at hrow hb
  exact ⟨v, rfl, hrow, hb⟩
set_option maxRecDepth 100000 in
/-- what a map of changes has at one of its blocks -/
theorem Um.MIs.get {b N : Nat} {w : World} {M : List Chg} (h : Um.MIs b w N M) {c : Chg} (hc : c ∈ M) : (Instr.lookup 104 (.map (some b)) (.int .i64 c.b) false).run Tryz.prog w = .ok (valC c) w := by
  obtain ⟨n, D, h1, h2, hs, h3, h4, h5, hr⟩ := h
  obtain ⟨hi, hat⟩ := h4 c hc
  obtain ⟨v, ps, hrun, hv⟩ := h1.lookup Um.law Tryz.underlying104 (Um.zero94 w) (Um.RC_mk _) (Um.hkey c.b hi)
  obtain ⟨c', rfl, e⟩ := Um.RC_inv hv
  have e1 := (Prod.mk.inj e).1
  rw [hrun]
  have e2 := hat (Um.datC ⟨0, ByteArray.empty⟩)
  have := Um.datC_inj (e2.symm.trans e1)
  rw [this]
theorem Um.MIs.notcells {b N : Nat} {w : World} {M : List Chg} (h : Um.MIs b w N M) : ∀ cur, w.heap[b]? ≠ some (.cells cur 133 (0, 0)) := by
  obtain ⟨n, D, ⟨es, clock, h1, _⟩, _⟩ := h
  intro cur e
  rw [h1] at e; cases e
theorem IRow.at {base : Nat} {w : World} {ao : Option Addr} {n cap : Nat} {l : List Int} (h : IRow base w (.slice ao n cap) l) {i : Nat} (hi : i < l.length) : ∃ gb, ao = some ⟨gb, 0, none⟩ ∧ w.cell? ⟨gb, i, none⟩ = some (.int .i64 l[i]) ∧ ∃ cur, w.heap[gb]? = some (.cells cur 3 (0, 0)) := by
  rcases h with ⟨_, ⟨e, hz⟩ | ⟨gb, cap', cur, e, hbase, hgb, r1, r2, r3, r4⟩⟩
  · omega
  · cases e
    refine ⟨gb, rfl, ?_, cur, hgb⟩
    have e1 : cur.toList[i]? = (l.map (Value.int .i64))[i]? := by rw [← r4, List.getElem?_take_of_lt (by omega)]
    rw [Array.getElem?_toList, List.getElem?_map, List.getElem?_eq_getElem hi] at e1
    simp [World.cell?, hgb, e1]
set_option maxRecDepth 100000 in
theorem run_field94 (a : Value) (u : ByteArray) (w : World) : (Instr.field 94 (.agg #[a, .string u]) 1).run Tryz.prog w = .ok (.string u) w := by
  simp [Instr.field, run_underlying Tryz.underlying94, go_sem, asAgg, Result.andThen]
/-- the first acts of a checkpoint -/
def actsM (M : List Chg) : List AT := M.map fun c => ⟨0, c.b, c.d⟩
theorem actsM_len (M : List Chg) : (actsM M).length = M.length := by simp [actsM]
theorem actsM_take (l : List Chg) (q : Nat) (h : q < l.length) : (actsM l).take (q + 1) = (actsM l).take q ++ [⟨0, l[q].b, l[q].d⟩] := by
  rw [List.take_succ_eq_append_getElem (by rw [actsM_len]; exact h)]
  simp [actsM]
set_option maxRecDepth 100000 in
set_option maxHeartbeats 4000000 in
theorem lay_some {s g x y z j m N : Nat} {ao : Option Addr} {uv : Value} {c : Int} {r : Option Nat} {P : Int} {T F T' : Nat} {l : List Int} {M : List Chg} (hP : 0 < P) (hP2 : P ≤ 300) (hT : T < P) (hF : F + l.length ≤ 1099511628000) (hl0 : l.length ≠ 0) (hl : l.length ≤ 300) (hn : ∀ x ∈ l, 0 ≤ x) (hs : sumI l ≤ P) (hT' : (T' : Int) = ((T : Int) + sumI l) % P) (hMl : M.length ≤ 1900) (w : World) (hst : StIs s w g x y z j (.slice ao 0 0) m uv c) (hj : JS j r w P T F l.length l) (hM : Um.MIs m w N M) (hsj : s ≠ j) (hsr : some s ≠ r) (hms : m ≠ s) :
    Calls Tryz.prog 56 #[.pointer (some ⟨s, 0, none⟩)] w fun e w' => e = .returned (.tuple #[]) ∧ Q.SA w.heap.size s w' g x y z j m uv c (layA M (hdB T' (F + l.length) (F + l.length))) ∧ JS j r w' P T' (F + l.length) 0 [] ∧ CF s j r w w' := by
  have HCN := hid (fun w h => jcount j r P T F l.length l hP w h)
  have HSC := hid (fun w (h : Um.MIs m w N M) => sorted_call h (by omega))
  have HDN := hid (fun w h => jdone j r P T F l.length l l.length T' hP hP2 hT hF (Nat.le_refl _) (Nat.le_refl _) hl hn hs (by rw [List.take_of_length_le (Nat.le_refl _)]; exact hT') w h)
  have HST := hid hst
  have HJ := hid hj
  have HM := hid hM
  have hsl := hst.lt
  have hml := hM.lt
  have hjl := hj.lt
  have HRL : Hid (∀ a, r = some a → a < w.heap.size) := hid fun a ha => (hjl.2 a ha).1
  have hj1 := hjl.1
  have hmn := HM.out.notcells
  have HMN := hid hmn
  have c9 : w.cell? ⟨s, 9, none⟩ = some (.pointer (some ⟨j, 0, none⟩)) := (hst.cell 9).trans rfl
  have c11 : w.cell? ⟨s, 11, none⟩ = some (.map (some m)) := (hst.cell 11).trans rfl
  rw [Nat.sub_self, List.drop_of_length_le (Nat.le_refl _)] at HDN
  clear hst hj hM hjl hmn hn
  go_enter Tryz.func56, Tryz.ntmps56
  go_wp2_with (first
    | (go_at_call 102; refine (HCN.out _ HJ.out).mono ?_; rintro e w1 ⟨rfl, q1, hw⟩; have hw := hw.symm; subst hw)
    | (go_at_call 104; refine (keys_call _ _).mono ?_; rintro e w1 ⟨rfl, rfl⟩)
    | (go_at_call 103; refine (HSC.out (w.drewN q1) (HM.out.same rfl)).mono ?_; rintro e w2 ⟨v2, rfl, hv2, hb2⟩
       have HV2 := hid hv2
       have HB2 : Hid (Below w.heap.size w w2) := hid ((show Below w.heap.size w (w.drewN q1) from ⟨rfl, rfl, rfl, Nat.le_refl _, fun _ _ => rfl⟩).trans ((below_alloc (w.drewN q1) (.cells #[.map (some m)] 104)).trans (hb2.mono (Nat.le_succ _))))
       obtain ⟨a2, p2, e2, _, _⟩ := hv2.len
       rw [List.length_map] at e2
       subst e2
       clear hv2 hb2))
  have HS2 : Hid (Q.SA w.heap.size s w2 g x y z j m uv c []) := hid ⟨⟨_, HST.out.below HB2.out, Q.ARow.none _ _ _⟩, hsl, HB2.out.size⟩
  have HSS : Hid (w2.heap[s]? = some (.cells (stC g x y z j (.slice ao 0 0) m uv c) 107 (0, 0))) := hid (HST.out.below HB2.out)
  clear c9 c11 hw
  go_loopw [25] (fun i wr => ∃ q : Nat, i = .int .i64 q ∧ q ≤ M.length ∧ Q.SA w.heap.size s wr g x y z j m uv c ((actsM M).take q) ∧ AF w.heap.size s w2 wr) (fun i _ => M.length - (intOf i).toNat)
  case atStart => exact ⟨0, rfl, Nat.zero_le _, HS2.out, AF.refl _ _ _⟩
  case round =>
    obtain ⟨q, rfl, hq, hsq, haq⟩ := hrel
    have HSq := hid hsq
    have HAq := hid haq
    clear hsq haq
    have hsz2 := HB2.out.size
    by_cases hqw : q < M.length
    · obtain ⟨gb, e2, k0, cur, hgb⟩ := HV2.out.at (i := q) (by rw [List.length_map]; exact hqw)
      subst e2
      have hgs : gb ≠ s := by
        intro e
        have h0 := HSS.out
        rw [← e, hgb] at h0
        simp at h0
      have g0 : wr.cell? ⟨gb, q, none⟩ = some (.int .i64 M[q].b) := by
        have hbe := HAq.out.block gb (lt_of_block hgb) hgs (.inr (fun cur' e => by rw [hgb] at e; simp at e))
        rw [List.getElem_map] at k0
        simp only [World.cell?] at k0 ⊢
        rw [hbe]; exact k0
      have hget := ((HM.out.same (HB2.out.block m hml)).same (HAq.out.block m (by omega) hms (.inr (fun cur' e => HMN.out cur' ((HB2.out.block m hml).symm.trans e))))).get (List.getElem_mem hqw)
      have g11 : wr.cell? ⟨s, 11, none⟩ = some (.map (some m)) := by
        obtain ⟨avq, hk, _⟩ := HSq.out.ex
        exact (hk.cell 11).trans rfl
      have HTK := hid (actsM_take M q hqw)
      obtain ⟨cq, hcq⟩ : ∃ cq, cq = M[q] := ⟨_, rfl⟩
      rw [← hcq] at g0 hget HTK
      unfold valC at hget
      have hfd := run_field94 (.int .i64 cq.b) cq.d
      have HSW := hid (fun w' (h : Q.SA w.heap.size s w' g x y z j m uv c ((actsM M).take q)) => Q.swrite cq.b cq.d (by rw [List.length_take, actsM_len]; omega) w' h)
      clear k0 hcq hgb hgs cur
      go_wp2_with (first
        | (go_at_call 105; refine (HSW.out _ HSq.out).mono ?_; rintro e w7 ⟨rfl, hs7, ha7⟩))
      go_roundw
      case rel =>
        refine ⟨q + 1, by go_num, by omega, ?_, HAq.out.trans ha7⟩
        rw [HTK.out]; exact hs7
      case measure => simp only [intOf] at *; omega
    · have hqe : q = M.length := by omega
      have HS7 : Hid (Q.SA w.heap.size s wr g x y z j m uv c (actsM M)) := by
        have k := HSq.out
        rw [hqe, List.take_of_length_le (by rw [actsM_len]; omega)] at k
        exact hid k
      subst hqe
      have HFL1 := hid (fun w' (h : Q.SA w.heap.size s w' g x y z j m uv c (actsM M)) => Q.sflush 1 (by rw [actsM_len]; omega) w' h)
      obtain ⟨hdr, hhdr⟩ : ∃ hdr, hdr = hdB T' (F + l.length) (F + l.length) := ⟨_, rfl⟩
      rw [← hhdr] at HDN
      have HHD := hid hhdr
      have HLG := hid (fun w' (h : Q.SA w.heap.size s w' g x y z j m uv c (actsM M ++ [⟨1, 0, ByteArray.empty⟩])) => Q.slog 0 ⟨by decide, by decide⟩ hdr (by rw [List.length_append, actsM_len]; show M.length + 1 ≤ _; omega) w' h)
      have HFL3 := hid (fun w' (h : Q.SA w.heap.size s w' g x y z j m uv c (actsM M ++ [⟨1, 0, ByteArray.empty⟩] ++ [⟨0, 1 + 0, hdr⟩])) => Q.sflush 2 (by rw [List.length_append, List.length_append, actsM_len]; show M.length + 1 + 1 ≤ _; omega) w' h)
      have HJ7 := hid ((HJ.out.below HB2.out).af HAq.out (Ne.symm hsj) (Ne.symm hsr) hj1 HRL.out)
      have HC7 : Hid (CF s j r w wr) := hid ((CF.of_below HB2.out).af HAq.out (Nat.le_refl _))
      clear hhdr
      go_wp2_with (first
        | (go_at_call 67; have hk := HS10; clear hk; refine (HFL3.out _ (by exact HS10.out)).mono ?_; rintro e w11 ⟨rfl, hs11, ha11⟩
           have HS11 := hid hs11
           have HC11 := hid (HC10.out.af ha11 (Nat.le_refl _))
           have HJ11 := hid (HJ10.out.af ha11 (Ne.symm hsj) (Ne.symm hsr) hj1 HRL.out)
           clear hs11 ha11)
        | (go_at_call 66; refine (HLG.out _ (by exact HS9.out.below (below_alloc _ _))).mono ?_; rintro e w10 ⟨rfl, hs10, ha10⟩
           have HS10 := hid hs10
           have HC10 := hid (HC9.out.bel (below_alloc _ _) |>.af ha10 (Nat.le_refl _))
           have HJ10 := hid ((HJ9.out.below (below_alloc _ _)).af ha10 (Ne.symm hsj) (Ne.symm hsr) hj1 HRL.out)
           clear hs10 ha10)
        | (go_at_call 106; refine (HDN.out _ (by exact HJ8.out)).mono ?_; rintro e w9 ⟨rfl, hj9, hf9⟩
           have HJ9 := hid hj9
           have HS9 := hid (HS8.out.jfr hf9 hsj hsr hj1 HRL.out)
           have HC9 := hid (HC8.out.jfr (.inl rfl) hf9)
           clear hj9 hf9)
        | (go_at_call 67; refine (HFL1.out _ (by exact HS7.out)).mono ?_; rintro e w8 ⟨rfl, hs8, ha8⟩
           have HS8 := hid hs8
           have HC8 := hid (HC7.out.af ha8 (Nat.le_refl _))
           have HJ8 := hid (HJ7.out.af ha8 (Ne.symm hsj) (Ne.symm hsr) hj1 HRL.out)
           have g9 : w8.cell? ⟨s, 9, none⟩ = some (.pointer (some ⟨j, 0, none⟩)) := by
             obtain ⟨av, k, _⟩ := HS8.out.ex
             exact (k.cell 9).trans rfl
           clear hs8 ha8))
      go_end0
      refine ⟨rfl, ?_, HJ11.out, HC11.out⟩
      have k := HS11.out
      rw [List.append_assoc, List.append_assoc, HHD.out] at k
      exact k
end Go.Proofs.YtopebghandojbaaGreat
namespace Go.Proofs.YtopebghandojbaaGreat
open Go.RowKit Go.Maps
end Go.Proofs.YtopebghandojbaaGreat
namespace Go.Proofs.YtopebghandojbaaGreat
open Go.RowKit Go.Maps

theorem Um.MIs.shrink {b N : Nat} {w : World} {M : List Chg} (h : Um.MIs b w N M) : Um.MIs b w M.length M := by
  obtain ⟨n, D, h1, h2, hs, h3⟩ := h
  refine ⟨M.length, D, ?_, Nat.le_refl _, hs, h3⟩
  obtain ⟨es', e1, hap, hkl0⟩ := h1.entries Um.law
  obtain ⟨es, clock, hb, F, hs', hD⟩ := h1
  refine ⟨es, clock, hb, F, ?_, hD⟩
  have hlen : es.size = es'.length := by
    have : (DataW.map es' : DataW Unit) = .map ((es.toList.map (WideElems.rg Tryz.prog 3 Um.RC)).foldr DataW.insert []) := by rw [← e1, hD]
    cases this
    rw [length_sorted]; simp
  rw [hlen, ← hs, e1]
  exact Nat.le_refl _
theorem Um.MIs.clear {b N : Nat} {w : World} {M : List Chg} (h : Um.MIs b w N M) (ty : TypeId) :
    ∃ w', (Builtin.clear_ #[104] ty #[.map (some b)]).run Tryz.prog w = .ok (.tuple #[]) w' ∧ Um.MIs b w' 0 [] ∧ w.grownBy w' (some b) ∧ w'.heap.size = w.heap.size := by
  obtain ⟨n, D, ⟨es, clock, h1, F, h4⟩, h2, h3⟩ := h
  refine ⟨_, by simp [Builtin.clear_, run_underlying Tryz.underlying104, MapKept.run_getObj_map h1, MapKept.run_setObj_map _ h1, Result.andThen]; rfl, ?_, ?_, ?_⟩
  · exact ⟨0, .map [], ⟨#[], clock, (MapKept.heap_set h1).1, ⟨by simp, MapKept.stamped_empty clock, by simp⟩, Nat.le_refl _, rfl⟩, Nat.le_refl _, rfl, fun k => rfl, (fun c h => by cases h), (fun l h => by cases h), List.Pairwise.nil⟩
  · exact ⟨rfl, rfl, rfl, by simp, fun i _ hi => (MapKept.heap_set h1).2 i (fun e => hi (by rw [e]))⟩
  · simp
theorem Dv.DIs.shrink {base g N : Nat} {w : World} {S : Dv.DS} {fp : List Nat} (h : Dv.DIs base g w N S fp) : Dv.DIs base g w 1048576 S fp := by
  obtain ⟨⟨bl, bf, wv, h1, h2, h3, h4, h5⟩, h6, h7, h8, h9⟩ := h
  exact ⟨⟨bl, bf, wv, h1, h2, h3.shrink, h4.shrink, h5⟩, h6, h7, h8, h9⟩
/-- changes of blocks that a device may have -/
def Sml (M : List Chg) : Prop := Rise M ∧ ∀ c ∈ M, 0 ≤ c.b ∧ c.b < 1024
theorem Sml.len {M : List Chg} (h : Sml M) : M.length ≤ 1024 := by
  have := Dv.nodup_len 1024 (M.map fun c => c.b.toNat) (by
    have h1 := h.1
    unfold Rise at h1
    rw [List.pairwise_map]
    exact (List.pairwise_iff_getElem.2 fun i j hi hj hij => by
      have k1 := List.pairwise_iff_getElem.1 h1 i j hi hj hij
      have k2 := h.2 _ (List.getElem_mem hi)
      have k3 := h.2 _ (List.getElem_mem hj)
      show M[i].b.toNat ≠ M[j].b.toNat
      omega)) (fun n hn => by
    obtain ⟨c, hc, rfl⟩ := List.mem_map.1 hn
    have := h.2 c hc
    omega)
  rw [List.length_map] at this
  exact this
theorem Sml.nil : Sml [] := ⟨List.Pairwise.nil, fun c hc => by cases hc⟩
theorem Sml.merge {M L : List Chg} (h : Sml M) (k : Sml L) : Sml (Um.mergeL M L) :=
  ⟨Um.mergeL_rise h.1, fun c hc => by
    rcases (Um.mergeL_mem h.1 k.1 c).1 hc with h1 | ⟨h1, _⟩
    · exact k.2 c h1
    · exact h.2 c h1⟩
theorem Sml.ok {M : List Chg} (h : Sml M) : ∀ c ∈ M, inI c.b := fun c hc => by
  have := h.2 c hc
  unfold inI; omega
set_option maxRecDepth 100000 in
set_option maxHeartbeats 4000000 in
theorem step_any2 {s g x y z j m : Nat} {av uv : Value} {c : Int} (a : AT) (A : List AT) (hlen : A.length ≤ 1000) (w : World) (hst : StIs s w g x y z j av m uv c) (hA : ALie w av (a :: A)) (hav : ∀ b, av.ownBlock = some b → b ≠ s) (Post : World → Prop)
    (hdo : ∀ w1 av', StIs s w1 g x y z j av' m uv c → ALie w1 av' A → (∃ ao, av' = .slice ao A.length A.length) → (∀ b, av'.ownBlock = some b → av.ownBlock = some b) → Dv.Only [s] w w1 → Calls Tryz.prog 74 #[.pointer (some ⟨s, 0, none⟩), .agg #[.int .i64 a.k, .int .i64 a.a, .string a.d]] w1 fun e w' => e = .returned (.tuple #[]) ∧ Post w' ∧ ∃ uv' c', StIs s w' g x y z j av' m uv' c') :
    Calls Tryz.prog 18 #[.pointer (some ⟨s, 0, none⟩)] w fun e w' => e = .returned (.tuple #[.bool (!decide (0 < A.length)), .int .i64 0]) ∧ Post w' := by
  obtain ⟨ao, cap, hve, hlc, hcm, hcell⟩ := id hA
  obtain ⟨gb, off, e, hgl, k0, k1, k2⟩ := hcell 0 (by simp)
  subst e
  have hve : av = .slice (some ⟨gb, off, none⟩) (A.length + 1) cap := hve
  subst hve
  have hlc : A.length + 1 ≤ cap := hlc
  obtain ⟨off', hcut, hcl⟩ := ALie.cut (gb := gb) (off := off) a hlc hcm
  have k0 : w.cell? ⟨gb, off, none⟩ = some (.int .i64 a.k) := k0
  have k1 : w.cell? ⟨gb, off + 1, none⟩ = some (.int .i64 a.a) := k1
  have k2 : w.cell? ⟨gb, off + 2, none⟩ = some (.string a.d) := k2
  have HBU := hid (busy_any w hst)
  rw [decide_eq_true (show 0 < A.length + 1 by omega)] at HBU
  have HBE := hid (fun w1 (uv' : Value) (c' : Int) (h : StIs s w1 g x y z j (.slice (some ⟨gb, off', none⟩) A.length A.length) m uv' c') => busy_any w1 h)
  have hsg : gb ≠ s := hav gb rfl
  have HST := hid hst
  have c10 : w.cell? ⟨s, 10, none⟩ = some (.slice (some ⟨gb, off, none⟩) (A.length + 1) cap) := (hst.cell 10).trans rfl
  have f10 := hst.free 10
  have hsl := hst.lt
  have HDO := hid hdo
  have HA := hid hA
  have HCL := hid hcl
  unfold maxLen at hcm
  clear hcell hdo hst hA hcl hav
  go_enter Tryz.func18, Tryz.ntmps18
  go_upto_region 4 with (first
    | (go_at_call 21; refine HBU.out.mono ?_; rintro e w1 ⟨rfl, hw⟩; have hw := hw.symm; subst hw))
  have HB1 := hid (below_alloc w (.cells #[.int .i64 a.k, .int .i64 a.a, .string a.d] 133))
  have HV1 := hid (box_at w (.cells #[.int .i64 a.k, .int .i64 a.a, .string a.d] 133))
  obtain ⟨w1, hw1⟩ : ∃ w1, w1 = w.alloc (.cells #[.int .i64 a.k, .int .i64 a.a, .string a.d] 133) := ⟨_, rfl⟩
  rw [← hw1] at HB1 HV1 ⊢
  clear hw1 k0 k1 k2 c10 f10
  have HS1 := hid (HST.out.below HB1.out)
  have c10 : w1.cell? ⟨s, 10, none⟩ = some (.slice (some ⟨gb, off, none⟩) (A.length + 1) cap) := (HS1.out.cell 10).trans rfl
  have f10 := HS1.out.free 10
  go_region
  have hO2 : Dv.Only [s] w (w1.setCell ⟨s, 10, none⟩ (.slice (some ⟨gb, off', none⟩) A.length A.length)).drew := ((Dv.Only.of_below HB1.out).trans (Dv.Only.setCell (fp := [s]) _ (by simp)) (fun _ h => .inl h)).drew
  have hS2 : StIs s (w1.setCell ⟨s, 10, none⟩ (.slice (some ⟨gb, off', none⟩) A.length A.length)).drew g x y z j (.slice (some ⟨gb, off', none⟩) A.length A.length) m uv c := HS1.out.acts _
  have hV2 : (w1.setCell ⟨s, 10, none⟩ (.slice (some ⟨gb, off', none⟩) A.length A.length)).drew.heap[w.heap.size]? = some (.cells #[.int .i64 a.k, .int .i64 a.a, .string a.d] 133 (0, 0)) := (Below.heap_setCell _ _ _ _ (by show w.heap.size ≠ s; omega)).trans HV1.out
  obtain ⟨w2, hw2⟩ : ∃ w2, w2 = (w1.setCell ⟨s, 10, none⟩ (.slice (some ⟨gb, off', none⟩) A.length A.length)).drew := ⟨_, rfl⟩
  rw [← hw2] at hO2 hS2 hV2 ⊢
  have HO2 := hid hO2
  have HS2 := hid hS2
  have HA2 := hid (HCL.out _ (ALie.only hO2 HA.out (fun b hb => by
    have hb : some gb = some b := hb
    cases hb
    simp; exact hsg)))
  obtain ⟨v0, v1, v2⟩ := three_cells hV2
  clear hw2 hO2 hS2 hV2 c10 f10 hcut
  go_wp2_with (first
    | (go_at_call 21; refine (HBE.out _ _ _ (by exact HS3.out)).mono ?_; rintro e w4 ⟨rfl, hw⟩; have hw := hw.symm; subst hw)
    | (go_at_call 74; refine (HDO.out _ _ HS2.out HA2.out ⟨_, rfl⟩ (fun _ h => h) HO2.out).mono ?_; rintro e w3 ⟨rfl, hp3, uv3, c3, hs3⟩
       have HS3 := hid hs3
       have HP3 := hid hp3
       clear hs3 hp3))
  go_ret2
  exact ⟨rfl, HP3.out⟩
set_option maxRecDepth 100000 in
set_option maxHeartbeats 2000000 in
theorem do_lay {base s g x y z j m N Nm : Nat} {S : Dv.DS} {fp : List Nat} {av uv : Value} {c : Int} {M : List Chg} (hN : N ≤ 100000000) (w : World) (hst : StIs s w g x y z j av m uv c) (hD : Dv.DIs base g w N S fp) (hM : Um.MIs m w Nm M) (hs : s ∉ fp) (hm : m ∉ fp) (hms : m ≠ s) :
    Calls Tryz.prog 74 #[.pointer (some ⟨s, 0, none⟩), .agg #[.int .i64 2, .int .i64 0, .string ByteArray.empty]] w fun e w' => e = .returned (.tuple #[]) ∧ StIs s w' g x y z j av m uv c ∧ Dv.DIs base g w' (N + N) ⟨S.n, Dv.seen S.L S.Q, []⟩ fp ∧ Um.MIs m w' 0 [] ∧ Dv.Only (m :: fp) w w' := by
  have hb1 := below_alloc w (.cells #[.int .i64 2, .int .i64 0, .string ByteArray.empty] 133)
  have HFL := hid (Dv.flush_any hN _ (hD.below hb1))
  have HB1 := hid hb1
  have HLO := hid (fun k hk => (hD.lo k hk).2)
  have c0 : w.cell? ⟨s, 0, none⟩ = some (.pointer (some ⟨g, 0, none⟩)) := (hst.cell 0).trans rfl
  have hsl := hst.lt
  have HST := hid (hst.below hb1)
  have HM := hid (hM.same (hb1.block m hM.lt))
  have hml := HM.out.lt
  clear hst hD hb1 hM
  go_enter Tryz.func74, Tryz.ntmps74
  go_upto_region 6 with (first
    | (go_at_call 31; refine HFL.out.mono ?_; rintro e w5 ⟨rfl, hd5, ho5⟩
       have HD5 := hid hd5
       have HO5 := hid ho5
       clear hd5 ho5
       have hv5 : w5.heap[w.heap.size]? = some (.cells #[.int .i64 2, .int .i64 0, .string ByteArray.empty] 133 (0, 0)) := (HO5.out.block _ (lt_of_block (box_at w _)) (fun hm => by have := HLO.out _ hm; omega)).trans (box_at w _)
       obtain ⟨v0, v1, v2⟩ := three_cells hv5
       have HS5 := hid (HST.out.only HO5.out hs)
       have HM5 := hid (HM.out.same (HO5.out.block m hml hm))
       have c11 : w5.cell? ⟨s, 11, none⟩ = some (.map (some m)) := (HS5.out.cell 11).trans rfl))
  obtain ⟨w6, hrun, hM6, hg6, hs6⟩ := HM5.out.clear 0
  have hrun' : ∀ ty, (Builtin.clear_ #[104] ty #[.map (some m)]).run Tryz.prog w5 = .ok (.tuple #[]) w6 := fun ty => by
    rw [← hrun]; rfl
  have HM6 := hid hM6
  have HG6 : Hid (Dv.Only [m] w5 w6) := hid (Dv.Only.of_grown hg6 (by simp))
  clear hrun hM6 hg6 hs6
  go_wp2
  go_end0
  refine ⟨rfl, HS5.out.only HG6.out (by simp; exact Ne.symm hms), HD5.out.other HG6.out (fun a ha => by simp; exact fun e => hm (e ▸ ha)), HM6.out, ?_⟩
  refine ((Dv.Only.of_below (fp := m :: fp) HB1.out).trans HO5.out ?_).trans HG6.out ?_
  · intro a ha; exact .inl (by simp [ha])
  · intro a ha; simp at ha; exact .inl (by simp [ha])
end Go.Proofs.YtopebghandojbaaGreat
namespace Go.Proofs.YtopebghandojbaaGreat
open Go.RowKit Go.Maps

/-- a store and its device, from a block on, with acts that wait -/
structure Rn (B s g x y z j m : Nat) (w : World) (σ : MS) (A : List AT) (T F : Nat) (l : List Int) : Prop where
  ex : ∃ av uv N fp r, StIs s w g x y z j av m uv σ.c ∧ ALie w av A ∧ (A = [] → ∃ ao, av = .slice ao 0 0) ∧ Dv.DIs B g w N ⟨x, σ.f, σ.Q⟩ fp ∧ CLie w uv σ.U ∧ JS j r w ((y : Int) - 1) T F l.length l ∧
    s ∉ fp ∧ m ∉ fp ∧ j ∉ fp ∧ (∀ b, r = some b → b ∉ fp ∧ b ≠ s ∧ b ≠ m ∧ b ≠ j ∧ B ≤ b) ∧ (A ≠ [] → ∀ b, av.ownBlock = some b → b ∉ fp ∧ b ≠ s ∧ b ≠ m ∧ b ≠ j ∧ b < w.heap.size) ∧ (∀ b, uv.ownBlock = some b → b ∉ fp ∧ b ≠ m ∧ b ≠ s ∧ b ≠ j ∧ b < w.heap.size)
  mis : Um.MIs m w σ.M.length σ.M
  sm : Sml σ.M
  su : Sml σ.U ∧ σ.U.length ≤ 48
  ms : m ≠ s
  js : j ≠ s
  jm : j ≠ m
  sB : B ≤ s
  mB : B ≤ m
  jB : B ≤ j
theorem Rn.lt {B s g x y z j m : Nat} {w : World} {σ : MS} {A : List AT} {T F : Nat} {l : List Int} (h : Rn B s g x y z j m w σ A T F l) : s < w.heap.size ∧ m < w.heap.size ∧ j < w.heap.size := by
  obtain ⟨av, uv, N, fp, r, h1, _, _, _, _, h6, _⟩ := h.ex
  exact ⟨h1.lt, h.mis.lt, h6.lt.1⟩
theorem Rn.below {B s g x y z j m : Nat} {w w' : World} {σ : MS} {A : List AT} {T F : Nat} {l : List Int} (h : Rn B s g x y z j m w σ A T F l) (k : Below w.heap.size w w') : Rn B s g x y z j m w' σ A T F l := by
  obtain ⟨⟨av, uv, N, fp, r, h1, h2, h3, h4, h5, h6, n1, n2, n3, n4, n5, n6⟩, h7, h8, h9, h10, h11, h12, h13, h14, h15⟩ := h
  refine ⟨⟨av, uv, N, fp, r, h1.below k, ALie.only (Dv.Only.of_below (fp := []) k) h2 (fun _ _ => by simp), h3, h4.below k, h5.below k, h6.below k, n1, n2, n3, n4, fun hA b hb => ?_, fun b hb => ?_⟩, h7.same (k.block m h7.lt), h8, h9, h10, h11, h12, h13, h14, h15⟩
  · obtain ⟨a1, a2, a3, a4, a6⟩ := n5 hA b hb
    exact ⟨a1, a2, a3, a4, Nat.lt_of_lt_of_le a6 k.size⟩
  · obtain ⟨a1, a2, a3, a4, a6⟩ := n6 b hb
    exact ⟨a1, a2, a3, a4, Nat.lt_of_lt_of_le a6 k.size⟩
theorem Rn.busy {B s g x y z j m : Nat} {w : World} {σ : MS} {A : List AT} {T F : Nat} {l : List Int} (h : Rn B s g x y z j m w σ A T F l) : Calls Tryz.prog 21 #[.pointer (some ⟨s, 0, none⟩)] w fun e w' => e = .returned (.bool (decide (0 < A.length))) ∧ w' = w := by
  obtain ⟨av, uv, N, fp, r, h1, ⟨ao, cap, rfl, _⟩, _⟩ := h.ex
  exact busy_any w h1
theorem MS.act_w {σ : MS} {a : AT} (h : a.k = 0) : σ.act a = { σ with Q := σ.Q ++ [(a.a.toNat, a.d)] } := if_pos h
theorem MS.act_f {σ : MS} {a : AT} (h : a.k = 1) : σ.act a = { σ with f := Dv.seen σ.f σ.Q, Q := [] } := by unfold MS.act; rw [if_neg (by omega), if_pos h]
theorem MS.act_l {σ : MS} {a : AT} (h : a.k = 2) : σ.act a = { σ with f := Dv.seen σ.f σ.Q, Q := [], M := [] } := by unfold MS.act; rw [if_neg (by omega), if_neg (by omega), if_pos h]
theorem MS.act_c {σ : MS} {a : AT} (h : a.k = 3) : σ.act a = { f := Dv.seen σ.f σ.Q, Q := [], M := Um.mergeL σ.M σ.U, U := [], c := σ.c + 1 } := by unfold MS.act; rw [if_neg (by omega), if_neg (by omega), if_neg (by omega)]
theorem Rn.step {B s g x y z j m : Nat} {w : World} {σ : MS} {a : AT} {A : List AT} {T F : Nat} {l : List Int} (h : Rn B s g x y z j m w σ (a :: A) T F l) (ha : AOk x a) (hA : A.length ≤ 1000) (hQ : σ.Q.length ≤ 100000) (hc : 0 ≤ σ.c ∧ σ.c ≤ 1000000000000000) (hBw : B ≤ w.heap.size) :
    Calls Tryz.prog 18 #[.pointer (some ⟨s, 0, none⟩)] w fun e w' => e = .returned (.tuple #[.bool (!decide (0 < A.length)), .int .i64 0]) ∧ Rn B s g x y z j m w' (σ.act a) A T F l ∧ Below B w w' := by
  obtain ⟨⟨av, uv, N, fp, r, h1, h2, h3, h4, h5, h6, n1, n2, n3, n4, n5, n6⟩, h7, h8, h9, h10, h11, h12, h13, h14, h15⟩ := h
  have n5 := n5 (by simp)
  have h4 := h4.shrink
  have hml := h7.lt
  have hjl := h6.lt
  have hfl := h4.lo
  have hsl := h1.lt
  refine (step_any2 a A hA w h1 h2 (fun b hb => (n5 b hb).2.1) (fun w' => Rn B s g x y z j m w' (σ.act a) A T F l ∧ Below B w w') ?_).mono fun e w' hh => ⟨hh.1, hh.2⟩
  intro w1 av' k1 k2 k3 k4 k5
  -- what is of the world behind the cut
  have D1 := h4.other k5 (fun b hb => by simp; intro e; exact n1 (e ▸ hb))
  have M1 := h7.same (k5.block m hml (by simp; exact h10))
  have U1 := CLie.only k5 h5 (fun b hb => by simp; exact (n6 b hb).2.2.1)
  have J1 := h6.only k5 (by simp; exact h11) (fun b hb => by simp; exact (n4 b hb).2.1)
  have hs1 := k5.size
  -- behind a change of the device's blocks, of the store's and of the map
  have fin : ∀ (fp' F' : List Nat) (w' : World) (N' : Nat) (σ' : MS) (uv' : Value), Dv.Only F' w1 w' → (∀ k ∈ F', k ∈ fp ∨ k = s ∨ k = m) → StIs s w' g x y z j av' m uv' σ'.c → Dv.DIs B g w' N' ⟨x, σ'.f, σ'.Q⟩ fp' → (∀ k ∈ fp', k ∈ fp ∨ w1.heap.size ≤ k) → Um.MIs m w' σ'.M.length σ'.M → CLie w' uv' σ'.U → (∀ b, uv'.ownBlock = some b → uv.ownBlock = some b) → Sml σ'.M → (Sml σ'.U ∧ σ'.U.length ≤ 48) → Rn B s g x y z j m w' σ' A T F l ∧ Below B w w' := by
    intro fp' F' w' N' σ' uv' hO hF hst hD hfp hM hU huv hsm hsu
    have hs2 := hO.size
    have nin : ∀ b, b < w1.heap.size → b ∉ fp → b ∉ fp' := fun b hb hn hm => by
      rcases hfp b hm with e | e
      · exact hn e
      · omega
    have nF : ∀ b, b ∉ fp → b ≠ s → b ≠ m → b ∉ F' := fun b a1 a2 a3 hm => by
      rcases hF b hm with e | e | e
      · exact a1 e
      · exact a2 e
      · exact a3 e
    have hav : ∀ b, av'.ownBlock = some b → b ∉ fp ∧ b ≠ s ∧ b ≠ m ∧ b ≠ j ∧ b < w.heap.size := fun b hb => n5 b (k4 b hb)
    refine ⟨⟨⟨av', uv', N', fp', r, hst, ?_, ?_, hD, hU, ?_, ?_, ?_, ?_, fun b hb => ?_, fun _ b hb => ?_, fun b hb => ?_⟩, hM, hsm, hsu, h10, h11, h12, h13, h14, h15⟩, ?_⟩
    · exact ALie.only hO k2 (fun b hb => by obtain ⟨a1, a2, a3, _⟩ := hav b hb; exact nF b a1 a2 a3)
    · intro e
      obtain ⟨ao, e2⟩ := k3
      rw [e] at e2
      exact ⟨ao, e2⟩
    · exact J1.only hO (nF j n3 h11 h12) (fun b hb => by obtain ⟨a1, a2, a3, _⟩ := n4 b hb; exact nF b a1 a2 a3)
    · exact nin s (by omega) n1
    · exact nin m (by omega) n2
    · exact nin j (by omega) n3
    · obtain ⟨a1, a2, a3, a4, a5⟩ := n4 b hb
      have := (hjl.2 b hb).1
      exact ⟨nin b (by omega) a1, a2, a3, a4, a5⟩
    · obtain ⟨a1, a2, a3, a4, a6⟩ := hav b hb
      exact ⟨nin b (by omega) a1, a2, a3, a4, by omega⟩
    · obtain ⟨a1, a2, a3, a4, a6⟩ := n6 b (huv b hb)
      exact ⟨nin b (by omega) a1, a2, a3, a4, by omega⟩
    · have b1 : Below B w w1 := k5.below hBw (fun b hb => by simp at hb; omega)
      exact b1.trans (hO.below (by omega) (fun b hb => by
        rcases hF b hb with e | e | e
        · exact (hfl b e).1
        · omega
        · omega))
  obtain ⟨ak, aa, ad⟩ := a
  rcases ha with ⟨e1, e2, e3, e4⟩ | ⟨e1, e2, e3⟩
  · have e1 : ak = 0 := e1
    subst e1
    have e2 : 0 ≤ aa := e2
    have e3 : aa < x := e3
    obtain ⟨n, rfl⟩ : ∃ n : Nat, aa = n := ⟨aa.toNat, by omega⟩
    refine (do_write (S := ⟨x, σ.f, σ.Q⟩) n ad e4 (by show n < x; omega) (by omega) hQ w1 k1 D1 (by omega) n1).mono ?_
    rintro e w' ⟨rfl, fp', hD, hO, hfp⟩
    refine ⟨rfl, ?_, uv, σ.c, k1.only hO n1⟩
    rw [MS.act_w rfl]
    exact fin fp' fp w' _ _ uv hO (fun k hk => .inl hk) (k1.only hO n1) hD hfp (M1.same (hO.block m (by omega) n2)) (CLie.only hO U1 (fun b hb => (n6 b hb).1)) (fun b hb => hb) h8 h9
  · have e2 : aa = 0 := e2
    have e3 : ad = ByteArray.empty := e3
    subst e2 e3
    rcases e1 with e1 | e1 | e1
    · have e1 : ak = 1 := e1
      subst e1
      refine (do_flush (m := m) (N := 1048576) (by omega) w1 k1 D1).mono ?_
      rintro e w' ⟨rfl, hD, hO⟩
      refine ⟨rfl, ?_, uv, σ.c, k1.only hO n1⟩
      rw [MS.act_f rfl]
      exact fin fp fp w' _ _ uv hO (fun k hk => .inl hk) (k1.only hO n1) hD (fun k hk => .inl hk) (M1.same (hO.block m (by omega) n2)) (CLie.only hO U1 (fun b hb => (n6 b hb).1)) (fun b hb => hb) h8 h9
    · have e1 : ak = 2 := e1
      subst e1
      refine (do_lay (N := 1048576) (by omega) w1 k1 D1 M1 n1 n2 h10).mono ?_
      rintro e w' ⟨rfl, hst, hD, hM, hO⟩
      refine ⟨rfl, ?_, uv, σ.c, hst⟩
      rw [MS.act_l rfl]
      exact fin fp (m :: fp) w' _ _ uv hO (fun k hk => by simp at hk; rcases hk with e | e; exact .inr (.inr e); exact .inl e) hst hD (fun k hk => .inl hk) hM (CLie.only hO U1 (fun b hb => by simp; exact ⟨(n6 b hb).2.1, (n6 b hb).1⟩)) (fun b hb => hb) Sml.nil h9
    · have e1 : ak = 3 := e1
      subst e1
      have hl1 := h8.len
      refine (do_end (N := 1048576) (by omega) hc h9.1.ok (by omega) w1 k1 D1 M1 U1 n1 n2 h10 (fun b hb => ⟨(n6 b hb).1, (n6 b hb).2.1⟩)).mono ?_
      rintro e w' ⟨rfl, hst, hD, hM, hO⟩
      refine ⟨rfl, ?_, _, _, hst⟩
      rw [MS.act_c rfl]
      exact fin fp (s :: m :: fp) w' _ _ (.slice none 0 0) hO (fun k hk => by simp at hk; rcases hk with e | e | e; exact .inr (.inl e); exact .inr (.inr e); exact .inl e) hst hD (fun k hk => .inl hk) hM.shrink (CLie.nil _) (fun b hb => by cases hb) (h8.merge h9.1) ⟨Sml.nil, by simp⟩
end Go.Proofs.YtopebghandojbaaGreat
