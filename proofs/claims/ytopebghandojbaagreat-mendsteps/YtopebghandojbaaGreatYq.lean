import Derived.Test.YtopebghandojbaaGreatYi
import Derived.Test.YtopebghandojbaaGreatDcr
import Derived.Test.YtopebghandojbaaGreatYg
import Derived.Test.YtopebghandojbaaGreatYj
import Derived.Lib.SmallJoins
import Derived.Deep.Slices
import Derived.JoinedCond
import Derived.ChangeOld
import Derived.Carry
import Derived.WalkKit
import Derived.ProofKit
import Derived.OpenShut
import Derived.ShutString
import Derived.Below
import Derived.Deep.CutBlock
import Derived.Deep.CutRange
import Derived.Deep.DeepCutAuto
import Derived.Deep.LoopGhost
namespace Go.Proofs.YtopebghandojbaaGreat
open Go.RowKit Go.Maps

theorem over_zero (f : Nat → Option ByteArray) (a : Nat) (d : ByteArray) : Dv.over f a d 0 = f := by
  funext k
  unfold Dv.over
  rw [if_neg (by omega)]
/-- what waits is of single blocks, and not much -/
def Qok (σ : MS) (A : List AT) : Prop := (∀ q ∈ σ.Q, q.2.size = 128) ∧ σ.Q.length + A.length ≤ 2000
theorem Qok.act {σ : MS} {a : AT} {A : List AT} {n : Nat} (h : Qok σ (a :: A)) (ha : AOk n a) : Qok (σ.act a) A := by
  obtain ⟨h1, h2⟩ := h
  simp only [List.length_cons] at h2
  rcases ha with ⟨e, _, _, e2⟩ | ⟨e | e | e, _⟩
  · rw [MS.act_w e]
    refine ⟨fun q hq => ?_, by show (σ.Q ++ [_]).length + _ ≤ _; rw [List.length_append]; show σ.Q.length + 1 + _ ≤ _; omega⟩
    rcases List.mem_append.1 hq with h3 | h3
    · exact h1 q h3
    · rw [List.mem_singleton] at h3; rw [h3]; exact e2
  · rw [MS.act_f e]; exact ⟨(fun q hq => by cases hq), by show 0 + _ ≤ _; omega⟩
  · rw [MS.act_l e]; exact ⟨(fun q hq => by cases hq), by show 0 + _ ≤ _; omega⟩
  · rw [MS.act_c e]; exact ⟨(fun q hq => by cases hq), by show 0 + _ ≤ _; omega⟩
/-- the log's writes, as the store has them and as they are in the ring -/
theorem ring_acts (y : Nat) (hy : 1 ≤ y) : ∀ (B : List ByteArray) (h : Nat), actsL (wrL ((y : Int) - 1) (h : Int) B) = (ringW (y - 1) h B).map fun q => (⟨0, (q.1 : Int), q.2⟩ : AT)
  | [], h => rfl
  | b :: B, h => by
    have ih := ring_acts y hy B (h + 1)
    have e : (y : Int) - 1 = ((y - 1 : Nat) : Int) := by omega
    rw [wrL, ringW, List.map_cons, ← ih]
    unfold actsL
    rw [List.map_cons]
    congr 1
    show (⟨0, 1 + (1 + (h : Int) % ((y : Int) - 1)), b⟩ : AT) = ⟨0, ((2 + h % (y - 1) : Nat) : Int), b⟩
    rw [e, ← Int.natCast_emod]
    congr 1
    push_cast
    omega
/-- what is sure whenever a device crashes: it says what it said, or that and the changes under way -/
def Cr2 (x y z : Nat) (st st' : Nat → ByteArray) (σ : MS) : Prop := ∀ Q', Q'.Sublist σ.Q → ∃ T F Ls, GoodD x y z (Dv.seen σ.f Q') T F Ls st ∨ GoodD x y z (Dv.seen σ.f Q') T F Ls st'
theorem safe_commit {x y z T F : Nat} {Ls : List (List Chg)} {X : List Chg} {st : Nat → ByteArray} {f : Nat → Option ByteArray} {c : Int} (hx : 1 + y < x) (h : GoodD x y z f T F Ls st) (hX : okX y x X) (hu : used Ls + X.length + 1 ≤ y - 1) (hfe : F + Ls.length + 1 ≤ 1000000) :
    Safe x (Cr2 x y z st (stU st X)) (fun σ => ∃ f', GoodD x y z f' T F (Ls ++ [X]) (stU st X) ∧ σ = ⟨f', [], mg (Ls ++ [X]), [], c + 1⟩) ([] ++ comA (ringW (y - 1) (T + used Ls) (encL (F + Ls.length) X)) (hdB T F (F + Ls.length + 1))) ⟨f, [], mg Ls, X, c⟩ := by
  rw [List.nil_append]
  exact safe_com hx h hX hu hfe (fun σ hs => hs) (fun f' hg => ⟨f', hg, rfl⟩)
theorem safe_lay_commit {x y z T F : Nat} {Ls : List (List Chg)} {X : List Chg} {st : Nat → ByteArray} {f : Nat → Option ByteArray} {c : Int} (hx : 1 + y < x) (h : GoodD x y z f T F Ls st) (hX : okX y x X) (hu : X.length + 1 ≤ y - 1) (hfe : F + Ls.length + 1 ≤ 1000000) :
    Safe x (Cr2 x y z st (stU st X)) (fun σ => ∃ f', GoodD x y z f' ((T + used Ls) % (y - 1)) (F + Ls.length) [X] (stU st X) ∧ σ = ⟨f', [], mg [X], [], c + 1⟩) (layA (mg Ls) (hdB ((T + used Ls) % (y - 1)) (F + Ls.length) (F + Ls.length)) ++ comA (ringW (y - 1) ((T + used Ls) % (y - 1) + 0) (encL (F + Ls.length + 0) X)) (hdB ((T + used Ls) % (y - 1)) (F + Ls.length) (F + Ls.length + 0 + 1))) ⟨f, [], mg Ls, X, c⟩ := by
  apply Safe.app
  refine safe_lay hx h (fun σ hs _ Q' hQ' => ?_) (fun f' hg => ?_)
  · obtain ⟨a, b, l, hg⟩ := hs Q' hQ'
    exact ⟨a, b, l, .inl hg⟩
  · exact safe_com (Ls := []) hx hg hX (by show 0 + _ + _ ≤ _; omega) hfe (fun σ hs => hs) (fun f' hg => ⟨f', hg, rfl⟩)
theorem safe_mend {x y z T F : Nat} {Ls : List (List Chg)} {st : Nat → ByteArray} {f : Nat → Option ByteArray} {c : Int} (hx : 1 + y < x) (h : GoodD x y z f T F Ls st) :
    Safe x (fun σ => Sure x y z st σ ∧ Reads x y st σ) (fun σ => ∃ f', GoodD x y z f' ((T + used Ls) % (y - 1)) (F + Ls.length) [] st ∧ σ = ⟨f', [], [], [], c⟩) (layA (mg Ls) (hdB ((T + used Ls) % (y - 1)) (F + Ls.length) (F + Ls.length))) ⟨f, [], mg Ls, [], c⟩ :=
  safe_lay hx h (fun _ h1 h2 => ⟨h1, h2⟩) (fun f' hg => ⟨f', hg, rfl⟩)
theorem good_format (x y z : Nat) (h : Sh.okS x y z) : GoodD x y z (fmtL x y z) 0 1 [] (fun _ => Dv.Z) := by
  have hy := h.1.2.1
  have e : fmtL x y z = one (one (fun _ => none) 0 (Sh.superS x y z)) 1 (hdB 0 1 1) := by
    unfold fmtL
    rw [seen_cons _ _ _ (super_size x y z), seen_cons _ _ _ (hdB_size 0 1 1)]
    rfl
  have hZ : Dv.Z.size = 128 := by show (List.replicate 128 (0 : UInt8)).toArray.size = 128; simp
  rw [e]
  refine ⟨?_, ?_, by omega, Nat.le_refl _, by decide, (fun L hL => by cases hL), Nat.zero_le _, rfl, ?_, ?_⟩
  · rw [val_one, if_neg (by omega), val_one, if_pos rfl]
  · rw [val_one, if_pos rfl]; rfl
  · intro k k1 k2
    show val _ k = Dv.Z
    rw [val_one, if_neg (by omega), val_one, if_neg (by omega)]
    rfl
  · intro k
    rw [val_one]
    split
    · exact hdB_size 0 1 1
    · rw [val_one]
      split
      · exact super_size x y z
      · exact hZ
end Go.Proofs.YtopebghandojbaaGreat
namespace Go.Proofs.YtopebghandojbaaGreat
open Go.RowKit Go.Maps

theorem withL_le : ∀ (l : List Chg) (c : Chg), (Um.withL l c).length ≤ l.length + 1
  | [], c => by simp [Um.withL]
  | x :: l, c => by
    have := withL_le l c
    unfold Um.withL
    split
    · simp only [List.length_cons]; omega
    · split
      · simp
      · simp
theorem mergeL_le : ∀ (b a : List Chg), (Um.mergeL a b).length ≤ a.length + b.length
  | [], a => Nat.le_refl _
  | c :: b, a => by
    have h1 := mergeL_le b (Um.withL a c)
    have h2 := withL_le a c
    show (Um.mergeL (Um.withL a c) b).length ≤ _
    simp only [List.length_cons]
    omega
theorem mg_used : ∀ (Ls : List (List Chg)), (mg Ls).length ≤ used Ls := by
  have : ∀ (Ls : List (List Chg)) (a : List Chg), (Ls.foldl Um.mergeL a).length ≤ a.length + used Ls := by
    intro Ls
    induction Ls with
    | nil => intro a; exact Nat.le_refl _
    | cons L Ls ih =>
      intro a
      have h1 := ih (Um.mergeL a L)
      have h2 := mergeL_le L a
      show (Ls.foldl Um.mergeL (Um.mergeL a L)).length ≤ a.length + (L.length + 1 + used Ls)
      omega
  intro Ls
  have h := this Ls []
  show (Ls.foldl Um.mergeL []).length ≤ used Ls
  simpa using h
theorem CF.only {s j : Nat} {r : Option Nat} {w w' : World} (h : CF s j r w w') : Dv.Only (s :: j :: r.toList) w w' :=
  ⟨h.os, h.tape, h.output, h.size, fun k hk hn => by
    simp at hn
    exact h.block k hk hn.1 hn.2.1 (fun e => hn.2.2 e.symm)⟩
/-- what a Commit that went well has done -/
def CmtPost (s g x y z j m : Nat) (c : Int) (r : Option Nat) (w : World) (L : List Chg) (A : List AT) (T1 F1 : Nat) (l2 : List Int) (e : Ending) (w' : World) : Prop :=
  e = .returned (.int .i64 0) ∧ ∃ B1 uv' r', w.heap.size ≤ B1 ∧ Q.SA B1 s w' g x y z j m uv' c A ∧ CLie w' uv' L ∧ (∀ a, uv'.ownBlock = some a → w.heap.size ≤ a ∧ a < w'.heap.size) ∧ JS j r' w' ((y : Int) - 1) T1 F1 l2.length l2 ∧ New w r r' ∧ CF s j r w w'
theorem acts_eq (y T F : Nat) (hy : 1 ≤ y) (Ls : List (List Chg)) (L : List Chg) : actsL (wrL ((y : Int) - 1) ((T : Int) + sumI (Ls.map szL)) (encL (F + (Ls.map szL).length) L)) ++ [⟨1, 0, ByteArray.empty⟩, ⟨0, 1, hdB T F (F + ((Ls.map szL).length + 1))⟩, ⟨3, 0, ByteArray.empty⟩] = comA (ringW (y - 1) (T + used Ls) (encL (F + Ls.length) L)) (hdB T F (F + Ls.length + 1)) := by
  rw [sum_used, List.length_map, ← Int.natCast_add, ring_acts y hy]
  rfl
/-- a store when its acts are all done -/
def EQ (x y z T1 F1 : Nat) (l1 : List Int) (st : Nat → ByteArray) (n : Nat) (σ : MS) : Prop := ∃ f' Ls', GoodD x y z f' T1 F1 Ls' st ∧ l1 = Ls'.map szL ∧ F1 + Ls'.length = n ∧ σ = ⟨f', [], mg Ls', [], (F1 : Int) + Ls'.length - 1⟩
end Go.Proofs.YtopebghandojbaaGreat
namespace Go.Proofs.YtopebghandojbaaGreat
open Go.ChangeShapes Go.WideShapes Go.ChangeAt Go.RowKit Go.Joins Go.Deep

theorem laidOut : laidOutB Tryz.prog = true := by kernel_rfl
theorem cells44 : Tryz.prog.cellsOf 94 = 2 := by kernel_rfl
theorem cells3 : Tryz.prog.cellsOf 3 = 1 := by kernel_rfl
theorem cells9 : Tryz.prog.cellsOf 9 = 1 := by kernel_rfl
theorem open_chg {H : Type} {enc : TypeId × Value → H} {W : World} {fuel : Nat} {v0 v1 : Value} {x : DataW H × List MemPlace}
    (h : DataW.trod enc Tryz.prog W 0 (fun _ => true) true fuel 94 [v0, v1] = some x) : ∃ c : Chg, v0 = .int .i64 c.b ∧ v1 = .string c.d := by
  obtain ⟨xs, n', _, hxy, hcl, hxl, hf⟩ := DataW.trod_struct Tryz.underlying94 h
  match xs, hxl with
  | [y0, y1], _ =>
    have g0 := hf 0 _ rfl
    have g1 := hf 1 _ rfl
    simp [cells3] at g0
    simp [cells9] at g1
    obtain ⟨a, q0, _, wa⟩ := DataW.trod_int Tryz.underlying3 g0
    obtain ⟨s, q1, _, ws⟩ := DataW.trod_string Tryz.underlying9 g1
    simp at q0 q1
    subst q0 q1
    exact ⟨⟨a, s⟩, rfl, rfl⟩
theorem range_get {α : Type} (it : Nat → α) (n i : Nat) (h : i < ((List.range n).map it).length) : ((List.range n).map it)[i] = it i := by simp
theorem open_changes {H : Type} {enc : TypeId × Value → H} {W : World} {fuel : Nat} {ao : Option Addr} {len cap : Nat} {x : DataW H × List MemPlace}
    (h : DataW.trod enc Tryz.prog W 0 (fun _ => true) true fuel 24 [.slice ao len cap] = some x) : ∃ l, CLie W (.slice ao len cap) l := by
  rcases open_slice Tryz.underlying24 h with ⟨h0, hx⟩ | ⟨a, len', cap', m, n, D, Pl, hcs, hb, hl, hm, hmm, hx, hel⟩
  · simp at h0
    obtain ⟨rfl, rfl, rfl⟩ := h0
    exact ⟨[], none, 0, rfl, Nat.le_refl _, by decide, fun i hi => by simp at hi⟩
  · simp at hcs
    obtain ⟨rfl, rfl, rfl⟩ := hcs
    have hlm : len ≤ m := by rw [hmm]; split <;> omega
    have each : ∀ i, i < len → ∃ y : Chg, W.cell? (a.add (i * 2)) = some (.int .i64 y.b) ∧ W.cell? (a.add (i * 2 + 1)) = some (.string y.d) := by
      intro i hi
      obtain ⟨cs', h1, h2⟩ := hel i (by omega)
      rw [cells44] at h1
      obtain ⟨_, hlen, hcell⟩ := World.cells?_some h1
      match cs', hlen with
      | [v0, v1], _ =>
        have e0 := hcell 0 (by omega)
        have e1 := hcell 1 (by omega)
        rw [Deep.add_add] at e0 e1
        obtain ⟨mm, rfl, rfl⟩ := open_chg h2
        exact ⟨mm, by simpa using e0, by simpa using e1⟩
    obtain ⟨it, hit⟩ := choose_lt each
    refine ⟨(List.range len).map it, some a, cap, by simp, by simpa using hl, hm, fun i hi => ?_⟩
    rw [range_get]
    have hi' : i < len := by simpa using hi
    obtain ⟨a0, a1⟩ := hit i hi'
    have a00 := (hit 0 (by omega)).1
    obtain ⟨b, off, sp⟩ := a
    have hsp : sp = none := by simpa [Addr.add] using World.cell?_spot a00
    subst hsp
    have hadd : ∀ j, (⟨b, off, none⟩ : Addr).add j = ⟨b, off + j, none⟩ := fun j => by unfold Addr.add; split <;> simp_all
    have hblk : b < W.heap.size := by
      obtain ⟨cs', h1, _⟩ := hel i (by omega)
      rw [cells44, hadd] at h1
      exact World.cells?_block h1 (by decide)
    rw [hadd] at a0 a1
    rw [← Nat.add_assoc] at a1
    exact ⟨b, off, rfl, hblk, a0, a1⟩
theorem cells24 : Tryz.prog.cellsOf 24 = 1 := by kernel_rfl
theorem CLie.blk {w : World} {v : Value} {L : List Chg} (h : CLie w v L) (h0 : L ≠ []) : ∀ a, v.ownBlock = some a → a < w.heap.size := by
  obtain ⟨ao, cap, rfl, _, _, h3⟩ := h
  intro a ha
  obtain ⟨gb, off, rfl, hg, _⟩ := h3 0 (List.length_pos_iff.2 h0)
  cases ha
  exact hg
theorem scount_any {s g x y z j m : Nat} {av uv : Value} {c : Int} (w : World) (h : StIs s w g x y z j av m uv c) : Calls Tryz.prog 20 #[.pointer (some ⟨s, 0, none⟩)] w fun e w' => e = .returned (.int .i64 c) ∧ w' = w := by
  have HN := hid (snone_any w h)
  have c13 : w.cell? ⟨s, 13, none⟩ = some (.int .i64 c) := (h.cell 13).trans rfl
  clear h
  go_enter Tryz.func20, Tryz.ntmps20
  go_wp2_with (first | (go_at_call 62; refine HN.out.mono ?_; rintro e w1 ⟨rfl, hw⟩; have hw := hw.symm; subst hw))
  go_ret
  exact ⟨rfl, rfl⟩
set_option maxRecDepth 100000 in
theorem format_bad (x y z : Int) (h : ¬ Sh.okS x y z) (v : Value) (w : World) : Calls Tryz.prog 8 #[.agg #[.int .i64 x, .int .i64 y, .int .i64 z], v] w fun e w' => e = .returned (.tuple #[.pointer none, .int .i64 60]) ∧ Below w.heap.size w w' := by
  have HO := hid (Sh.of_bad x y z h (w.alloc (.cells #[.int .i64 x, .int .i64 y, .int .i64 z] 23)))
  go_enter Tryz.func8, Tryz.ntmps8
  go_wp2_with (first | (go_at_call 40; refine HO.out.mono ?_; rintro e w1 ⟨rfl, hb1⟩))
  go_ret2
  exact ⟨rfl, (below_alloc w _).trans ((hb1.mono (by simp)).trans ((below_alloc w1 _).mono (by have := hb1.size; simp at this; omega)))⟩
end Go.Proofs.YtopebghandojbaaGreat
namespace Go.Proofs.YtopebghandojbaaGreat
open Go.RowKit Go.Maps
theorem Rn.read {B s g x y z j m : Nat} {w : World} {σ : MS} {A : List AT} {T F : Nat} {l : List Int} (h : Rn B s g x y z j m w σ A T F l) (k : Nat) (hk : k < x) :
    Calls Tryz.prog 23 #[.pointer (some ⟨s, 0, none⟩), .int .i64 (k : Int)] w fun e w' => e = .returned (.tuple #[.string (rdM σ k), .int .i64 0]) ∧ Below w.heap.size w w' := by
  obtain ⟨av, uv, N, fp, r, h1, _, _, h4, _⟩ := h.ex
  exact sread (S := ⟨x, σ.f, σ.Q⟩) k hk w h1 h4 h.mis
theorem Rn.count {B s g x y z j m : Nat} {w : World} {σ : MS} {A : List AT} {T F : Nat} {l : List Int} (h : Rn B s g x y z j m w σ A T F l) :
    Calls Tryz.prog 20 #[.pointer (some ⟨s, 0, none⟩)] w fun e w' => e = .returned (.int .i64 σ.c) ∧ w' = w := by
  obtain ⟨av, uv, N, fp, r, h1, _⟩ := h.ex
  exact scount_any w h1
end Go.Proofs.YtopebghandojbaaGreat
namespace Go.Proofs.YtopebghandojbaaGreat
open Go.RowKit Go.Maps
theorem act_c (σ : MS) (a : AT) : (σ.act a).c = σ.c ∨ (σ.act a).c = σ.c + 1 := by
  unfold MS.act
  split
  · exact .inl rfl
  · split
    · exact .inl rfl
    · split
      · exact .inl rfl
      · exact .inr rfl
end Go.Proofs.YtopebghandojbaaGreat
namespace Go.Proofs.YtopebghandojbaaGreat
open Go.RowKit Go.Maps
end Go.Proofs.YtopebghandojbaaGreat
namespace Go.Proofs.YtopebghandojbaaGreat
open Go.RowKit Go.Maps
end Go.Proofs.YtopebghandojbaaGreat
