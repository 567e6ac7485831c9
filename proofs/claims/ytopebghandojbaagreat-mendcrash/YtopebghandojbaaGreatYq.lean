import Derived.Test.YtopebghandojbaaGreatYi
import Derived.Test.YtopebghandojbaaGreatDcr
import Derived.Test.YtopebghandojbaaGreatYg
import Derived.Test.YtopebghandojbaaGreatYj
import Derived.Lib.SmallJoins
import Derived.Deep.Slices
import Derived.JoinedCond
import Derived.ChangeOld
import Derived.Carry
import Derived.WalkKit
import Derived.ProofKit
import Derived.OpenShut
import Derived.ShutString
import Derived.Below
import Derived.Deep.CutBlock
import Derived.Deep.CutRange
import Derived.Deep.DeepCutAuto
import Derived.Deep.LoopGhost
namespace Go.Proofs.YtopebghandojbaaGreat
open Go.RowKit Go.Maps

theorem over_zero (f : Nat → Option ByteArray) (a : Nat) (d : ByteArray) : Dv.over f a d 0 = f := by
  funext k
  unfold Dv.over
  rw [if_neg (by omega)]
/-- a crash keeps some of the writes, of one block each, and no other -/
theorem crash_sub (pk : Nat → Bool) : ∀ (Q : List (Nat × ByteArray)) (i t : Nat) (f : Nat → Option ByteArray), (∀ q ∈ Q, q.2.size = 128) → ∃ Q', Q'.Sublist Q ∧ Dv.crashFrom pk i t f Q = Dv.seen f Q'
  | [], i, t, f, _ => ⟨[], List.Sublist.refl _, Dv.crash_end pk i t f⟩
  | (a, d) :: Q, i, t, f, h => by
    have hd : d.size = 128 := h (a, d) (List.mem_cons_self ..)
    have hQ : ∀ q ∈ Q, q.2.size = 128 := fun q hq => h q (List.mem_cons_of_mem _ hq)
    rw [Dv.crash_cons]
    show ∃ Q', Q'.Sublist ((a, d) :: Q) ∧ (if pk i then Dv.crashFrom pk (i + 1) t (Dv.over f a d (Dv.cnt d)) Q else Dv.crashFrom pk (i + 1) 0 (Dv.over f a d (min t (Dv.cnt d))) Q) = Dv.seen f Q'
    have e1 : Dv.over f a d (Dv.cnt d) = one f a d := over_one f a hd
    have c1 := cnt_one hd
    split
    · obtain ⟨Q', h1, h2⟩ := crash_sub pk Q (i + 1) t (one f a d) hQ
      exact ⟨(a, d) :: Q', h1.cons_cons _, by rw [e1, h2, seen_cons f Q' a hd]⟩
    · by_cases ht : t = 0
      · obtain ⟨Q', h1, h2⟩ := crash_sub pk Q (i + 1) 0 f hQ
        exact ⟨Q', h1.cons _, by rw [show min t (Dv.cnt d) = 0 by omega, over_zero, h2]⟩
      · obtain ⟨Q', h1, h2⟩ := crash_sub pk Q (i + 1) 0 (one f a d) hQ
        exact ⟨(a, d) :: Q', h1.cons_cons _, by rw [show min t (Dv.cnt d) = Dv.cnt d by omega, e1, h2, seen_cons f Q' a hd]⟩
/-- what waits is of single blocks, and not much -/
def Qok (σ : MS) (A : List AT) : Prop := (∀ q ∈ σ.Q, q.2.size = 128) ∧ σ.Q.length + A.length ≤ 2000
theorem Qok.act {σ : MS} {a : AT} {A : List AT} {n : Nat} (h : Qok σ (a :: A)) (ha : AOk n a) : Qok (σ.act a) A := by
  obtain ⟨h1, h2⟩ := h
  simp only [List.length_cons] at h2
  rcases ha with ⟨e, _, _, e2⟩ | ⟨e | e | e, _⟩
  · rw [MS.act_w e]
    refine ⟨fun q hq => ?_, by show (σ.Q ++ [_]).length + _ ≤ _; rw [List.length_append]; show σ.Q.length + 1 + _ ≤ _; omega⟩
    rcases List.mem_append.1 hq with h3 | h3
    · exact h1 q h3
    · rw [List.mem_singleton] at h3; rw [h3]; exact e2
  · rw [MS.act_f e]; exact ⟨(fun q hq => by cases hq), by show 0 + _ ≤ _; omega⟩
  · rw [MS.act_l e]; exact ⟨(fun q hq => by cases hq), by show 0 + _ ≤ _; omega⟩
  · rw [MS.act_c e]; exact ⟨(fun q hq => by cases hq), by show 0 + _ ≤ _; omega⟩
/-- the log's writes, as the store has them and as they are in the ring -/
theorem ring_acts (y : Nat) (hy : 1 ≤ y) : ∀ (B : List ByteArray) (h : Nat), actsL (wrL ((y : Int) - 1) (h : Int) B) = (ringW (y - 1) h B).map fun q => (⟨0, (q.1 : Int), q.2⟩ : AT)
  | [], h => rfl
  | b :: B, h => by
    have ih := ring_acts y hy B (h + 1)
    have e : (y : Int) - 1 = ((y - 1 : Nat) : Int) := by omega
    rw [wrL, ringW, List.map_cons, ← ih]
    unfold actsL
    rw [List.map_cons]
    congr 1
    show (⟨0, 1 + (1 + (h : Int) % ((y : Int) - 1)), b⟩ : AT) = ⟨0, ((2 + h % (y - 1) : Nat) : Int), b⟩
    rw [e, ← Int.natCast_emod]
    congr 1
    push_cast
    omega
/-- what is sure whenever a device crashes: it says what it said, or that and the changes under way -/
def Cr2 (x y z : Nat) (st st' : Nat → ByteArray) (σ : MS) : Prop := ∀ Q', Q'.Sublist σ.Q → ∃ T F Ls, GoodD x y z (Dv.seen σ.f Q') T F Ls st ∨ GoodD x y z (Dv.seen σ.f Q') T F Ls st'
theorem safe_commit {x y z T F : Nat} {Ls : List (List Chg)} {X : List Chg} {st : Nat → ByteArray} {f : Nat → Option ByteArray} {c : Int} (hx : 1 + y < x) (h : GoodD x y z f T F Ls st) (hX : okX y x X) (hu : used Ls + X.length + 1 ≤ y - 1) (hfe : F + Ls.length + 1 ≤ 1000000) :
    Safe x (Cr2 x y z st (stU st X)) (fun σ => ∃ f', GoodD x y z f' T F (Ls ++ [X]) (stU st X) ∧ σ = ⟨f', [], mg (Ls ++ [X]), [], c + 1⟩) ([] ++ comA (ringW (y - 1) (T + used Ls) (encL (F + Ls.length) X)) (hdB T F (F + Ls.length + 1))) ⟨f, [], mg Ls, X, c⟩ := by
  rw [List.nil_append]
  exact safe_com hx h hX hu hfe (fun σ hs => hs) (fun f' hg => ⟨f', hg, rfl⟩)
theorem safe_lay_commit {x y z T F : Nat} {Ls : List (List Chg)} {X : List Chg} {st : Nat → ByteArray} {f : Nat → Option ByteArray} {c : Int} (hx : 1 + y < x) (h : GoodD x y z f T F Ls st) (hX : okX y x X) (hu : X.length + 1 ≤ y - 1) (hfe : F + Ls.length + 1 ≤ 1000000) :
    Safe x (Cr2 x y z st (stU st X)) (fun σ => ∃ f', GoodD x y z f' ((T + used Ls) % (y - 1)) (F + Ls.length) [X] (stU st X) ∧ σ = ⟨f', [], mg [X], [], c + 1⟩) (layA (mg Ls) (hdB ((T + used Ls) % (y - 1)) (F + Ls.length) (F + Ls.length)) ++ comA (ringW (y - 1) ((T + used Ls) % (y - 1) + 0) (encL (F + Ls.length + 0) X)) (hdB ((T + used Ls) % (y - 1)) (F + Ls.length) (F + Ls.length + 0 + 1))) ⟨f, [], mg Ls, X, c⟩ := by
  apply Safe.app
  refine safe_lay hx h (fun σ hs _ Q' hQ' => ?_) (fun f' hg => ?_)
  · obtain ⟨a, b, l, hg⟩ := hs Q' hQ'
    exact ⟨a, b, l, .inl hg⟩
  · exact safe_com (Ls := []) hx hg hX (by show 0 + _ + _ ≤ _; omega) hfe (fun σ hs => hs) (fun f' hg => ⟨f', hg, rfl⟩)
theorem safe_mend {x y z T F : Nat} {Ls : List (List Chg)} {st : Nat → ByteArray} {f : Nat → Option ByteArray} {c : Int} (hx : 1 + y < x) (h : GoodD x y z f T F Ls st) :
    Safe x (fun σ => Sure x y z st σ ∧ Reads x y st σ) (fun σ => ∃ f', GoodD x y z f' ((T + used Ls) % (y - 1)) (F + Ls.length) [] st ∧ σ = ⟨f', [], [], [], c⟩) (layA (mg Ls) (hdB ((T + used Ls) % (y - 1)) (F + Ls.length) (F + Ls.length))) ⟨f, [], mg Ls, [], c⟩ :=
  safe_lay hx h (fun _ h1 h2 => ⟨h1, h2⟩) (fun f' hg => ⟨f', hg, rfl⟩)
theorem good_format (x y z : Nat) (h : Sh.okS x y z) : GoodD x y z (fmtL x y z) 0 1 [] (fun _ => Dv.Z) := by
  have hy := h.1.2.1
  have e : fmtL x y z = one (one (fun _ => none) 0 (Sh.superS x y z)) 1 (hdB 0 1 1) := by
    unfold fmtL
    rw [seen_cons _ _ _ (super_size x y z), seen_cons _ _ _ (hdB_size 0 1 1)]
    rfl
  have hZ : Dv.Z.size = 128 := by show (List.replicate 128 (0 : UInt8)).toArray.size = 128; simp
  rw [e]
  refine ⟨?_, ?_, by omega, Nat.le_refl _, by decide, (fun L hL => by cases hL), Nat.zero_le _, rfl, ?_, ?_⟩
  · rw [val_one, if_neg (by omega), val_one, if_pos rfl]
  · rw [val_one, if_pos rfl]; rfl
  · intro k k1 k2
    show val _ k = Dv.Z
    rw [val_one, if_neg (by omega), val_one, if_neg (by omega)]
    rfl
  · intro k
    rw [val_one]
    split
    · exact hdB_size 0 1 1
    · rw [val_one]
      split
      · exact super_size x y z
      · exact hZ
end Go.Proofs.YtopebghandojbaaGreat
namespace Go.Proofs.YtopebghandojbaaGreat
open Go.RowKit Go.Maps

theorem withL_le : ∀ (l : List Chg) (c : Chg), (Um.withL l c).length ≤ l.length + 1
  | [], c => by simp [Um.withL]
  | x :: l, c => by
    have := withL_le l c
    unfold Um.withL
    split
    · simp only [List.length_cons]; omega
    · split
      · simp
      · simp
theorem mergeL_le : ∀ (b a : List Chg), (Um.mergeL a b).length ≤ a.length + b.length
  | [], a => Nat.le_refl _
  | c :: b, a => by
    have h1 := mergeL_le b (Um.withL a c)
    have h2 := withL_le a c
    show (Um.mergeL (Um.withL a c) b).length ≤ _
    simp only [List.length_cons]
    omega
theorem mg_used : ∀ (Ls : List (List Chg)), (mg Ls).length ≤ used Ls := by
  have : ∀ (Ls : List (List Chg)) (a : List Chg), (Ls.foldl Um.mergeL a).length ≤ a.length + used Ls := by
    intro Ls
    induction Ls with
    | nil => intro a; exact Nat.le_refl _
    | cons L Ls ih =>
      intro a
      have h1 := ih (Um.mergeL a L)
      have h2 := mergeL_le L a
      show (Ls.foldl Um.mergeL (Um.mergeL a L)).length ≤ a.length + (L.length + 1 + used Ls)
      omega
  intro Ls
  have h := this Ls []
  show (Ls.foldl Um.mergeL []).length ≤ used Ls
  simpa using h
theorem CF.only {s j : Nat} {r : Option Nat} {w w' : World} (h : CF s j r w w') : Dv.Only (s :: j :: r.toList) w w' :=
  ⟨h.os, h.tape, h.output, h.size, fun k hk hn => by
    simp at hn
    exact h.block k hk hn.1 hn.2.1 (fun e => hn.2.2 e.symm)⟩
/-- what a Commit that went well has done -/
def CmtPost (s g x y z j m : Nat) (c : Int) (r : Option Nat) (w : World) (L : List Chg) (A : List AT) (T1 F1 : Nat) (l2 : List Int) (e : Ending) (w' : World) : Prop :=
  e = .returned (.int .i64 0) ∧ ∃ B1 uv' r', w.heap.size ≤ B1 ∧ Q.SA B1 s w' g x y z j m uv' c A ∧ CLie w' uv' L ∧ (∀ a, uv'.ownBlock = some a → w.heap.size ≤ a ∧ a < w'.heap.size) ∧ JS j r' w' ((y : Int) - 1) T1 F1 l2.length l2 ∧ New w r r' ∧ CF s j r w w'
theorem rn_commit {B s g x y z j m : Nat} {w : World} {f : Nat → Option ByteArray} {M : List Chg} {c : Int} {T F : Nat} {l : List Int} (h : Rn B s g x y z j m w ⟨f, [], M, [], c⟩ [] T F l) (v : Value) (L : List Chg) (hv : L ≠ [] → ∀ a, v.ownBlock = some a → a < B) (hsu : Sml L ∧ L.length ≤ 48) {A : List AT} {T1 F1 : Nat} {l2 : List Int} (hA : A ≠ []) (hBw : B ≤ w.heap.size)
    (K : ∀ ao uv r N, StIs s w g x y z j (.slice ao 0 0) m uv c → JS j r w ((y : Int) - 1) T F l.length l → Um.MIs m w N M → s ≠ j → some s ≠ r → m ≠ s → (L ≠ [] → ∀ a, v.ownBlock = some a → a ≠ s ∧ a ≠ j ∧ some a ≠ r) → Calls Tryz.prog 14 #[.pointer (some ⟨s, 0, none⟩), v] w (CmtPost s g x y z j m c r w L A T1 F1 l2)) :
    Calls Tryz.prog 14 #[.pointer (some ⟨s, 0, none⟩), v] w fun e w' => e = .returned (.int .i64 0) ∧ Rn B s g x y z j m w' ⟨f, [], M, L, c⟩ A T1 F1 l2 ∧ Below B w w' := by
  obtain ⟨⟨av, uv, N, fp, r, h1, h2, h3, h4, h5, h6, n1, n2, n3, n4, n5, n6⟩, h7, h8, h9, h10, h11, h12, h13, h14, h15⟩ := h
  obtain ⟨ao, rfl⟩ := h3 rfl
  have hjl := h6.lt
  have hml := h7.lt
  have hfl := h4.lo
  refine (K ao uv r _ h1 h6 h7 (Ne.symm h11) (fun e => (n4 s e.symm).2.1 rfl) h10 (fun hL0 a ha => ?_)).mono ?_
  · have := hv hL0 a ha
    exact ⟨by omega, by omega, fun e => by have := (n4 a e.symm).2.2.2.2; omega⟩
  · rintro e w' ⟨rfl, B1, uv', r', hB1, ⟨⟨av', k1, k2⟩, k3, k4⟩, k5, k6, k7, k8, k9⟩
    have hsz := k9.size
    have r'ge : ∀ b, r' = some b → r = some b ∨ w.heap.size ≤ b := fun b hb => by
      rcases k8 with e | ⟨k, e, hk⟩
      · exact .inl (e ▸ hb)
      · rw [hb] at e; cases e; exact .inr hk
    have hav : ∀ b, av'.ownBlock = some b → w.heap.size ≤ b ∧ b < w'.heap.size := fun b hb => by
      rcases k2 with ⟨e, _⟩ | ⟨_, k2⟩
      · exact absurd e hA
      · obtain ⟨e1, cur, e2⟩ := Q.ARow.own k2 b hb
        exact ⟨by omega, lt_of_block e2⟩
    refine ⟨rfl, ⟨⟨av', uv', N, fp, r', k1, k2.lie, fun e => absurd e hA, h4.other k9.only (fun b hb => ?_), k5, k7, n1, n2, n3, fun b hb => ?_, fun _ b hb => ?_, fun b hb => ?_⟩, h7.same (k9.block m hml h10 (Ne.symm h12) (fun e => (n4 m e.symm).2.2.1 rfl)), h8, hsu, h10, h11, h12, h13, h14, h15⟩, ?_⟩
    · simp
      refine ⟨fun e => n1 (e ▸ hb), fun e => n3 (e ▸ hb), fun e => (n4 b e).1 hb⟩
    · rcases r'ge b hb with e | e
      · exact n4 b e
      · exact ⟨fun hm => by have := (hfl b hm).2; omega, by have := h1.lt; omega, by omega, by omega, by omega⟩
    · obtain ⟨a1, a2⟩ := hav b hb
      exact ⟨fun hm => by have := (hfl b hm).2; omega, by have := h1.lt; omega, by omega, by omega, a2⟩
    · obtain ⟨a1, a2⟩ := k6 b hb
      exact ⟨fun hm => by have := (hfl b hm).2; omega, by omega, by have := h1.lt; omega, by omega, a2⟩
    · exact k9.belowB hBw h13 h15 (fun a ha => (n4 a ha).2.2.2.2)
theorem acts_eq (y T F : Nat) (hy : 1 ≤ y) (Ls : List (List Chg)) (L : List Chg) : actsL (wrL ((y : Int) - 1) ((T : Int) + sumI (Ls.map szL)) (encL (F + (Ls.map szL).length) L)) ++ [⟨1, 0, ByteArray.empty⟩, ⟨0, 1, hdB T F (F + ((Ls.map szL).length + 1))⟩, ⟨3, 0, ByteArray.empty⟩] = comA (ringW (y - 1) (T + used Ls) (encL (F + Ls.length) L)) (hdB T F (F + Ls.length + 1)) := by
  rw [sum_used, List.length_map, ← Int.natCast_add, ring_acts y hy]
  rfl
/-- a store that is not busy, and what its device says -/
structure Quiet (B s g x y z j m : Nat) (w : World) (f : Nat → Option ByteArray) (T F : Nat) (Ls : List (List Chg)) (st : Nat → ByteArray) : Prop where
  rn : Rn B s g x y z j m w ⟨f, [], mg Ls, [], (F : Int) + Ls.length - 1⟩ [] T F (Ls.map szL)
  gd : GoodD x y z f T F Ls st
/-- a store when its acts are all done -/
def EQ (x y z T1 F1 : Nat) (l1 : List Int) (st : Nat → ByteArray) (n : Nat) (σ : MS) : Prop := ∃ f' Ls', GoodD x y z f' T1 F1 Ls' st ∧ l1 = Ls'.map szL ∧ F1 + Ls'.length = n ∧ σ = ⟨f', [], mg Ls', [], (F1 : Int) + Ls'.length - 1⟩
theorem Quiet.below {B s g x y z j m : Nat} {w w' : World} {f : Nat → Option ByteArray} {T F : Nat} {Ls : List (List Chg)} {st : Nat → ByteArray} (h : Quiet B s g x y z j m w f T F Ls st) (k : Below w.heap.size w w') : Quiet B s g x y z j m w' f T F Ls st := ⟨h.rn.below k, h.gd⟩
theorem Quiet.commit {B s g x y z j m : Nat} {w : World} {f : Nat → Option ByteArray} {T F : Nat} {Ls : List (List Chg)} {st : Nat → ByteArray} (h : Quiet B s g x y z j m w f T F Ls st) (hok : Sh.okS x y z) (hfe : F + Ls.length + 1 ≤ 1000000) (v : Value) (L : List Chg) (hL : CLie w v L) (hv : L ≠ [] → ∀ a, v.ownBlock = some a → a < B) (hBw : B ≤ w.heap.size) :
    Calls Tryz.prog 14 #[.pointer (some ⟨s, 0, none⟩), v] w fun e w' => ((e = .returned (.int .i64 0) ∧ okX y x L ∧ ∃ A T1 F1 l1, Rn B s g x y z j m w' ⟨f, [], mg Ls, L, (F : Int) + Ls.length - 1⟩ A T1 F1 l1 ∧ Safe x (Cr2 x y z st (stU st L)) (EQ x y z T1 F1 l1 (stU st L) (F + Ls.length + 1)) A ⟨f, [], mg Ls, L, (F : Int) + Ls.length - 1⟩ ∧ Qok ⟨f, [], mg Ls, L, (F : Int) + Ls.length - 1⟩ A ∧ A ≠ [] ∧ A.length ≤ 1000) ∨ (∃ n : Int, e = .returned (.int .i64 n) ∧ n ≠ 0 ∧ (okX y x L → n = 5) ∧ Quiet B s g x y z j m w' f T F Ls st)) ∧ Below B w w' := by
  have hG := h.gd
  have hx := hok.1.1
  have hy := hok.1.2.1
  have hsp := hok.2
  have hTl := hG.tl
  have hus := hG.us
  have hle := len_le_used Ls
  have hml : (mg Ls).length ≤ used Ls := mg_used Ls
  obtain ⟨av, uv, N, fp, r, h1, _, h3, _⟩ := h.rn.ex
  obtain ⟨ao, rfl⟩ := h3 rfl
  clear h3
  by_cases hr : right L = true
  · by_cases hw : withinB (1 + (y : Int)) x L = true
    · have hX : okX y x L := ⟨hr, hw⟩
      obtain ⟨x1, x2, x3⟩ := hX.rise
      have hsm : Sml L ∧ L.length ≤ 48 := ⟨⟨x1, fun c hc => by obtain ⟨a, b, _⟩ := x2 c hc; omega⟩, x3⟩
      by_cases hpl : (L.length : Int) + 1 ≤ (y : Int) - 1
      · by_cases hroom : used Ls + L.length + 1 ≤ y - 1
        · have hsafe := safe_commit (c := (F : Int) + Ls.length - 1) (by omega) hG hX hroom hfe
          have e1 := acts_eq y T F (by omega) Ls L
          refine (rn_commit h.rn v L hv hsm (A := [] ++ comA (ringW (y - 1) (T + used Ls) (encL (F + Ls.length) L)) (hdB T F (F + Ls.length + 1))) (T1 := T) (F1 := F) (l2 := Ls.map szL ++ [(L.length : Int) + 1]) (by unfold comA; simp) hBw ?_).mono ?_
          · intro ao uv r N k1 k2 k3 k4 k5 k6 k7
            have k := commit_room (M := mg Ls) v L hok hr hw (by omega) hG.f1 (by rw [List.length_map]; omega) (by rw [List.length_map]; omega) (fun n hn => by obtain ⟨K, _, rfl⟩ := List.mem_map.1 hn; unfold szL; omega) hpl (by rw [sum_used]; omega) w k1 k2 k3 hL k4 k5 k6 k7
            rw [e1] at k
            refine k.mono ?_
            rintro e w' ⟨rfl, B1, uv', r', c1, c2, c3, c4, c5, c6, c7⟩
            refine ⟨rfl, B1, uv', r', c1, c2, c3, c4, ?_, c6, c7⟩
            rw [List.length_append, List.length_singleton]
            exact c5
          · rintro e w' ⟨rfl, k1, k2⟩
            refine ⟨.inl ⟨rfl, hX, _, _, _, _, k1, hsafe.mono (fun σ hs => hs) ?_, ⟨(fun q hq => by cases hq), ?_⟩, by unfold comA; simp, ?_⟩, k2⟩
            · rintro σ ⟨f', hg, rfl⟩
              refine ⟨f', Ls ++ [L], hg, by rw [List.map_append]; rfl, by rw [List.length_append]; rfl, ?_⟩
              rw [List.length_append, List.length_singleton]
              congr 1
              push_cast
              omega
            · show 0 + _ ≤ 2000
              unfold comA
              simp [ringW_len, encL_len]
              omega
            · unfold comA
              simp [ringW_len, encL_len]
              omega
        · have hsafe := safe_lay_commit (c := (F : Int) + Ls.length - 1) (by omega) hG hX (by omega) hfe
          have e1 := acts_eq y ((T + used Ls) % (y - 1)) (F + Ls.length) (by omega) [] L
          have hT2 : ((((T + used Ls) % (y - 1) : Nat)) : Int) = ((T : Int) + sumI (Ls.map szL)) % ((y : Int) - 1) := by
            rw [sum_used, show (y : Int) - 1 = ((y - 1 : Nat) : Int) by omega]
            push_cast
            rfl
          refine (rn_commit h.rn v L hv hsm (A := layA (mg Ls) (hdB ((T + used Ls) % (y - 1)) (F + Ls.length) (F + Ls.length)) ++ comA (ringW (y - 1) ((T + used Ls) % (y - 1) + 0) (encL (F + Ls.length + 0) L)) (hdB ((T + used Ls) % (y - 1)) (F + Ls.length) (F + Ls.length + 0 + 1))) (T1 := (T + used Ls) % (y - 1)) (F1 := F + Ls.length) (l2 := [(L.length : Int) + 1]) (by unfold comA; simp) hBw ?_).mono ?_
          · intro ao uv r N k1 k2 k3 k4 k5 k6 k7
            have k := commit_lay (M := mg Ls) (T' := (T + used Ls) % (y - 1)) v L hok hr hw (by omega) hG.f1 (by rw [List.length_map]; omega) (by rw [List.length_map]; omega) (fun n hn => by obtain ⟨K, _, rfl⟩ := List.mem_map.1 hn; unfold szL; omega) hpl (by rw [sum_used]; omega) (by rw [sum_used]; omega) hT2 (by omega) w k1 k2 k3 hL k4 k5 k6 k7
            rw [List.length_map] at k
            refine k.mono ?_
            rintro e w' ⟨rfl, B1, uv', r', c1, c2, c3, c4, c5, c6, c7⟩
            refine ⟨rfl, B1, uv', r', c1, ?_, c3, c4, c5, c6, c7⟩
            have e2 : actsL (wrL ((y : Int) - 1) ((((T + used Ls) % (y - 1) : Nat) : Int) + sumI []) (encL (F + Ls.length + ([] : List Int).length) L)) ++ [⟨1, 0, ByteArray.empty⟩, ⟨0, 1, hdB ((T + used Ls) % (y - 1)) (F + Ls.length) (F + Ls.length + (([] : List Int).length + 1))⟩, ⟨3, 0, ByteArray.empty⟩] = _ := e1
            rw [e2] at c2
            exact c2
          · rintro e w' ⟨rfl, k1, k2⟩
            refine ⟨.inl ⟨rfl, hX, _, _, _, _, k1, hsafe.mono (fun σ hs => hs) ?_, ⟨(fun q hq => by cases hq), ?_⟩, by unfold comA; simp, ?_⟩, k2⟩
            · rintro σ ⟨f', hg, rfl⟩
              refine ⟨f', [L], hg, rfl, rfl, ?_⟩
              rw [List.length_singleton]
              congr 1
              push_cast
              omega
            · show 0 + _ ≤ 2000
              unfold comA layA
              simp [ringW_len, encL_len]
              omega
            · unfold comA layA
              simp [ringW_len, encL_len]
              omega
      · refine (commit_full v L hr hw (by omega) (by omega) w h1 hL).mono ?_
        rintro e w' ⟨rfl, hb⟩
        exact ⟨.inr ⟨5, rfl, by decide, fun _ => rfl, h.below hb⟩, hb.mono hBw⟩
    · refine (commit_out v L hr (by simpa using hw) w h1 hL).mono ?_
      rintro e w' ⟨rfl, hb⟩
      exact ⟨.inr ⟨70, rfl, by decide, fun hX => absurd hX.2 hw, h.below hb⟩, hb.mono hBw⟩
  · refine (commit_bad v L (by simpa using hr) w h1 hL).mono ?_
    rintro e w' ⟨rfl, hb⟩
    exact ⟨.inr ⟨70, rfl, by decide, fun hX => absurd hX.1 hr, h.below hb⟩, hb.mono hBw⟩
end Go.Proofs.YtopebghandojbaaGreat
namespace Go.Proofs.YtopebghandojbaaGreat
open Go.ChangeShapes Go.WideShapes Go.ChangeAt Go.RowKit Go.Joins Go.Deep

theorem laidOut : laidOutB Tryz.prog = true := by kernel_rfl
theorem cells44 : Tryz.prog.cellsOf 94 = 2 := by kernel_rfl
theorem cells3 : Tryz.prog.cellsOf 3 = 1 := by kernel_rfl
theorem cells9 : Tryz.prog.cellsOf 9 = 1 := by kernel_rfl
theorem open_chg {H : Type} {enc : TypeId × Value → H} {W : World} {fuel : Nat} {v0 v1 : Value} {x : DataW H × List MemPlace}
    (h : DataW.trod enc Tryz.prog W 0 (fun _ => true) true fuel 94 [v0, v1] = some x) : ∃ c : Chg, v0 = .int .i64 c.b ∧ v1 = .string c.d := by
  obtain ⟨xs, n', _, hxy, hcl, hxl, hf⟩ := DataW.trod_struct Tryz.underlying94 h
  match xs, hxl with
  | [y0, y1], _ =>
    have g0 := hf 0 _ rfl
    have g1 := hf 1 _ rfl
    simp [cells3] at g0
    simp [cells9] at g1
    obtain ⟨a, q0, _, wa⟩ := DataW.trod_int Tryz.underlying3 g0
    obtain ⟨s, q1, _, ws⟩ := DataW.trod_string Tryz.underlying9 g1
    simp at q0 q1
    subst q0 q1
    exact ⟨⟨a, s⟩, rfl, rfl⟩
theorem range_get {α : Type} (it : Nat → α) (n i : Nat) (h : i < ((List.range n).map it).length) : ((List.range n).map it)[i] = it i := by simp
theorem open_changes {H : Type} {enc : TypeId × Value → H} {W : World} {fuel : Nat} {ao : Option Addr} {len cap : Nat} {x : DataW H × List MemPlace}
    (h : DataW.trod enc Tryz.prog W 0 (fun _ => true) true fuel 24 [.slice ao len cap] = some x) : ∃ l, CLie W (.slice ao len cap) l := by
  rcases open_slice Tryz.underlying24 h with ⟨h0, hx⟩ | ⟨a, len', cap', m, n, D, Pl, hcs, hb, hl, hm, hmm, hx, hel⟩
  · simp at h0
    obtain ⟨rfl, rfl, rfl⟩ := h0
    exact ⟨[], none, 0, rfl, Nat.le_refl _, by decide, fun i hi => by simp at hi⟩
  · simp at hcs
    obtain ⟨rfl, rfl, rfl⟩ := hcs
    have hlm : len ≤ m := by rw [hmm]; split <;> omega
    have each : ∀ i, i < len → ∃ y : Chg, W.cell? (a.add (i * 2)) = some (.int .i64 y.b) ∧ W.cell? (a.add (i * 2 + 1)) = some (.string y.d) := by
      intro i hi
      obtain ⟨cs', h1, h2⟩ := hel i (by omega)
      rw [cells44] at h1
      obtain ⟨_, hlen, hcell⟩ := World.cells?_some h1
      match cs', hlen with
      | [v0, v1], _ =>
        have e0 := hcell 0 (by omega)
        have e1 := hcell 1 (by omega)
        rw [Deep.add_add] at e0 e1
        obtain ⟨mm, rfl, rfl⟩ := open_chg h2
        exact ⟨mm, by simpa using e0, by simpa using e1⟩
    obtain ⟨it, hit⟩ := choose_lt each
    refine ⟨(List.range len).map it, some a, cap, by simp, by simpa using hl, hm, fun i hi => ?_⟩
    rw [range_get]
    have hi' : i < len := by simpa using hi
    obtain ⟨a0, a1⟩ := hit i hi'
    have a00 := (hit 0 (by omega)).1
    obtain ⟨b, off, sp⟩ := a
    have hsp : sp = none := by simpa [Addr.add] using World.cell?_spot a00
    subst hsp
    have hadd : ∀ j, (⟨b, off, none⟩ : Addr).add j = ⟨b, off + j, none⟩ := fun j => by unfold Addr.add; split <;> simp_all
    have hblk : b < W.heap.size := by
      obtain ⟨cs', h1, _⟩ := hel i (by omega)
      rw [cells44, hadd] at h1
      exact World.cells?_block h1 (by decide)
    rw [hadd] at a0 a1
    rw [← Nat.add_assoc] at a1
    exact ⟨b, off, rfl, hblk, a0, a1⟩
def BLie (w : World) (v : Value) (l : List Bool) : Prop :=
  ∃ ao cap, v = .slice ao l.length cap ∧ l.length ≤ cap ∧ cap ≤ maxLen ∧ ∀ i (hi : i < l.length), ∃ gb off, ao = some ⟨gb, off, none⟩ ∧ gb < w.heap.size ∧ w.cell? ⟨gb, off + i, none⟩ = some (.bool l[i])
theorem cells4b : Tryz.prog.cellsOf 4 = 1 := by kernel_rfl
theorem open_bools {H : Type} {enc : TypeId × Value → H} {W : World} {fuel : Nat} {ao : Option Addr} {len cap : Nat} {x : DataW H × List MemPlace}
    (h : DataW.trod enc Tryz.prog W 0 (fun _ => true) true fuel 70 [.slice ao len cap] = some x) : ∃ l, BLie W (.slice ao len cap) l := by
  rcases open_slice Tryz.underlying70 h with ⟨h0, hx⟩ | ⟨a, len', cap', m, n, D, Pl, hcs, hb, hl, hm, hmm, hx, hel⟩
  · simp at h0
    obtain ⟨rfl, rfl, rfl⟩ := h0
    exact ⟨[], none, 0, rfl, Nat.le_refl _, by decide, fun i hi => by simp at hi⟩
  · simp at hcs
    obtain ⟨rfl, rfl, rfl⟩ := hcs
    have hlm : len ≤ m := by rw [hmm]; split <;> omega
    have each : ∀ i, i < len → ∃ y : Bool, W.cell? (a.add i) = some (.bool y) := by
      intro i hi
      obtain ⟨cs', h1, h2⟩ := hel i (by omega)
      rw [cells4b] at h1
      obtain ⟨_, hlen, hcell⟩ := World.cells?_some h1
      match cs', hlen with
      | [v0], _ =>
        have e0 := hcell 0 (by omega)
        rw [Deep.add_add] at e0
        obtain ⟨bb, q0, _⟩ := DataW.trod_bool Tryz.underlying4 h2
        simp at q0
        subst q0
        exact ⟨bb, by simpa using e0⟩
    obtain ⟨it, hit⟩ := choose_lt each
    refine ⟨(List.range len).map it, some a, cap, by simp, by simpa using hl, hm, fun i hi => ?_⟩
    rw [range_get]
    have hi' : i < len := by simpa using hi
    have a0 := hit i hi'
    have a00 := hit 0 (by omega)
    obtain ⟨b, off, sp⟩ := a
    have hsp : sp = none := by simpa [Addr.add] using World.cell?_spot a00
    subst hsp
    have hadd : ∀ j, (⟨b, off, none⟩ : Addr).add j = ⟨b, off + j, none⟩ := fun j => by unfold Addr.add; split <;> simp_all
    have hblk : b < W.heap.size := by
      obtain ⟨cs', h1, _⟩ := hel i (by omega)
      rw [cells4b, hadd] at h1
      exact World.cells?_block h1 (by decide)
    rw [hadd] at a0
    exact ⟨b, off, rfl, hblk, a0⟩
/-- a slice that reads as slices of changes -/
def VLie (w : World) (v : Value) (l : List (Value × List Chg)) : Prop :=
  ∃ ao cap, v = .slice ao l.length cap ∧ l.length ≤ cap ∧ cap ≤ maxLen ∧ ∀ i (hi : i < l.length), ∃ gb off, ao = some ⟨gb, off, none⟩ ∧ gb < w.heap.size ∧ w.cell? ⟨gb, off + i, none⟩ = some l[i].1 ∧ CLie w l[i].1 l[i].2
theorem cells24 : Tryz.prog.cellsOf 24 = 1 := by kernel_rfl
theorem open_nest {H : Type} {enc : TypeId × Value → H} {W : World} {fuel : Nat} {ao : Option Addr} {len cap : Nat} {x : DataW H × List MemPlace}
    (h : DataW.trod enc Tryz.prog W 0 (fun _ => true) true fuel 69 [.slice ao len cap] = some x) : ∃ l, VLie W (.slice ao len cap) l := by
  rcases open_slice Tryz.underlying69 h with ⟨h0, hx⟩ | ⟨a, len', cap', m, n, D, Pl, hcs, hb, hl, hm, hmm, hx, hel⟩
  · simp at h0
    obtain ⟨rfl, rfl, rfl⟩ := h0
    exact ⟨[], none, 0, rfl, Nat.le_refl _, by decide, fun i hi => by simp at hi⟩
  · simp at hcs
    obtain ⟨rfl, rfl, rfl⟩ := hcs
    have hlm : len ≤ m := by rw [hmm]; split <;> omega
    have each : ∀ i, i < len → ∃ y : Value × List Chg, W.cell? (a.add i) = some y.1 ∧ CLie W y.1 y.2 := by
      intro i hi
      obtain ⟨cs', h1, h2⟩ := hel i (by omega)
      rw [cells24] at h1
      obtain ⟨_, hlen, hcell⟩ := World.cells?_some h1
      match cs', hlen with
      | [v0], _ =>
        have e0 := hcell 0 (by omega)
        rw [Deep.add_add] at e0
        have hs : ∃ ao len cap, v0 = .slice ao len cap := by
          rcases open_slice Tryz.underlying24 h2 with ⟨h0, hx⟩ | ⟨a, len', cap', m, n, D, Pl, hcs, _⟩
          · simp at h0
            exact ⟨_, _, _, h0⟩
          · simp at hcs
            exact ⟨_, _, _, hcs⟩
        obtain ⟨ao, len, cap, rfl⟩ := hs
        obtain ⟨L, hL⟩ := open_changes h2
        exact ⟨(_, L), by simpa using e0, hL⟩
    have : Inhabited (Value × List Chg) := ⟨(.slice none 0 0, [])⟩
    obtain ⟨it, hit⟩ := choose_lt each
    refine ⟨(List.range len).map it, some a, cap, by simp, by simpa using hl, hm, fun i hi => ?_⟩
    rw [range_get]
    have hi' : i < len := by simpa using hi
    obtain ⟨a0, a1⟩ := hit i hi'
    have a00 := (hit 0 (by omega)).1
    obtain ⟨b, off, sp⟩ := a
    have hsp : sp = none := by simpa [Addr.add] using World.cell?_spot a00
    subst hsp
    have hadd : ∀ j, (⟨b, off, none⟩ : Addr).add j = ⟨b, off + j, none⟩ := fun j => by unfold Addr.add; split <;> simp_all
    have hblk : b < W.heap.size := by
      obtain ⟨cs', h1, _⟩ := hel i (by omega)
      rw [cells24, hadd] at h1
      exact World.cells?_block h1 (by decide)
    rw [hadd] at a0
    exact ⟨b, off, rfl, hblk, a0, a1⟩
theorem VLie.at {w : World} {v : Value} {l : List (Value × List Chg)} (h : VLie w v l) {i : Nat} (hi : i < l.length) : ∃ gb off cap, v = .slice (some ⟨gb, off, none⟩) l.length cap ∧ gb < w.heap.size ∧ w.cell? ⟨gb, off + i, none⟩ = some l[i].1 ∧ CLie w l[i].1 l[i].2 := by
  obtain ⟨ao, cap, rfl, _, _, h3⟩ := h
  obtain ⟨gb, off, rfl, k⟩ := h3 i hi
  exact ⟨gb, off, cap, rfl, k⟩
theorem CLie.blk {w : World} {v : Value} {L : List Chg} (h : CLie w v L) (h0 : L ≠ []) : ∀ a, v.ownBlock = some a → a < w.heap.size := by
  obtain ⟨ao, cap, rfl, _, _, h3⟩ := h
  intro a ha
  obtain ⟨gb, off, rfl, hg, _⟩ := h3 0 (List.length_pos_iff.2 h0)
  cases ha
  exact hg
/-- the law's own number -/
def clipN (t : Int) : Nat := if 0 ≤ t ∧ t ≤ 1024 then t.toNat else 0
theorem clipN_le (t : Int) : clipN t ≤ 1024 := by unfold clipN; split <;> omega
theorem clip_any (t : Int) (w : World) : Calls Tryz.prog 36 #[.int .i64 t] w fun e w' => e = .returned (.int .i64 (clipN t)) ∧ w' = w := by
  by_cases h1 : t < 0
  · have e : clipN t = 0 := if_neg (by omega)
    rw [e]
    go_enter Tryz.func36, Tryz.ntmps36
    go_wp2
    go_ret
    exact ⟨rfl, rfl⟩
  · by_cases h2 : 1024 < t
    · have e : clipN t = 0 := if_neg (by omega)
      rw [e]
      go_enter Tryz.func36, Tryz.ntmps36
      go_wp2
      go_ret
      exact ⟨rfl, rfl⟩
    · have e : ((clipN t : Nat) : Int) = t := by unfold clipN; rw [if_pos (by omega)]; omega
      rw [e]
      go_enter Tryz.func36, Tryz.ntmps36
      go_wp2
      go_ret
      exact ⟨rfl, rfl⟩
theorem scount_any {s g x y z j m : Nat} {av uv : Value} {c : Int} (w : World) (h : StIs s w g x y z j av m uv c) : Calls Tryz.prog 20 #[.pointer (some ⟨s, 0, none⟩)] w fun e w' => e = .returned (.int .i64 c) ∧ w' = w := by
  have HN := hid (snone_any w h)
  have c13 : w.cell? ⟨s, 13, none⟩ = some (.int .i64 c) := (h.cell 13).trans rfl
  clear h
  go_enter Tryz.func20, Tryz.ntmps20
  go_wp2_with (first | (go_at_call 62; refine HN.out.mono ?_; rintro e w1 ⟨rfl, hw⟩; have hw := hw.symm; subst hw))
  go_ret
  exact ⟨rfl, rfl⟩
set_option maxRecDepth 100000 in
theorem format_bad (x y z : Int) (h : ¬ Sh.okS x y z) (v : Value) (w : World) : Calls Tryz.prog 8 #[.agg #[.int .i64 x, .int .i64 y, .int .i64 z], v] w fun e w' => e = .returned (.tuple #[.pointer none, .int .i64 60]) ∧ Below w.heap.size w w' := by
  have HO := hid (Sh.of_bad x y z h (w.alloc (.cells #[.int .i64 x, .int .i64 y, .int .i64 z] 23)))
  go_enter Tryz.func8, Tryz.ntmps8
  go_wp2_with (first | (go_at_call 40; refine HO.out.mono ?_; rintro e w1 ⟨rfl, hb1⟩))
  go_ret2
  exact ⟨rfl, (below_alloc w _).trans ((hb1.mono (by simp)).trans ((below_alloc w1 _).mono (by have := hb1.size; simp at this; omega)))⟩
set_option maxRecDepth 100000 in
theorem open_nilD (w : World) : Calls Tryz.prog 11 #[.pointer none] w fun e w' => e = .returned (.tuple #[.pointer none, .int .i64 60]) ∧ Below w.heap.size w w' := by
  have HR := hid (Dv.read_nil 0 w)
  have HS := hid (Sh.read_e ByteArray.empty (by decide) (by decide) w)
  unfold Sh.zero3 at HS
  go_enter Tryz.func11, Tryz.ntmps11
  go_wp2_with (first
    | (go_at_call 25; refine HR.out.mono ?_; rintro e w1 ⟨rfl, hw⟩; have hw := hw.symm; subst hw)
    | (go_at_call 51; refine HS.out.mono ?_; rintro e w2 ⟨rfl, hb2⟩))
  go_quiet (fail)
  go_wp2
  go_ret2
  exact ⟨rfl, (hb2.next (below_alloc _ _)).next ⟨rfl, rfl, rfl, Nat.le_refl _, fun _ _ => rfl⟩⟩
end Go.Proofs.YtopebghandojbaaGreat
namespace Go.Proofs.YtopebghandojbaaGreat
open Go.RowKit Go.Maps

/-- Open of a device that is not in the midst of anything -/
theorem rn_open {B g N T F : Nat} {f : Nat → Option ByteArray} {fp : List Nat} {Ls : List (List Chg)} {st : Nat → ByteArray} (x y z : Nat) (h : Sh.okS x y z) (hG : GoodD x y z f T F Ls st) (w : World) (hD : Dv.DIs B g w N ⟨x, f, []⟩ fp) (hBw : B ≤ w.heap.size) :
    Calls Tryz.prog 11 #[.pointer (some ⟨g, 0, none⟩)] w fun e w' => ∃ s j m, e = .returned (.tuple #[.pointer (some ⟨s, 0, none⟩), .int .i64 0]) ∧ Rn B s g x y z j m w' ⟨f, [], mg Ls, [], (F : Int) + Ls.length - 1⟩ (mendA y T F Ls) ((T + used Ls) % (y - 1)) (F + Ls.length) [] ∧ w.heap.size ≤ s ∧ Below w.heap.size w w' := by
  have hfl := hD.lo
  have hx2 := h.1.1.2
  refine (open_good (S := ⟨x, f, []⟩) x y z h rfl hG w hD).mono ?_
  rintro e w' ⟨s, j, m, r, B1, rfl, ⟨⟨av, k1, k2⟩, k3, k4⟩, k5, k6, b0, b1, b2, b3, b4, d1, d2, d3, d4, kb⟩
  refine ⟨s, j, m, rfl, ⟨⟨av, .slice none 0 0, N, fp, r, k1, k2.lie, fun hA => ?_, hD.below kb, CLie.nil _, k5, fun hm => by have := (hfl _ hm).2; omega, fun hm => by have := (hfl _ hm).2; omega, fun hm => by have := (hfl _ hm).2; omega, fun b hb => ?_, fun hA b hb => ?_, fun b hb => by cases hb⟩, k6, mg_sml (by omega) hG.ri, ⟨Sml.nil, by simp⟩, d1, d2, d3, by omega, by omega, by omega⟩, b1, kb⟩
  · rcases k2 with ⟨_, k2⟩ | ⟨k0, _⟩
    · exact k2
    · exact absurd hA k0
  · have := b3 b hb
    obtain ⟨a1, a2, a3⟩ := d4 b hb
    exact ⟨fun hm => by have := (hfl _ hm).2; omega, a1, a2, a3, by omega⟩
  · rcases k2 with ⟨e, _⟩ | ⟨_, k2⟩
    · exact absurd e hA
    · obtain ⟨e1, cur, e2⟩ := Q.ARow.own k2 b hb
      have : ∀ (t : Nat), (∃ cs ty, w'.heap[t]? = some (.cells cs ty (0, 0)) ∧ ty ≠ 133) → b ≠ t := fun t ⟨cs, ty, h1, h2⟩ e => by
        subst e; rw [e2] at h1; cases h1; exact h2 rfl
      refine ⟨fun hm => by have := (hfl _ hm).2; omega, this s ⟨_, _, k1, by decide⟩, ?_, ?_, lt_of_block e2⟩
      · intro e
        exact k6.notcells cur (e ▸ e2)
      · obtain ⟨sv, _, q2, _⟩ := k5
        exact this j ⟨_, _, q2, by decide⟩
theorem Rn.read {B s g x y z j m : Nat} {w : World} {σ : MS} {A : List AT} {T F : Nat} {l : List Int} (h : Rn B s g x y z j m w σ A T F l) (k : Nat) (hk : k < x) :
    Calls Tryz.prog 23 #[.pointer (some ⟨s, 0, none⟩), .int .i64 (k : Int)] w fun e w' => e = .returned (.tuple #[.string (rdM σ k), .int .i64 0]) ∧ Below w.heap.size w w' := by
  obtain ⟨av, uv, N, fp, r, h1, _, _, h4, _⟩ := h.ex
  exact sread (S := ⟨x, σ.f, σ.Q⟩) k hk w h1 h4 h.mis
theorem Rn.count {B s g x y z j m : Nat} {w : World} {σ : MS} {A : List AT} {T F : Nat} {l : List Int} (h : Rn B s g x y z j m w σ A T F l) :
    Calls Tryz.prog 20 #[.pointer (some ⟨s, 0, none⟩)] w fun e w' => e = .returned (.int .i64 σ.c) ∧ w' = w := by
  obtain ⟨av, uv, N, fp, r, h1, _⟩ := h.ex
  exact scount_any w h1
theorem Rn.dev {B s g x y z j m : Nat} {w : World} {σ : MS} {A : List AT} {T F : Nat} {l : List Int} (h : Rn B s g x y z j m w σ A T F l) : ∃ fp, Dv.DIs B g w 1048576 ⟨x, σ.f, σ.Q⟩ fp := by
  obtain ⟨av, uv, N, fp, r, h1, _, _, h4, _⟩ := h.ex
  exact ⟨fp, h4.shrink⟩
/-- the crash of a device, with whatever picks -/
theorem dev_crash {B g N x : Nat} {f : Nat → Option ByteArray} {Q : List (Nat × ByteArray)} {fp : List Nat} (pv : Value) (bs : List Bool) (t : Nat) (ht : t ≤ 1024) (hQ : Q.length ≤ 100000) (hz : ∀ q ∈ Q, q.2.size = 128) (w : World) (hD : Dv.DIs B g w N ⟨x, f, Q⟩ fp) (hb : BLie w pv bs) (hB : bs ≠ [] → ∀ a, pv.ownBlock = some a → a < B) :
    Calls Tryz.prog 35 #[.pointer (some ⟨g, 0, none⟩), pv, .int .i64 t] w fun e w' => e = .returned (.int .i64 0) ∧ (∃ Q', Q'.Sublist Q ∧ ∃ fp', Dv.DIs B g w' 1048576 ⟨x, Dv.seen f Q', []⟩ fp') ∧ Below B w w' := by
  have hfl := hD.lo
  obtain ⟨ao, cap, rfl, hl, hc, hcell⟩ := hb
  have hp : Dv.PIs w (.slice ao bs.length cap) bs.length (fun i => bs.getD i false) fp := by
    refine ⟨⟨ao, cap, rfl, fun i hi => ?_⟩, Nat.le_trans hl hc, fun i hi => by simp [List.getD, List.getElem?_eq_none hi]⟩
    obtain ⟨gb, off, rfl, hg, hv⟩ := hcell i hi
    have hlt : gb < B := hB (fun e => by rw [e] at hi; simp at hi) gb rfl
    exact ⟨gb, off, rfl, fun hm => by have := (hfl _ hm).1; omega, hg, by rw [hv]; simp [List.getD, List.getElem?_eq_getElem hi]⟩
  have hsub := crash_sub (fun i => bs.getD i false) Q 0 t f hz
  obtain ⟨Q', q1, q2⟩ := hsub
  refine (Dv.crash_any (S := ⟨x, f, Q⟩) _ bs.length _ t ht (N := 1048576) (by omega) hQ w hD.shrink hp).mono ?_
  rintro e w' ⟨rfl, k1, k2⟩
  have k1' := k1.shrink
  have e2 : Dv.crashFrom (fun i => bs.getD i false) 0 t f Q = Dv.seen f Q' := q2
  refine ⟨rfl, ⟨Q', q1, fp, ?_⟩, k2.below ?_ (fun b hb => (hfl b hb).1)⟩
  · rw [← e2]; exact k1'
  · have h1 := hD.ex
    obtain ⟨bl, bf, wv, _, _, _, _, _, m1, _⟩ := h1
    have := hfl g m1
    omega
end Go.Proofs.YtopebghandojbaaGreat
namespace Go.Proofs.YtopebghandojbaaGreat
open Go.RowKit Go.Maps

/-- a device as a crash may find it -/
def CrX (x y z : Nat) (σ : MS) : Prop := ∀ Q', Q'.Sublist σ.Q → ∃ T F Ls st, GoodD x y z (Dv.seen σ.f Q') T F Ls st
def Cut1 (B g x y z : Nat) (W2 wx : World) : Prop := Below B W2 wx ∧ ∃ σ fp, Dv.DIs B g wx 1048576 ⟨x, σ.f, σ.Q⟩ fp ∧ CrX x y z σ ∧ (∀ q ∈ σ.Q, q.2.size = 128) ∧ σ.Q.length ≤ 2000
/-- between two commits, so many at most being done -/
def QX (B s g x y z j m : Nat) (W2 : World) (q : Nat) (wx : World) : Prop := Below B W2 wx ∧ ∃ f T F Ls st, Quiet B s g x y z j m wx f T F Ls st ∧ F + Ls.length ≤ 1 + q
/-- in the midst of a commit, so many acts ahead -/
def Going (B s g x y z j m : Nat) (W2 : World) (q k : Nat) (wx : World) : Prop := Below B W2 wx ∧ ∃ σ A T F l st n, A.length = k ∧ Rn B s g x y z j m wx σ A T F l ∧ Safe x (CrX x y z) (EQ x y z T F l st n) A σ ∧ n ≤ 1 + q ∧ Qok σ A ∧ k ≤ 1000 ∧ 0 ≤ σ.c ∧ σ.c + k ≤ 100000
theorem act_c (σ : MS) (a : AT) : (σ.act a).c = σ.c ∨ (σ.act a).c = σ.c + 1 := by
  unfold MS.act
  split
  · exact .inl rfl
  · split
    · exact .inl rfl
    · split
      · exact .inl rfl
      · exact .inr rfl
theorem QX.cut {B s g x y z j m : Nat} {W2 : World} {q : Nat} {wx : World} (h : QX B s g x y z j m W2 q wx) : Cut1 B g x y z W2 wx := by
  obtain ⟨hb, f, T, F, Ls, st, hq, _⟩ := h
  obtain ⟨fp, hD⟩ := hq.rn.dev
  refine ⟨hb, _, fp, hD, fun Q' hs => ⟨T, F, Ls, st, ?_⟩, (fun q hq => by cases hq), Nat.zero_le _⟩
  rw [List.sublist_nil.1 hs]
  exact hq.gd
theorem Going.cut {B s g x y z j m : Nat} {W2 : World} {q k : Nat} {wx : World} (h : Going B s g x y z j m W2 q k wx) : Cut1 B g x y z W2 wx := by
  obtain ⟨hb, σ, A, T, F, l, st, n, rfl, hr, hs, _, hq, _⟩ := h
  obtain ⟨fp, hD⟩ := hr.dev
  exact ⟨hb, σ, fp, hD, hs.here, hq.1, Nat.le_trans (Nat.le_add_right _ _) hq.2⟩
theorem Going.fin {B s g x y z j m : Nat} {W2 : World} {q : Nat} {wx : World} (h : Going B s g x y z j m W2 q 0 wx) : QX B s g x y z j m W2 q wx := by
  obtain ⟨hb, σ, A, T, F, l, st, n, hA, hr, hs, hn, _⟩ := h
  obtain rfl := List.eq_nil_of_length_eq_zero hA
  obtain ⟨_, f', Ls', hg, rfl, rfl, rfl⟩ := hs
  exact ⟨hb, f', T, F, Ls', st, ⟨hr, hg⟩, hn⟩
theorem Going.busy {B s g x y z j m : Nat} {W2 : World} {q k : Nat} {wx : World} (h : Going B s g x y z j m W2 q k wx) : Calls Tryz.prog 21 #[.pointer (some ⟨s, 0, none⟩)] wx fun e w' => e = .returned (.bool (decide (0 < k))) ∧ w' = wx := by
  obtain ⟨hb, σ, A, T, F, l, st, n, rfl, hr, _⟩ := h
  exact hr.busy
theorem Going.step {B s g x y z j m : Nat} {W2 : World} {q k : Nat} {wx : World} (h : Going B s g x y z j m W2 q (k + 1) wx) (hB : B ≤ W2.heap.size) : Calls Tryz.prog 18 #[.pointer (some ⟨s, 0, none⟩)] wx fun e w' => (∃ b, e = .returned (.tuple #[.bool b, .int .i64 0])) ∧ Going B s g x y z j m W2 q k w' := by
  obtain ⟨hb, σ, A, T, F, l, st, n, hA, hr, hs, hn, hq, hk, hc1, hc2⟩ := h
  match A, hA with
  | a :: A, hA =>
    have hA : A.length = k := by simpa using hA
    obtain ⟨s1, s2, s3⟩ := hs
    have hqq := hq.2
    simp only [List.length_cons] at hqq
    refine (hr.step s2 (by omega) (by omega) ⟨hc1, by omega⟩ (by have := hb.size; omega)).mono ?_
    rintro e w' ⟨rfl, k1, k2⟩
    refine ⟨⟨_, rfl⟩, hb.trans k2, _, A, T, F, l, st, n, hA, k1, s3, hn, hq.act s2, by omega, ?_, ?_⟩
    · rcases act_c σ a with e | e <;> omega
    · rcases act_c σ a with e | e <;> omega
theorem QX.commit {B s g x y z j m : Nat} {W2 : World} {q : Nat} {wx : World} (h : QX B s g x y z j m W2 q wx) (hok : Sh.okS x y z) (hq : q ≤ 100) (v : Value) (L : List Chg) (hL : CLie wx v L) (hv : L ≠ [] → ∀ a, v.ownBlock = some a → a < B) (hB : B ≤ W2.heap.size) :
    Calls Tryz.prog 14 #[.pointer (some ⟨s, 0, none⟩), v] wx fun e w' => (e = .returned (.int .i64 0) ∧ ∃ k, Hid (Going B s g x y z j m W2 (q + 1) k w')) ∨ (∃ n : Int, e = .returned (.int .i64 n) ∧ (n == 0) = false ∧ (n != 0) = true ∧ Hid (QX B s g x y z j m W2 (q + 1) w')) := by
  obtain ⟨hb, f, T, F, Ls, st, hQ, hn⟩ := h
  have hf1 := hQ.gd.f1
  refine (hQ.commit hok (by omega) v L hL hv (by have := hb.size; omega)).mono ?_
  rintro e w' ⟨⟨rfl, hX, A, T1, F1, l1, k1, k2, k3, k4, k5⟩ | ⟨n, rfl, h0, _, k⟩, kb⟩
  · refine .inl ⟨rfl, A.length, hid ⟨hb.trans kb, _, A, T1, F1, l1, _, _, rfl, k1, k2.mono (fun σ hs Q' hQ' => ?_) (fun σ hs => hs), by omega, k3, k5, by show 0 ≤ (F : Int) + Ls.length - 1; omega, by show (F : Int) + Ls.length - 1 + A.length ≤ 100000; omega⟩⟩
    obtain ⟨T, F, Ls, hg | hg⟩ := hs Q' hQ'
    · exact ⟨T, F, Ls, _, hg⟩
    · exact ⟨T, F, Ls, _, hg⟩
  · exact .inr ⟨n, rfl, by simpa using h0, by simpa using h0, hid ⟨hb.trans kb, f, T, F, Ls, st, k, by omega⟩⟩
/-- while a device is mended, so many acts ahead -/
def Mends (B s g x y z j m : Nat) (W2 : World) (k : Nat) (wx : World) : Prop := Below B W2 wx ∧ ∃ σ A T F st, A.length = k ∧ Rn B s g x y z j m wx σ A T F [] ∧ Safe x (fun _ => True) (fun σ => ∃ f', GoodD x y z f' T F [] st ∧ σ = ⟨f', [], [], [], (F : Int) - 1⟩) A σ ∧ Qok σ A ∧ k ≤ 1000 ∧ 0 ≤ σ.c ∧ σ.c + k ≤ 10000000
/-- a device that is mended, and its store -/
def Mended (B s g x y z j m : Nat) (W2 : World) (F : Nat) (f : Nat → Option ByteArray) (wx : World) : Prop := Below B W2 wx ∧ ∃ T st, GoodD x y z f T F [] st ∧ Rn B s g x y z j m wx ⟨f, [], [], [], (F : Int) - 1⟩ [] T F []
theorem Mends.busy {B s g x y z j m : Nat} {W2 : World} {k : Nat} {wx : World} (h : Mends B s g x y z j m W2 k wx) : Calls Tryz.prog 21 #[.pointer (some ⟨s, 0, none⟩)] wx fun e w' => e = .returned (.bool (decide (0 < k))) ∧ w' = wx := by
  obtain ⟨hb, σ, A, T, F, st, rfl, hr, _⟩ := h
  exact hr.busy
theorem Mends.step {B s g x y z j m : Nat} {W2 : World} {k : Nat} {wx : World} (h : Mends B s g x y z j m W2 (k + 1) wx) (hB : B ≤ W2.heap.size) : Calls Tryz.prog 18 #[.pointer (some ⟨s, 0, none⟩)] wx fun e w' => (∃ b, e = .returned (.tuple #[.bool b, .int .i64 0])) ∧ Mends B s g x y z j m W2 k w' := by
  obtain ⟨hb, σ, A, T, F, st, hA, hr, hs, hq, hk, hc1, hc2⟩ := h
  match A, hA with
  | a :: A, hA =>
    have hA : A.length = k := by simpa using hA
    obtain ⟨s1, s2, s3⟩ := hs
    have hqq := hq.2
    simp only [List.length_cons] at hqq
    refine (hr.step s2 (by omega) (by omega) ⟨hc1, by omega⟩ (by have := hb.size; omega)).mono ?_
    rintro e w' ⟨rfl, k1, k2⟩
    refine ⟨⟨_, rfl⟩, hb.trans k2, _, A, T, F, st, hA, k1, s3, hq.act s2, by omega, ?_, ?_⟩
    · rcases act_c σ a with e | e <;> omega
    · rcases act_c σ a with e | e <;> omega
theorem Mends.fin {B s g x y z j m : Nat} {W2 : World} {wx : World} (h : Mends B s g x y z j m W2 0 wx) : ∃ F f, Mended B s g x y z j m W2 F f wx := by
  obtain ⟨hb, σ, A, T, F, st, hA, hr, hs, _⟩ := h
  obtain rfl := List.eq_nil_of_length_eq_zero hA
  obtain ⟨_, f', hg, rfl⟩ := hs
  exact ⟨F, f', hb, T, st, hg, hr⟩
/-- Open behind a crash -/
theorem mends_open {B g x y z : Nat} {W2 wx : World} {f : Nat → Option ByteArray} {fp : List Nat} {T F : Nat} {Ls : List (List Chg)} {st : Nat → ByteArray} (hok : Sh.okS x y z) (hb : Below B W2 wx) (hD : Dv.DIs B g wx 1048576 ⟨x, f, []⟩ fp) (hG : GoodD x y z f T F Ls st) (hB : B ≤ W2.heap.size) :
    Calls Tryz.prog 11 #[.pointer (some ⟨g, 0, none⟩)] wx fun e w' => ∃ s j m k, e = .returned (.tuple #[.pointer (some ⟨s, 0, none⟩), .int .i64 0]) ∧ Hid (Mends B s g x y z j m W2 k w') := by
  have hx := hok.1.1
  have hsp := hok.2
  have hf1 := hG.f1
  have hfe := hG.fe
  refine (rn_open x y z hok hG wx hD (by have := hb.size; omega)).mono ?_
  rintro e w' ⟨s, j, m, rfl, hr, hs, kb⟩
  have hml : (mg Ls).length ≤ used Ls := mg_used Ls
  have hus := hG.us
  have hy := hok.1.2.1
  have hsf : Safe x (fun _ => True) (fun σ => ∃ f', GoodD x y z f' ((T + used Ls) % (y - 1)) (F + Ls.length) [] st ∧ σ = ⟨f', [], [], [], ((F + Ls.length : Nat) : Int) - 1⟩) (mendA y T F Ls) ⟨f, [], mg Ls, [], (F : Int) + Ls.length - 1⟩ := by
    have e0 : (F : Int) + Ls.length - 1 = ((F + Ls.length : Nat) : Int) - 1 := by push_cast; rfl
    by_cases hLs : Ls = []
    · have e1 : mendA y T F Ls = [] := if_pos hLs
      rw [e1, e0]
      subst hLs
      refine ⟨trivial, f, ?_, rfl⟩
      have e2 : (T + used []) % (y - 1) = T := Nat.mod_eq_of_lt hG.tl
      rw [e2]
      exact hG
    · have e1 : mendA y T F Ls = _ := if_neg hLs
      rw [e1, e0]
      exact (safe_mend (by omega) hG).mono (fun _ _ => trivial) (fun σ hs => hs)
  have hlen : (mendA y T F Ls).length ≤ 1000 := by
    unfold mendA layA
    split
    · exact Nat.zero_le _
    · simp; omega
  exact ⟨s, j, m, _, rfl, hid ⟨hb.trans (kb.mono (by have := hb.size; omega)), _, _, _, _, st, rfl, hr, hsf, ⟨(fun q hq => by cases hq), by show 0 + _ ≤ 2000; omega⟩, by omega, by show 0 ≤ (F : Int) + Ls.length - 1; omega, by show (F : Int) + Ls.length - 1 + _ ≤ 10000000; omega⟩⟩
/-- Open of a device that is mended: a store that is not busy -/
theorem mended_open {B s g x y z j m : Nat} {W2 wx : World} {F : Nat} {f : Nat → Option ByteArray} (h : Mended B s g x y z j m W2 F f wx) (hok : Sh.okS x y z) (hB : B ≤ W2.heap.size) :
    Calls Tryz.prog 11 #[.pointer (some ⟨g, 0, none⟩)] wx fun e w' => ∃ s2 j2 m2, e = .returned (.tuple #[.pointer (some ⟨s2, 0, none⟩), .int .i64 0]) ∧ Hid (Mended B s g x y z j m W2 F f w' ∧ Mended B s2 g x y z j2 m2 W2 F f w') := by
  obtain ⟨hb, T, st, hg, hr⟩ := h
  obtain ⟨fp, hD⟩ := hr.dev
  have hs := hb.size
  refine (rn_open x y z hok hg wx hD (by omega)).mono ?_
  rintro e w' ⟨s2, j2, m2, rfl, k1, _, kb⟩
  have kb2 := hb.trans (kb.mono (by omega : B ≤ wx.heap.size))
  refine ⟨s2, j2, m2, rfl, hid ⟨⟨kb2, T, st, hg, hr.below kb⟩, kb2, T, st, hg, ?_⟩⟩
  have e1 : mendA y T F [] = [] := if_pos rfl
  have e2 : (T + used []) % (y - 1) = T := Nat.mod_eq_of_lt hg.tl
  rw [e1, e2] at k1
  have e3 : (F : Int) + (([] : List (List Chg)).length : Int) - 1 = (F : Int) - 1 := by simp
  rw [e3] at k1
  exact k1
theorem Mended.below {B s g x y z j m : Nat} {W2 wx w' : World} {F : Nat} {f : Nat → Option ByteArray} (h : Mended B s g x y z j m W2 F f wx) (k : Below wx.heap.size wx w') (hB : B ≤ W2.heap.size) : Mended B s g x y z j m W2 F f w' := by
  obtain ⟨hb, T, st, hg, hr⟩ := h
  exact ⟨hb.trans (k.mono (by have := hb.size; omega)), T, st, hg, hr.below k⟩
theorem Mended.busy {B s g x y z j m : Nat} {W2 wx : World} {F : Nat} {f : Nat → Option ByteArray} (h : Mended B s g x y z j m W2 F f wx) : Calls Tryz.prog 21 #[.pointer (some ⟨s, 0, none⟩)] wx fun e w' => e = .returned (.bool false) ∧ w' = wx := by
  obtain ⟨hb, T, st, hg, hr⟩ := h
  exact hr.busy
theorem Mended.count {B s g x y z j m : Nat} {W2 wx : World} {F : Nat} {f : Nat → Option ByteArray} (h : Mended B s g x y z j m W2 F f wx) : Calls Tryz.prog 20 #[.pointer (some ⟨s, 0, none⟩)] wx fun e w' => e = .returned (.int .i64 ((F : Int) - 1)) ∧ w' = wx := by
  obtain ⟨hb, T, st, hg, hr⟩ := h
  exact hr.count
theorem Mended.read {B s g x y z j m : Nat} {W2 wx : World} {F : Nat} {f : Nat → Option ByteArray} (h : Mended B s g x y z j m W2 F f wx) (k : Nat) (hk : k < x) : Calls Tryz.prog 23 #[.pointer (some ⟨s, 0, none⟩), .int .i64 (k : Int)] wx fun e w' => e = .returned (.tuple #[.string (val f k), .int .i64 0]) ∧ Below wx.heap.size wx w' := by
  obtain ⟨hb, T, st, hg, hr⟩ := h
  exact hr.read k hk
/-- the crash -/
theorem cut_crash {B g x y z : Nat} {W2 wx : World} (h : Cut1 B g x y z W2 wx) (pv : Value) (bs : List Bool) (t : Nat) (ht : t ≤ 1024) (hb : BLie wx pv bs) (hB : bs ≠ [] → ∀ a, pv.ownBlock = some a → a < B) :
    Calls Tryz.prog 35 #[.pointer (some ⟨g, 0, none⟩), pv, .int .i64 t] wx fun e w' => e = .returned (.int .i64 0) ∧ Hid (Below B W2 w' ∧ ∃ f fp T F Ls st, Dv.DIs B g w' 1048576 ⟨x, f, []⟩ fp ∧ GoodD x y z f T F Ls st) := by
  obtain ⟨hbb, σ, fp, hD, hC, hz, hl⟩ := h
  refine (dev_crash pv bs t ht (by omega) hz wx hD hb hB).mono ?_
  rintro e w' ⟨rfl, ⟨Q', q1, fp', hD'⟩, kb⟩
  obtain ⟨T, F, Ls, st, hg⟩ := hC Q' q1
  exact ⟨rfl, hid ⟨hbb.trans kb, _, fp', T, F, Ls, st, hD', hg⟩⟩
end Go.Proofs.YtopebghandojbaaGreat
namespace Go.Proofs.YtopebghandojbaaGreat
open Go.RowKit Go.Maps

set_option maxRecDepth 100000 in
set_option maxHeartbeats 4000000 in
theorem again_bad (x y z a t : Int) (lv pv : Value) (l : List (Value × List Chg)) (h : ¬ Sh.okS x y z) (W : World) (hl : VLie W lv l) :
    Calls Tryz.prog 7 #[.agg #[.int .i64 x, .int .i64 y, .int .i64 z], lv, .agg #[.int .i64 a, .int .i64 t, pv]] W fun e w' => e = .returned (.bool true) ∧ Below W.heap.size W w' := by
  have HF := hid (fun v w => format_bad x y z h v w)
  have HO := hid open_nilD
  have HS := hid speaks_any
  obtain ⟨ao, cap, rfl, h1, h2, _⟩ := hl
  unfold maxLen at h2
  go_enter Tryz.func7, Tryz.ntmps7
  go_wp2_with (first
    | (go_at_call 8; refine (HF.out _ _).mono ?_; rintro e w1 ⟨rfl, hb1⟩)
    | (go_at_call 11; refine (HO.out _).mono ?_; rintro e w2 ⟨rfl, hb2⟩)
    | (go_at_call 10; refine (HS.out _).mono ?_; rintro e w3 ⟨rfl, hb3⟩))
  go_ret
  exact ⟨rfl, ((((below_alloc _ _).next (below_alloc _ _)).next hb1).next hb2).next hb3⟩
set_option maxRecDepth 100000 in
set_option maxHeartbeats 4000000 in
theorem again_long (x y z : Nat) (a t : Int) (lv pv : Value) (l : List (Value × List Chg)) (h : Sh.okS x y z) (h40 : 40 < l.length) (W : World) (hl : VLie W lv l) :
    Calls Tryz.prog 7 #[.agg #[.int .i64 x, .int .i64 y, .int .i64 z], lv, .agg #[.int .i64 a, .int .i64 t, pv]] W fun e w' => e = .returned (.bool true) ∧ Below W.heap.size W w' := by
  have HF := hid (fun w => format_nil x y z h w)
  have HO := hid (fun w B g N fp (hD : Dv.DIs B g w N ⟨x, fmtL x y z, []⟩ fp) hB => rn_open x y z h (good_format x y z h) w hD hB)
  have HS := hid speaks_any
  obtain ⟨ao, cap, rfl, h1, h2, _⟩ := hl
  unfold maxLen at h2
  clear h
  go_enter Tryz.func7, Tryz.ntmps7
  go_wp2_with (first
    | (go_at_call 8; refine (HF.out _).mono ?_; rintro e w1 ⟨g, fp, rfl, hd1, hb1⟩
       have HD1 := hid hd1
       clear hd1)
    | (go_at_call 11; refine (HO.out _ _ _ _ _ HD1.out (by exact hb1.size)).mono ?_; rintro e w2 ⟨s, j, m, rfl, hr2, hs2, hb2⟩
       have HR2 := hid hr2
       clear hr2)
    | (go_at_call 10; refine (HS.out _).mono ?_; rintro e w3 ⟨rfl, hb3⟩))
  go_ret
  exact ⟨rfl, ((((below_alloc _ _).next (below_alloc _ _)).next hb1).next hb2).next hb3⟩
theorem Cut1.below {B g x y z : Nat} {W2 wx w' : World} (h : Cut1 B g x y z W2 wx) (k : Below wx.heap.size wx w') (hB : B ≤ W2.heap.size) : Cut1 B g x y z W2 w' := by
  obtain ⟨hb, σ, fp, hD, h2⟩ := h
  exact ⟨hb.trans (k.mono (by have := hb.size; omega)), σ, fp, hD.below k, h2⟩
theorem BLie.blk {w : World} {v : Value} {l : List Bool} (h : BLie w v l) (h0 : l ≠ []) : ∀ a, v.ownBlock = some a → a < w.heap.size := by
  obtain ⟨ao, cap, rfl, _, _, h3⟩ := h
  intro a ha
  obtain ⟨gb, off, rfl, hg, _⟩ := h3 0 (List.length_pos_iff.2 h0)
  cases ha
  exact hg
theorem BLie.belowW {w w' : World} {v : Value} {l : List Bool} (h : BLie w v l) (k : Below w.heap.size w w') : BLie w' v l := by
  obtain ⟨ao, cap, e, h1, h2, h3⟩ := h
  refine ⟨ao, cap, e, h1, h2, fun i hi => ?_⟩
  obtain ⟨gb, off, e1, hg, c0⟩ := h3 i hi
  exact ⟨gb, off, e1, Nat.lt_of_lt_of_le hg k.size, (k.cell (p := ⟨gb, off + i, none⟩) hg).trans c0⟩
set_option maxRecDepth 100000 in
set_option maxHeartbeats 1500000 in
theorem again_go (x y z : Nat) (a t : Int) (lv pv : Value) (l : List (Value × List Chg)) (bs : List Bool) (h : Sh.okS x y z) (h40 : l.length ≤ 40) (W : World) (hl : VLie W lv l) (hb : BLie W pv bs) :
    Calls Tryz.prog 7 #[.agg #[.int .i64 x, .int .i64 y, .int .i64 z], lv, .agg #[.int .i64 a, .int .i64 t, pv]] W fun e w' => e = .returned (.bool true) ∧ Below W.heap.size W w' := by
  have HF := hid (fun w => format_nil x y z h w)
  have HO := hid (fun w B g N fp (hD : Dv.DIs B g w N ⟨x, fmtL x y z, []⟩ fp) hB => rn_open x y z h (good_format x y z h) w hD hB)
  have HS := hid speaks_any
  have hx1 : x ≤ 1024 := by have := h.1.1; omega
  have HH := hid h
  have HVL := hid hl
  have HBL := hid hb
  have HPB : Hid (bs ≠ [] → ∀ b, pv.ownBlock = some b → b < W.heap.size) := hid hb.blk
  have HG0 := hid (good_format x y z h)
  obtain ⟨ao, cap, rfl, h1, h2, hcells⟩ := hl
  unfold maxLen at h2
  clear h hb hcells
  obtain ⟨W2, hW2⟩ : ∃ W2, W2 = (W.alloc (.cells #[.int .i64 (x : Int), .int .i64 (y : Int), .int .i64 (z : Int)] 23)).alloc (.cells #[.int .i64 a, .int .i64 t, pv] 72) := ⟨_, rfl⟩
  have HBW : Hid (Below W.heap.size W W2) := hid (by rw [hW2]; exact (below_alloc _ _).next (below_alloc _ _))
  have hWs : W2.heap.size = W.heap.size + 2 := by rw [hW2]; simp
  have HX : Hid (W2.heap[W.heap.size]? = some (.cells #[.int .i64 (x : Int), .int .i64 (y : Int), .int .i64 (z : Int)] 23 (0, 0)) ∧ W2.heap[W.heap.size + 1]? = some (.cells #[.int .i64 a, .int .i64 t, pv] 72 (0, 0))) := hid (by
    rw [hW2]
    refine ⟨(Below.heap_alloc _ _ _ (by simp)).trans (box_at W _), ?_⟩
    have := box_at (W.alloc (.cells #[.int .i64 (x : Int), .int .i64 (y : Int), .int .i64 (z : Int)] 23)) (.cells #[.int .i64 a, .int .i64 t, pv] 72)
    simpa using this)
  have HW2 := hid hW2
  clear hW2
  go_enter Tryz.func7, Tryz.ntmps7
  go_upto_region 5 with (first
    | (go_at_call 8; refine (HF.out _).mono ?_; rintro e w1 ⟨g, fp, rfl, hd1, hb1⟩
       rw [← HW2.out] at hd1 hb1
       have HD1 := hid hd1
       have HB1 := hid hb1
       clear hd1 hb1)
    | (go_at_call 11; refine (HO.out _ _ _ _ _ HD1.out (by exact HB1.out.size)).mono ?_; rintro e w2 ⟨s, j, m, rfl, hr2, hs2, hb2⟩
       have HR2 := hid hr2
       have HB2 := hid (HB1.out.next hb2)
       clear hr2 hb2))
  have HQ0 : Hid (QX W2.heap.size s g x y z j m W2 0 w2) := hid (by
    refine ⟨HB2.out, fmtL x y z, 0, 1, [], _, ⟨?_, HG0.out⟩, Nat.le_refl _⟩
    have k := HR2.out
    have e1 : mendA y 0 1 [] = [] := if_pos rfl
    have e2 : (0 + used []) % (y - 1) = 0 := Nat.zero_mod _
    rw [e1, e2] at k
    exact k)
  obtain ⟨d0, _, _⟩ := three_cells ((HB2.out.block _ (by omega)).trans HX.out.2)
  clear HR2 HD1 HB1 hs2
  go_upto_block 0 with fail
  go_cut [] (fun wx => Cut1 W2.heap.size g x y z W2 wx)
  case first =>
    go_wp2_with fail
    go_loopw [11, 66] (fun ac i wr => ∃ (q : Nat) (n : Int), ac = .int .i64 n ∧ i = .int .i64 q ∧ q ≤ l.length ∧ QX W2.heap.size s g x y z j m W2 q wr) (fun _ i _ => l.length - (intOf i).toNat)
    case atStart => exact ⟨0, a, rfl, rfl, Nat.zero_le _, HQ0.out⟩
    case round =>
      obtain ⟨q, n, rfl, rfl, hq, hqx⟩ := hrel
      have HQX := hid hqx
      clear hqx d0
      by_cases hql : q < l.length
      · have HWr : Hid (Below W.heap.size W wr) := hid (HBW.out.trans (HQX.out.1.mono (by omega)))
        obtain ⟨gb, off, cp, e, hgb, c0, hcl⟩ := HVL.out.at hql
        injection e with e1 e2 e3
        subst e1
        have c1 : wr.cell? ⟨gb, off + q, none⟩ = some l[q].1 := (HWr.out.cell (p := ⟨gb, off + q, none⟩) hgb).trans c0
        have hmem := hcl.blk
        have HCM := hid (HQX.out.commit HH.out (by omega) l[q].1 l[q].2 (hcl.below HWr.out) (fun hL0 b hb => by have := hmem hL0 b hb; omega) (Nat.le_refl _))
        obtain ⟨p, hp⟩ : ∃ p, p = l[q] := ⟨_, rfl⟩
        rw [← hp] at c1 HCM
        obtain ⟨vq, Lq⟩ := p
        clear hp hmem hcl c0 e3 e2
        go_wp2_with (first
          | (go_at_call 14; refine HCM.out.mono ?_; rintro e w3 (⟨rfl, k, hg3⟩ | ⟨n3, rfl, h30, h31, hq3⟩)))
        · go_loopg [11] k (fun kk ac wx => ∃ n : Int, ac = .int .i64 n ∧ Going W2.heap.size s g x y z j m W2 (q + 1) kk wx)
          case atStart => exact ⟨n, rfl, hg3.out⟩
          case round =>
            obtain ⟨n', rfl, hgo⟩ := hrel
            have HGO := hid hgo
            clear hgo c1
            have HBU := hid HGO.out.busy
            by_cases hk : gk = 0
            · subst hk
              rw [decide_eq_false (show ¬ 0 < 0 by omega)] at HBU
              go_wp2_with (first
                | (go_at_call 21; refine HBU.out.mono ?_; rintro e w4 ⟨rfl, hw⟩; have hw := hw.symm; subst hw))
              go_roundw
              case rel => exact ⟨q + 1, n', rfl, by go_num, by omega, HGO.out.fin⟩
              case measure => simp only [intOf] at *; omega
            · rw [decide_eq_true (show 0 < gk by omega)] at HBU
              by_cases hn : 0 < n'
              · obtain ⟨k', rfl⟩ : ∃ k', gk = k' + 1 := ⟨gk - 1, by omega⟩
                have HST := hid (HGO.out.step (Nat.le_refl _))
                go_wp2_with (first
                  | (go_at_call 21; refine HBU.out.mono ?_; rintro e w4 ⟨rfl, hw⟩; have hw := hw.symm; subst hw)
                  | (go_at_call 18; refine HST.out.mono ?_; rintro e w4 ⟨⟨b4, rfl⟩, hg4⟩
                     have HG4 := hid hg4
                     clear hg4))
                go_roundg k'
                case measure => omega
                case rel => exact ⟨_, rfl, HG4.out⟩
              · go_wp2_with (first
                  | (go_at_call 21; refine HBU.out.mono ?_; rintro e w4 ⟨rfl, hw⟩; have hw := hw.symm; subst hw))
                go_meet
                exact HGO.out.cut
        · go_roundw
          case rel => exact ⟨q + 1, n, rfl, by go_num, by omega, hq3.out⟩
          case measure => simp only [intOf] at *; omega
      · go_wp2_with fail
        go_meet
        exact HQX.out.cut
  case rest =>
    have HCU := hid hcut
    clear hcut d0 HQ0
    rename World => w5
    have hsz5 := HCU.out.1.size
    have HB5 : Hid (Below W.heap.size W w5) := hid (HBW.out.trans (HCU.out.1.mono (by omega)))
    obtain ⟨_, d1, d2⟩ := three_cells ((HCU.out.1.block _ (by omega)).trans HX.out.2)
    have HCR : Hid (∀ w', Below w5.heap.size w5 w' → Calls Tryz.prog 35 #[.pointer (some ⟨g, 0, none⟩), pv, .int .i64 (clipN t)] w' fun e w'' => e = .returned (.int .i64 0) ∧ Hid (Below W2.heap.size W2 w'' ∧ ∃ f fp T F Ls st, Dv.DIs W2.heap.size g w'' 1048576 ⟨x, f, []⟩ fp ∧ GoodD x y z f T F Ls st)) :=
      hid (fun w' hb => cut_crash (HCU.out.below hb (Nat.le_refl _)) pv bs (clipN t) (clipN_le t) (HBL.out.belowW (HB5.out.trans (hb.mono (by omega)))) (fun h0 b hb => by have := HPB.out h0 b hb; omega))
    go_upto_region 15 with fail
    go_cut [] (fun wx => Below W2.heap.size W2 wx ∧ ∃ f fp T F Ls st, Dv.DIs W2.heap.size g wx 1048576 ⟨x, f, []⟩ fp ∧ GoodD x y z f T F Ls st)
    case first =>
      go_region_held3 (fun w' => w'.cell? ⟨W.heap.size + 1, 1, none⟩ = some (.int .i64 t) ∧ w'.cell? ⟨W.heap.size + 1, 2, none⟩ = some pv) (first | exact ⟨d1, d2⟩ | exact d7 | go_keep) (first
        | (go_at_call 36; refine (clip_any t _).mono ?_; rintro e w6 ⟨rfl, hw⟩; have hw := hw.symm; subst hw)
        | (go_at_call 35; refine (HCR.out _ (by exact ⟨rfl, rfl, rfl, Nat.le_refl _, fun _ _ => rfl⟩)).mono ?_; rintro e w7 ⟨rfl, h7⟩
           have d7 : w7.cell? ⟨W.heap.size + 1, 1, none⟩ = some (.int .i64 t) ∧ w7.cell? ⟨W.heap.size + 1, 2, none⟩ = some pv := (three_cells ((h7.out.1.block _ (by omega)).trans HX.out.2)).2))
      all_goals
        go_wp2
        go_meet
        exact h7.out
    case rest =>
      rename World => w8
      obtain ⟨hb8, f8, fp8, T8, F8, Ls8, st8, hD8, hG8⟩ := hcut
      have HOP := hid (mends_open HH.out hb8 hD8 hG8 (Nat.le_refl _))
      clear hb8 hD8 hG8 d1 d2 HCR
      go_wp2_with (first
        | (go_at_call 11; refine HOP.out.mono ?_; rintro e w9 ⟨s5, j5, m5, k5, rfl, hm9⟩))
      go_loopg [105] k5 (fun kk _ wx => Mends W2.heap.size s5 g x y z j5 m5 W2 kk wx)
      case atStart => exact hm9.out
      case round =>
        have HME := hid hrel
        clear hrel
        have HBU := hid HME.out.busy
        by_cases hk : gk = 0
        · subst hk
          rw [decide_eq_false (show ¬ 0 < 0 by omega)] at HBU
          obtain ⟨F9, f9, hmd⟩ := HME.out.fin
          have HO2 := hid (mended_open hmd HH.out (Nat.le_refl _))
          clear hmd
          go_upto_region 22 with (first
            | (go_at_call 21; refine HBU.out.mono ?_; rintro e w4 ⟨rfl, hw⟩; have hw := hw.symm; subst hw)
            | (go_at_call 11; refine HO2.out.mono ?_; rintro e w10 ⟨s6, j6, m6, rfl, hmm⟩))
          have HB6 := hid hmm.out.2.busy
          have HC := hid (fun (s' : Nat) (hs : s' = s5 ∨ s' = s6) => (show Calls Tryz.prog 20 #[.pointer (some ⟨s', 0, none⟩)] w10 fun e w' => e = .returned (.int .i64 ((F9 : Int) - 1)) ∧ w' = w10 by
            rcases hs with rfl | rfl
            · exact hmm.out.1.count
            · exact hmm.out.2.count))
          go_upto_region 24 with (first
            | (go_at_call 21; refine HB6.out.mono ?_; rintro e w4 ⟨rfl, hw⟩; have hw := hw.symm; subst hw)
            | (go_at_call 20; refine (HC.out _ (by first | exact .inl rfl | exact .inr rfl)).mono ?_; rintro e w4 ⟨rfl, hw⟩; have hw := hw.symm; subst hw))
          clear HB6 HC HO2 HBU
          go_wp2_with fail
          go_loopw [18] (fun i wr => ∃ q : Nat, i = .int .i64 q ∧ q ≤ x ∧ Mended W2.heap.size s5 g x y z j5 m5 W2 F9 f9 wr ∧ Mended W2.heap.size s6 g x y z j6 m6 W2 F9 f9 wr) (fun i _ => x - (intOf i).toNat)
          case atStart => exact ⟨0, rfl, Nat.zero_le _, hmm.out.1, hmm.out.2⟩
          case round =>
            obtain ⟨q, rfl, hq, hm5, hm6⟩ := hrel
            have H5 := hid hm5
            have H6 := hid hm6
            clear hm5 hm6
            obtain ⟨e0, _, _⟩ := three_cells ((H5.out.1.block _ (by omega)).trans HX.out.1)
            by_cases hqx : q < x
            · have HR5 := hid (H5.out.read q hqx)
              have HR6 : Hid (∀ w', Below wr.heap.size wr w' → Calls Tryz.prog 23 #[.pointer (some ⟨s6, 0, none⟩), .int .i64 (q : Int)] w' fun e w'' => e = .returned (.tuple #[.string (val f9 q), .int .i64 0]) ∧ Below w'.heap.size w' w'') := hid (fun w' hb => (H6.out.below hb (Nat.le_refl _)).read q hqx)
              obtain ⟨u, hu⟩ : ∃ u, u = val f9 q := ⟨_, rfl⟩
              rw [← hu] at HR5 HR6
              clear hu
              go_upto_region 28 with (first
                | (go_at_call 23; refine HR5.out.mono ?_; rintro e w11 ⟨rfl, hb11⟩
                   have HB11 := hid hb11
                   clear hb11))
              go_wp2_with (first
                | (go_at_call 23; refine (HR6.out _ HB11.out).mono ?_; rintro e w12 ⟨rfl, hb12⟩
                   have HB12 := hid hb12
                   clear hb12))
              go_roundw
              case rel => exact ⟨q + 1, by go_num, by omega, (H5.out.below HB11.out (Nat.le_refl _)).below HB12.out (Nat.le_refl _), (H6.out.below HB11.out (Nat.le_refl _)).below HB12.out (Nat.le_refl _)⟩
              case measure => simp only [intOf] at *; omega
            · go_wp2_with (first
                | (go_at_call 10; refine (HS.out _).mono ?_; rintro e w13 ⟨rfl, hb13⟩))
              go_ret
              exact ⟨rfl, (HBW.out.trans (H5.out.1.mono (by omega))).next hb13⟩
        · obtain ⟨k', rfl⟩ : ∃ k', gk = k' + 1 := ⟨gk - 1, by omega⟩
          rw [decide_eq_true (show 0 < k' + 1 by omega)] at HBU
          have HST := hid (HME.out.step (Nat.le_refl _))
          go_wp2_with (first
            | (go_at_call 21; refine HBU.out.mono ?_; rintro e w4 ⟨rfl, hw⟩; have hw := hw.symm; subst hw)
            | (go_at_call 18; refine HST.out.mono ?_; rintro e w4 ⟨⟨b4, rfl⟩, hg4⟩
               have HG4 := hid hg4
               clear hg4))
          go_roundg k'
          case measure => omega
          case rel => exact HG4.out
end Go.Proofs.YtopebghandojbaaGreat
namespace Go.Proofs.YtopebghandojbaaGreat
open Go.RowKit Go.Maps
theorem again_walk (x y z a t : Int) (lv pv : Value) (l : List (Value × List Chg)) (bs : List Bool) (W : World) (hl : VLie W lv l) (hb : BLie W pv bs) :
    Calls Tryz.prog 7 #[.agg #[.int .i64 x, .int .i64 y, .int .i64 z], lv, .agg #[.int .i64 a, .int .i64 t, pv]] W fun e w' => e = .returned (.bool true) ∧ Below W.heap.size W w' := by
  by_cases h : Sh.okS x y z
  · have hx := h.1.1
    have hy := h.1.2.1
    have hz := h.1.2.2
    obtain ⟨x, rfl⟩ : ∃ n : Nat, x = n := ⟨x.toNat, by omega⟩
    obtain ⟨y, rfl⟩ : ∃ n : Nat, y = n := ⟨y.toNat, by omega⟩
    obtain ⟨z, rfl⟩ : ∃ n : Nat, z = n := ⟨z.toNat, by omega⟩
    by_cases h40 : l.length ≤ 40
    · exact again_go x y z a t lv pv l bs h h40 W hl hb
    · exact again_long x y z a t lv pv l h (by omega) W hl
  · exact again_bad x y z a t lv pv l h W hl
end Go.Proofs.YtopebghandojbaaGreat
