import Derived.Test.YtopebghandojbaaGreatGi
import Derived.Test.YtopebghandojbaaGreatYg
namespace Go.Proofs.YtopebghandojbaaGreat
open Go.RowKit Go.Maps

/-- the program's store, its blocks in a set, and its device -/
structure PR (N0 : Nat) (M : Nat → Prop) (s g x y z j m : Nat) (w : World) (σ : MS) (A : List AT) (T F : Nat) (l : List Int) : Prop where
  ex : ∃ (av uv : Value) (N B : Nat) (fp : List Nat) (r : Option Nat), StIs s w g x y z j av m uv σ.c ∧ ALie w av A ∧ (A = [] → ∃ ao, av = .slice ao 0 0) ∧ Dv.DIs B g w N ⟨x, σ.f, σ.Q⟩ fp ∧ B ≤ w.heap.size ∧ CLie w uv σ.U ∧ JS j r w ((y : Int) - 1) T F l.length l ∧
    s ∉ fp ∧ m ∉ fp ∧ j ∉ fp ∧ (∀ b, r = some b → b ∉ fp ∧ b ≠ s ∧ b ≠ m ∧ b ≠ j ∧ M b) ∧ (A ≠ [] → ∀ b, av.ownBlock = some b → b ∉ fp ∧ b ≠ s ∧ b ≠ m ∧ b ≠ j ∧ M b) ∧ (∀ b, uv.ownBlock = some b → b ∉ fp ∧ b ≠ m ∧ b ≠ s ∧ b ≠ j ∧ M b) ∧ ∀ b ∈ fp, M b
  mis : Um.MIs m w σ.M.length σ.M
  sm : Sml σ.M
  su : Sml σ.U ∧ σ.U.length ≤ 48
  nms : m ≠ s
  njs : j ≠ s
  njm : j ≠ m
  ms : M s
  mm : M m
  mj : M j
  lo : ∀ b, M b → N0 ≤ b
  hi : ∀ b, M b → b < w.heap.size
section
variable {N0 : Nat} {M M1 : Nat → Prop} {s g x y z j m : Nat} {w w' : World} {σ : MS} {A : List AT} {T F : Nat} {l : List Int}
theorem PR.keep (h : PR N0 M s g x y z j m w σ A T F l) (k : Keep M1 w w') (hd : ∀ b, M b → ¬ M1 b) : PR N0 M s g x y z j m w' σ A T F l := by
  obtain ⟨⟨av, uv, N, B, fp, r, h1, h2, h3, h4, hB, h5, h6, n1, n2, n3, n4, n5, n6, n7⟩, h7, h8, h9, h10, h11, h12, h13, h14, h15, h16, h17⟩ := h
  obtain ⟨G, kO, hG⟩ := k.toOnly
  have hn : ∀ b, M b → b ∉ G := fun b hb hm => hd b hb (hG b hm)
  refine ⟨⟨av, uv, N, B, fp, r, h1.only kO (hn s h13), ?_, h3, h4.other kO (fun b hb => hn b (n7 b hb)), Nat.le_trans hB k.size, CLie.only kO h5 (fun b hb => hn b (n6 b hb).2.2.2.2), h6.only kO (hn j h15) (fun b hb => hn b (n4 b hb).2.2.2.2), n1, n2, n3, n4, n5, n6, n7⟩, h7.same (kO.block m (h17 m h14) (hn m h14)), h8, h9, h10, h11, h12, h13, h14, h15, h16, fun b hb => Nat.lt_of_lt_of_le (h17 b hb) k.size⟩
  cases A with
  | nil =>
    obtain ⟨ao, cap, e, c1, c2, _⟩ := h2
    exact ⟨ao, cap, e, c1, c2, fun i hi => absurd hi (Nat.not_lt_zero _)⟩
  | cons a A => exact ALie.only kO h2 (fun b hb => hn b (n5 (by simp) b hb).2.2.2.2)
theorem PR.below (h : PR N0 M s g x y z j m w σ A T F l) (k : Below w.heap.size w w') : PR N0 M s g x y z j m w' σ A T F l := h.keep (M1 := fun _ => False) (Keep.of k) (fun _ _ e => e)
theorem PR.size (h : PR N0 M s g x y z j m w σ A T F l) : N0 ≤ w.heap.size := by
  have h1 := h.lo s h.ms
  have h2 := h.hi s h.ms
  omega
theorem PR.lt (h : PR N0 M s g x y z j m w σ A T F l) : s < w.heap.size ∧ m < w.heap.size ∧ j < w.heap.size := ⟨h.hi s h.ms, h.hi m h.mm, h.hi j h.mj⟩
theorem PR.make (hN : N0 ≤ w.heap.size) (hlo : ∀ b, M b → N0 ≤ b) (k : Keep M w w') (hms : M s) (hmm : M m) (hmj : M j) (nms : m ≠ s) (njs : j ≠ s) (njm : j ≠ m) (sm : Sml σ.M) (su : Sml σ.U ∧ σ.U.length ≤ 48) (mis : Um.MIs m w' σ.M.length σ.M)
    (h : ∃ (av uv : Value) (N B : Nat) (fp : List Nat) (r : Option Nat), StIs s w' g x y z j av m uv σ.c ∧ ALie w' av A ∧ (A = [] → ∃ ao, av = .slice ao 0 0) ∧ Dv.DIs B g w' N ⟨x, σ.f, σ.Q⟩ fp ∧ B ≤ w'.heap.size ∧ CLie w' uv σ.U ∧ JS j r w' ((y : Int) - 1) T F l.length l ∧
      s ∉ fp ∧ m ∉ fp ∧ j ∉ fp ∧ (∀ b, r = some b → b ∉ fp ∧ b ≠ s ∧ b ≠ m ∧ b ≠ j ∧ (M b ∨ w.heap.size ≤ b)) ∧ (A ≠ [] → ∀ b, av.ownBlock = some b → b ∉ fp ∧ b ≠ s ∧ b ≠ m ∧ b ≠ j ∧ (M b ∨ w.heap.size ≤ b) ∧ b < w'.heap.size) ∧ (∀ b, uv.ownBlock = some b → b ∉ fp ∧ b ≠ m ∧ b ≠ s ∧ b ≠ j ∧ (M b ∨ w.heap.size ≤ b) ∧ b < w'.heap.size) ∧ ∀ b ∈ fp, M b ∨ w.heap.size ≤ b) :
    After M w (fun M' w' => PR N0 M' s g x y z j m w' σ A T F l) w' := by
  obtain ⟨av, uv, N, B, fp, r, h1, h2, h3, h4, hB, h5, h6, n1, n2, n3, n4, n5, n6, n7⟩ := h
  refine ⟨fun b => (M b ∨ w.heap.size ≤ b) ∧ b < w'.heap.size, ⟨⟨av, uv, N, B, fp, r, h1, h2, h3, h4, hB, h5, h6, n1, n2, n3, fun b hb => ?_, fun hA b hb => ?_, fun b hb => ?_, fun b hb => ⟨n7 b hb, (h4.lo b hb).2⟩⟩, mis, sm, su, nms, njs, njm, ⟨.inl hms, h1.lt⟩, ⟨.inl hmm, mis.lt⟩, ⟨.inl hmj, h6.lt.1⟩, fun b hb => ?_, fun b hb => hb.2⟩, fun b hb => hb.1, k⟩
  · obtain ⟨a1, a2, a3, a4, a5⟩ := n4 b hb
    exact ⟨a1, a2, a3, a4, a5, (h6.lt.2 b hb).1⟩
  · obtain ⟨a1, a2, a3, a4, a5⟩ := n5 hA b hb
    exact ⟨a1, a2, a3, a4, a5⟩
  · obtain ⟨a1, a2, a3, a4, a5⟩ := n6 b hb
    exact ⟨a1, a2, a3, a4, a5⟩
  · rcases hb.1 with e | e
    · exact hlo b e
    · omega
theorem PR.step {a : AT} (h : PR N0 M s g x y z j m w σ (a :: A) T F l) (ha : AOk x a) (hA : A.length ≤ 1000) (hQ : σ.Q.length ≤ 100000) (hc : 0 ≤ σ.c ∧ σ.c ≤ 2000000000000) :
    Calls Tryz.prog 18 #[.pointer (some ⟨s, 0, none⟩)] w fun e w' => e = .returned (.tuple #[.bool (!decide (0 < A.length)), .int .i64 0]) ∧ After M w (fun M' w' => PR N0 M' s g x y z j m w' (σ.act a) A T F l) w' := by
  have hN := h.size
  obtain ⟨⟨av, uv, N, B, fp, r, h1, h2, h3, h4, hB, h5, h6, n1, n2, n3, n4, n5, n6, n7⟩, h7, h8, h9, h10, h11, h12, h13, h14, h15, h16, h17⟩ := h
  have n5 := n5 (by simp)
  have h4 := h4.shrink
  have hml := h7.lt
  have hjl := h6.lt
  have hfl := h4.lo
  have hsl := h1.lt
  refine (step_any2 a A hA w h1 h2 (fun b hb => (n5 b hb).2.1) (fun w' => After M w (fun M' w' => PR N0 M' s g x y z j m w' (σ.act a) A T F l) w') ?_).mono fun e w' hh => ⟨hh.1, hh.2⟩
  intro w1 av' k1 k2 k3 k4 k5
  have D1 := h4.other k5 (fun b hb => by simp; intro e; exact n1 (e ▸ hb))
  have M1 := h7.same (k5.block m hml (by simp; exact h10))
  have U1 := CLie.only k5 h5 (fun b hb => by simp; exact (n6 b hb).2.2.1)
  have J1 := h6.only k5 (by simp; exact h11) (fun b hb => by simp; exact (n4 b hb).2.1)
  have hs1 := k5.size
  have fin : ∀ (fp' F' : List Nat) (w' : World) (N' : Nat) (σ' : MS) (uv' : Value), Dv.Only F' w1 w' → (∀ k ∈ F', k ∈ fp ∨ k = s ∨ k = m) → StIs s w' g x y z j av' m uv' σ'.c → Dv.DIs B g w' N' ⟨x, σ'.f, σ'.Q⟩ fp' → (∀ k ∈ fp', k ∈ fp ∨ w1.heap.size ≤ k) → Um.MIs m w' σ'.M.length σ'.M → CLie w' uv' σ'.U → (∀ b, uv'.ownBlock = some b → uv.ownBlock = some b) → Sml σ'.M → (Sml σ'.U ∧ σ'.U.length ≤ 48) → After M w (fun M' w' => PR N0 M' s g x y z j m w' σ' A T F l) w' := by
    intro fp' F' w' N' σ' uv' hO hF hst hD hfp hM hU huv hsm hsu
    have hs2 := hO.size
    have nin : ∀ b, b < w1.heap.size → b ∉ fp → b ∉ fp' := fun b hb hn hm => by
      rcases hfp b hm with e | e
      · exact hn e
      · omega
    have nF : ∀ b, b ∉ fp → b ≠ s → b ≠ m → b ∉ F' := fun b a1 a2 a3 hm => by
      rcases hF b hm with e | e | e
      · exact a1 e
      · exact a2 e
      · exact a3 e
    have hav : ∀ b, av'.ownBlock = some b → b ∉ fp ∧ b ≠ s ∧ b ≠ m ∧ b ≠ j ∧ M b := fun b hb => n5 b (k4 b hb)
    refine PR.make hN h16 ((Keep.only k5 (fun b hb => by simp at hb; rw [hb]; exact h13)).trans (Keep.only hO (fun b hb => ?_))) h13 h14 h15 h10 h11 h12 hsm hsu hM ⟨av', uv', N', B, fp', r, hst, ?_, ?_, hD, by omega, hU, ?_, ?_, ?_, ?_, fun b hb => ?_, fun _ b hb => ?_, fun b hb => ?_, fun b hb => ?_⟩
    · rcases hF b hb with e | e | e
      · exact n7 b e
      · rw [e]; exact h13
      · rw [e]; exact h14
    · exact ALie.only hO k2 (fun b hb => by obtain ⟨a1, a2, a3, _⟩ := hav b hb; exact nF b a1 a2 a3)
    · intro e
      obtain ⟨ao, e2⟩ := k3
      rw [e] at e2
      exact ⟨ao, e2⟩
    · exact J1.only hO (nF j n3 h11 h12) (fun b hb => by obtain ⟨a1, a2, a3, _⟩ := n4 b hb; exact nF b a1 a2 a3)
    · exact nin s (by omega) n1
    · exact nin m (by omega) n2
    · exact nin j (by omega) n3
    · obtain ⟨a1, a2, a3, a4, a5⟩ := n4 b hb
      have := (hjl.2 b hb).1
      exact ⟨nin b (by omega) a1, a2, a3, a4, .inl a5⟩
    · obtain ⟨a1, a2, a3, a4, a6⟩ := hav b hb
      have := h17 b a6
      exact ⟨nin b (by omega) a1, a2, a3, a4, .inl a6, by omega⟩
    · obtain ⟨a1, a2, a3, a4, a6⟩ := n6 b (huv b hb)
      have := h17 b a6
      exact ⟨nin b (by omega) a1, a2, a3, a4, .inl a6, by omega⟩
    · rcases hfp b hb with e | e
      · exact .inl (n7 b e)
      · exact .inr (by omega)
  obtain ⟨ak, aa, ad⟩ := a
  rcases ha with ⟨e1, e2, e3, e4⟩ | ⟨e1, e2, e3⟩
  · have e1 : ak = 0 := e1
    subst e1
    have e2 : 0 ≤ aa := e2
    have e3 : aa < x := e3
    obtain ⟨n, rfl⟩ : ∃ n : Nat, aa = n := ⟨aa.toNat, by omega⟩
    refine (do_write (S := ⟨x, σ.f, σ.Q⟩) n ad e4 (by show n < x; omega) (by omega) hQ w1 k1 D1 (by omega) n1).mono ?_
    rintro e w' ⟨rfl, fp', hD, hO, hfp⟩
    refine ⟨rfl, ?_, uv, σ.c, k1.only hO n1⟩
    rw [MS.act_w rfl]
    exact fin fp' fp w' _ _ uv hO (fun k hk => .inl hk) (k1.only hO n1) hD hfp (M1.same (hO.block m (by omega) n2)) (CLie.only hO U1 (fun b hb => (n6 b hb).1)) (fun b hb => hb) h8 h9
  · have e2 : aa = 0 := e2
    have e3 : ad = ByteArray.empty := e3
    subst e2 e3
    rcases e1 with e1 | e1 | e1
    · have e1 : ak = 1 := e1
      subst e1
      refine (do_flush (m := m) (N := 1048576) (by omega) w1 k1 D1).mono ?_
      rintro e w' ⟨rfl, hD, hO⟩
      refine ⟨rfl, ?_, uv, σ.c, k1.only hO n1⟩
      rw [MS.act_f rfl]
      exact fin fp fp w' _ _ uv hO (fun k hk => .inl hk) (k1.only hO n1) hD (fun k hk => .inl hk) (M1.same (hO.block m (by omega) n2)) (CLie.only hO U1 (fun b hb => (n6 b hb).1)) (fun b hb => hb) h8 h9
    · have e1 : ak = 2 := e1
      subst e1
      refine (do_lay (N := 1048576) (by omega) w1 k1 D1 M1 n1 n2 h10).mono ?_
      rintro e w' ⟨rfl, hst, hD, hM, hO⟩
      refine ⟨rfl, ?_, uv, σ.c, hst⟩
      rw [MS.act_l rfl]
      exact fin fp (m :: fp) w' _ _ uv hO (fun k hk => by simp at hk; rcases hk with e | e; exact .inr (.inr e); exact .inl e) hst hD (fun k hk => .inl hk) hM (CLie.only hO U1 (fun b hb => by simp; exact ⟨(n6 b hb).2.1, (n6 b hb).1⟩)) (fun b hb => hb) Sml.nil h9
    · have e1 : ak = 3 := e1
      subst e1
      have hl1 := h8.len
      refine (do_end (N := 1048576) (by omega) (by omega) h9.1.ok (by omega) w1 k1 D1 M1 U1 n1 n2 h10 (fun b hb => ⟨(n6 b hb).1, (n6 b hb).2.1⟩)).mono ?_
      rintro e w' ⟨rfl, hst, hD, hM, hO⟩
      refine ⟨rfl, ?_, _, _, hst⟩
      rw [MS.act_c rfl]
      exact fin fp (s :: m :: fp) w' _ _ (.slice none 0 0) hO (fun k hk => by simp at hk; rcases hk with e | e | e; exact .inr (.inl e); exact .inr (.inr e); exact .inl e) hst hD (fun k hk => .inl hk) hM.shrink (CLie.nil _) (fun b hb => by cases hb) (h8.merge h9.1) ⟨Sml.nil, by simp⟩
/-- a quiet store from a block on, as one with a set -/
theorem PR.of {B : Nat} (h : Rn B s g x y z j m w σ [] T F l) (hU : ∀ av uv, StIs s w g x y z j av m uv σ.c → uv.ownBlock = none) (hN : N0 ≤ B) : PR N0 (fun b => B ≤ b ∧ b < w.heap.size) s g x y z j m w σ [] T F l := by
  have hlt := h.lt
  obtain ⟨⟨av, uv, N, fp, r, h1, h2, h3, h4, h5, h6, n1, n2, n3, n4, n5, n6⟩, h7, h8, h9, h10, h11, h12, h13, h14, h15⟩ := h
  refine ⟨⟨av, uv, N, B, fp, r, h1, h2, h3, h4, by omega, h5, h6, n1, n2, n3, fun b hb => ?_, fun hA => absurd rfl hA, fun b hb => ?_, fun b hb => h4.lo b hb⟩, h7, h8, h9, h10, h11, h12, ⟨h13, hlt.1⟩, ⟨h14, hlt.2.1⟩, ⟨h15, hlt.2.2⟩, fun b hb => by have := hb.1; omega, fun b hb => hb.2⟩
  · obtain ⟨a1, a2, a3, a4, a5⟩ := n4 b hb
    exact ⟨a1, a2, a3, a4, a5, (h6.lt.2 b hb).1⟩
  · rw [hU av uv h1] at hb; cases hb
end
end Go.Proofs.YtopebghandojbaaGreat
namespace Go.Proofs.YtopebghandojbaaGreat
open Go.RowKit Go.Maps

set_option maxRecDepth 100000 in
theorem sread2 {base g N Nm s x y z j m : Nat} {f : Nat → Option ByteArray} {Q : List (Nat × ByteArray)} {fp : List Nat} {av uv : Value} {c : Int} {M : List Chg} (k : Int) (hk : inI k) (w : World) (hst : StIs s w g x y z j av m uv c) (hD : Dv.DIs base g w N ⟨x, f, Q⟩ fp) (hM : Um.MIs m w Nm M) :
    Calls Tryz.prog 23 #[.pointer (some ⟨s, 0, none⟩), .int .i64 k] w fun e w' => e = .returned (.tuple #[.string (ansR x M f Q k).1, .int .i64 (ansR x M f Q k).2]) ∧ Below w.heap.size w w' := by
  obtain ⟨D, hDD⟩ : ∃ D : ByteArray × Int, D = if 0 ≤ k ∧ k < x then ((Dv.seen f Q k.toNat).getD Dv.Z, 0) else (ByteArray.empty, 6) := ⟨_, rfl⟩
  have HN := hid (snone_any w hst)
  have HR : Hid (∀ w', Below w.heap.size w w' → Calls Tryz.prog 25 #[.pointer (some ⟨g, 0, none⟩), .int .i64 k] w' fun e w'' => e = .returned (.tuple #[.string D.1, .int .i64 D.2]) ∧ Below w'.heap.size w' w'') := hid (fun w' hb => by
    rw [hDD]
    by_cases h : 0 ≤ k ∧ k < x
    · rw [if_pos h]
      obtain ⟨n, rfl⟩ := Int.eq_ofNat_of_zero_le h.1
      exact Dv.read_any n (by show n < x; omega) w' (hD.below hb)
    · rw [if_neg h]
      refine (Dv.read_none k h w' (hD.below hb)).mono ?_
      rintro e w'' ⟨rfl, rfl⟩
      exact ⟨rfl, Below.refl _ _⟩)
  have hl := hM.look k hk
  have c0 : w.cell? ⟨s, 0, none⟩ = some (.pointer (some ⟨g, 0, none⟩)) := (hst.cell 0).trans rfl
  have c11 : w.cell? ⟨s, 11, none⟩ = some (.map (some m)) := (hst.cell 11).trans rfl
  have hsl := hst.lt
  clear hst hD hM
  unfold ansR
  rw [← hDD]
  clear hDD
  obtain ⟨D1, D2⟩ := D
  cases hL : Um.lookL M k with
  | some q =>
    rw [hL] at hl
    simp only [Option.getD_some, Option.isSome_some, valC] at hl ⊢
    go_enter Tryz.func23, Tryz.ntmps23
    go_wp2_with (first | (go_at_call 62; refine HN.out.mono ?_; rintro e w1 ⟨rfl, hw⟩; have hw := hw.symm; subst hw))
    go_ret2
    exact ⟨rfl, below_alloc _ _⟩
  | none =>
    rw [hL] at hl
    simp only [Option.getD_none, Option.isSome_none, valC] at hl ⊢
    go_enter Tryz.func23, Tryz.ntmps23
    go_wp2_with (first
      | (go_at_call 62; refine HN.out.mono ?_; rintro e w1 ⟨rfl, hw⟩; have hw := hw.symm; subst hw)
      | (go_at_call 25; refine (HR.out _ (below_alloc _ _)).mono ?_; rintro e w2 ⟨rfl, hb2⟩))
    go_ret2
    exact ⟨rfl, (below_alloc _ _).next hb2⟩
set_option maxRecDepth 100000 in
theorem sshape {s g x y z j m : Nat} {av uv : Value} {c : Int} (w : World) (h : StIs s w g x y z j av m uv c) : Calls Tryz.prog 13 #[.pointer (some ⟨s, 0, none⟩)] w fun e w' => e = .returned (.agg #[.int .i64 x, .int .i64 y, .int .i64 z]) ∧ Below w.heap.size w w' := by
  have HN := hid (fun w' (k : Below w.heap.size w w') => snone_any w' (h.below k))
  have hsl := h.lt
  have c1 : w.cell? ⟨s, 1, none⟩ = some (.int .i64 x) := (h.cell 1).trans rfl
  have c2 : w.cell? ⟨s, 2, none⟩ = some (.int .i64 y) := (h.cell 2).trans rfl
  have c3 : w.cell? ⟨s, 3, none⟩ = some (.int .i64 z) := (h.cell 3).trans rfl
  clear h
  go_enter Tryz.func13, Tryz.ntmps13
  go_wp2_with (first | (go_at_call 62; refine (HN.out _ (below_alloc _ _)).mono ?_; rintro e w1 ⟨rfl, hw⟩; have hw := hw.symm; subst hw))
  go_returns
  exact ⟨rfl, by first | exact below_alloc _ _ | skip⟩
set_option maxRecDepth 100000 in
theorem scheck_lay {s g x y z j m : Nat} {ao : Option Addr} {uv : Value} {c : Int} {Po : World → Prop} (w : World) (h : StIs s w g x y z j (.slice ao 0 0) m uv c) (hlay : Calls Tryz.prog 56 #[.pointer (some ⟨s, 0, none⟩)] w fun e w' => e = .returned (.tuple #[]) ∧ Po w') : Calls Tryz.prog 16 #[.pointer (some ⟨s, 0, none⟩)] w fun e w' => e = .returned (.int .i64 0) ∧ Po w' := by
  have HN := hid (snone_any w h)
  have HB := hid (busy_any w h)
  have HL := hid hlay
  clear h hlay
  go_enter Tryz.func16, Tryz.ntmps16
  go_wp2_with (first
    | (go_at_call 62; refine HN.out.mono ?_; rintro e w1 ⟨rfl, hw⟩; have hw := hw.symm; subst hw)
    | (go_at_call 21; refine HB.out.mono ?_; rintro e w1 ⟨rfl, hw⟩; have hw := hw.symm; subst hw)
    | (go_at_call 56; refine HL.out.mono ?_; rintro e w1 ⟨rfl, hpo⟩))
  go_ret
  exact ⟨rfl, hpo⟩
section
variable {N0 : Nat} {M M1 : Nat → Prop} {s g x y z j m : Nat} {w w' : World} {σ : MS} {A : List AT} {T F : Nat} {l : List Int}
theorem PR.read (h : PR N0 M s g x y z j m w σ A T F l) (k : Int) (hk : inI k) : Calls Tryz.prog 23 #[.pointer (some ⟨s, 0, none⟩), .int .i64 k] w fun e w' => e = .returned (.tuple #[.string (ansR x σ.M σ.f σ.Q k).1, .int .i64 (ansR x σ.M σ.f σ.Q k).2]) ∧ Below w.heap.size w w' := by
  obtain ⟨av, uv, N, B, fp, r, h1, h2, h3, h4, _⟩ := h.ex
  exact sread2 k hk w h1 h4 h.mis
theorem PR.dread (h : PR N0 M s g x y z j m w σ A T F l) (k : Int) : Calls Tryz.prog 25 #[.pointer (some ⟨g, 0, none⟩), .int .i64 k] w fun e w' => e = .returned (.tuple #[.string (ansR x [] σ.f σ.Q k).1, .int .i64 (ansR x [] σ.f σ.Q k).2]) ∧ Below w.heap.size w w' := by
  obtain ⟨av, uv, N, B, fp, r, h1, h2, h3, h4, _⟩ := h.ex
  by_cases hk : 0 ≤ k ∧ k < x
  · have e : ansR x [] σ.f σ.Q k = ((Dv.seen σ.f σ.Q k.toNat).getD Dv.Z, 0) := by unfold ansR Um.lookL; simp [hk]
    rw [e]
    obtain ⟨n, rfl⟩ := Int.eq_ofNat_of_zero_le hk.1
    exact Dv.read_any n (by show n < x; omega) w h4
  · have e : ansR x [] σ.f σ.Q k = (ByteArray.empty, 6) := by unfold ansR Um.lookL; simp [hk]
    rw [e]
    refine (Dv.read_none k hk w h4).mono ?_
    rintro e w'' ⟨rfl, rfl⟩
    exact ⟨rfl, Below.refl _ _⟩
theorem PR.count (h : PR N0 M s g x y z j m w σ A T F l) : Calls Tryz.prog 20 #[.pointer (some ⟨s, 0, none⟩)] w fun e w' => e = .returned (.int .i64 σ.c) ∧ w' = w := by
  obtain ⟨av, uv, N, B, fp, r, h1, _⟩ := h.ex
  exact scount_any w h1
theorem PR.busy (h : PR N0 M s g x y z j m w σ A T F l) : Calls Tryz.prog 21 #[.pointer (some ⟨s, 0, none⟩)] w fun e w' => e = .returned (.bool (decide (0 < A.length))) ∧ w' = w := by
  obtain ⟨av, uv, N, B, fp, r, h1, ⟨ao, cap, rfl, _⟩, _⟩ := h.ex
  exact busy_any w h1
theorem PR.waits (h : PR N0 M s g x y z j m w σ A T F l) : Calls Tryz.prog 22 #[.pointer (some ⟨g, 0, none⟩)] w fun e w' => e = .returned (.int .i64 σ.Q.length) ∧ w' = w := by
  obtain ⟨av, uv, N, B, fp, r, h1, h2, h3, h4, _⟩ := h.ex
  exact Dv.waits_any w h4
theorem PR.shape (h : PR N0 M s g x y z j m w σ A T F l) : Calls Tryz.prog 13 #[.pointer (some ⟨s, 0, none⟩)] w fun e w' => e = .returned (.agg #[.int .i64 x, .int .i64 y, .int .i64 z]) ∧ Below w.heap.size w w' := by
  obtain ⟨av, uv, N, B, fp, r, h1, _⟩ := h.ex
  exact sshape w h1
/-- a checkpoint of a store with nothing to lay -/
theorem PR.check0 (h : PR N0 M s g x y z j m w σ [] T F []) (hy : 2 ≤ y) : Calls Tryz.prog 16 #[.pointer (some ⟨s, 0, none⟩)] w fun e w' => e = .returned (.int .i64 0) ∧ ∃ q, w' = w.drewN q := by
  obtain ⟨av, uv, N, B, fp, r, h1, h2, h3, h4, hB, h5, h6, _⟩ := h.ex
  obtain ⟨ao, rfl⟩ := h3 rfl
  exact scheck_lay (Po := fun w' => ∃ q, w' = w.drewN q) w h1 (lay_none (by omega) w h1 h6)
/-- a checkpoint -/
theorem PR.check {T' : Nat} (h : PR N0 M s g x y z j m w σ [] T F l) (hy : 2 ≤ y ∧ y ≤ 301) (hT : T < y - 1) (hF2 : F + l.length ≤ 1099511627000) (hl : l.length ≤ 299) (hl1 : l ≠ []) (hln : ∀ n ∈ l, 0 ≤ n) (hls : sumI l ≤ (y : Int) - 1) (hU : σ.U = []) (hT' : (T' : Int) = ((T : Int) + sumI l) % ((y : Int) - 1)) :
    Calls Tryz.prog 16 #[.pointer (some ⟨s, 0, none⟩)] w fun e w' => e = .returned (.int .i64 0) ∧ After M w (fun M' w' => PR N0 M' s g x y z j m w' σ (layA σ.M (hdB T' (F + l.length) (F + l.length))) T' (F + l.length) []) w' := by
  have hN := h.size
  have hml1 := h.sm.len
  obtain ⟨⟨av, uv, N, B, fp, r, h1, h2, h3, h4, hB, h5, h6, n1, n2, n3, n4, n5, n6, n7⟩, h7, h8, h9, h10, h11, h12, h13, h14, h15, h16, h17⟩ := h
  obtain ⟨ao, rfl⟩ := h3 rfl
  have hml := h7.lt
  have hfl := h4.lo
  have hsl := h1.lt
  have hjl := h6.lt
  have hl0 : l.length ≠ 0 := fun e => hl1 (List.eq_nil_of_length_eq_zero e)
  have hA : layA σ.M (hdB T' (F + l.length) (F + l.length)) ≠ [] := by unfold layA; simp
  refine (scheck_lay (Po := fun w' => Q.SA w.heap.size s w' g x y z j m uv σ.c (layA σ.M (hdB T' (F + l.length) (F + l.length))) ∧ JS j r w' ((y : Int) - 1) T' (F + l.length) 0 [] ∧ CF s j r w w') w h1 (lay_some (by omega) (by omega) (by omega) (by omega) hl0 (by omega) hln hls hT' (by omega) w h1 h6 h7 (Ne.symm h11) (fun e => (n4 s e.symm).2.1 rfl) h10)).mono ?_
  rintro e w' ⟨rfl, ⟨⟨av', k1, k2⟩, k3, k4⟩, k7, k9⟩
  refine ⟨rfl, ?_⟩
  have hsz := k9.size
  have hav : ∀ b, av'.ownBlock = some b → w.heap.size ≤ b ∧ b < w'.heap.size := fun b hb => by
    rcases k2 with ⟨e, _⟩ | ⟨_, k2⟩
    · exact absurd e hA
    · obtain ⟨e1, cur, e2⟩ := Q.ARow.own k2 b hb
      exact ⟨by omega, lt_of_block e2⟩
  refine PR.make hN h16 (Keep.only k9.only (fun b hb => ?_)) h13 h14 h15 h10 h11 h12 h8 h9 (h7.same (k9.block m hml h10 (Ne.symm h12) (fun e => (n4 m e.symm).2.2.1 rfl))) ⟨av', uv, N, B, fp, r, k1, k2.lie, fun e => absurd e hA, h4.other k9.only (fun b hb => ?_), by omega, CLie.only2 k9.only h5 (fun hn => absurd hU hn), k7, n1, n2, n3, fun b hb => ?_, fun _ b hb => ?_, fun b hb => ?_, fun b hb => .inl (n7 b hb)⟩
  · simp at hb
    rcases hb with e | e | e
    · rw [e]; exact h13
    · rw [e]; exact h15
    · exact (n4 b e).2.2.2.2
  · simp
    refine ⟨fun e => n1 (e ▸ hb), fun e => n3 (e ▸ hb), fun e => (n4 b e).1 hb⟩
  · obtain ⟨a1, a2, a3, a4, a5⟩ := n4 b hb
    exact ⟨a1, a2, a3, a4, .inl a5⟩
  · obtain ⟨a1, a2⟩ := hav b hb
    exact ⟨fun hm => by have := (hfl b hm).2; omega, by omega, by omega, by omega, .inr a1, a2⟩
  · obtain ⟨a1, a2, a3, a4, a5⟩ := n6 b hb
    exact ⟨a1, a2, a3, a4, .inl a5, by have := h17 b a5; omega⟩
end
end Go.Proofs.YtopebghandojbaaGreat
