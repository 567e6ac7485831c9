import Derived.Test.YtopebghandojbaaGreatGe
import Derived.Test.YtopebghandojbaaGreatYq
namespace Go.Proofs.YtopebghandojbaaGreat
open Go.RowKit Go.Maps

/-- a set of blocks kept, as a list kept -/
theorem Keep.toOnly {M : Nat → Prop} {w w' : World} (k : Keep M w w') : ∃ F : List Nat, Dv.Only F w w' ∧ ∀ b ∈ F, M b := by
  classical
  refine ⟨(List.range w.heap.size).filter (fun b => decide (M b)), ⟨k.os, k.tape, k.output, k.size, fun b hb hn => k.block b hb (fun hm => hn ?_)⟩, fun b hb => ?_⟩
  · exact List.mem_filter.2 ⟨List.mem_range.2 hb, by simpa using hm⟩
  · simpa using (List.mem_filter.1 hb).2
/-- a commit's last act is the one that ends it -/
def OneEnd : List AT → Prop
  | [] => True
  | a :: A => (a.k = 3 → A = []) ∧ OneEnd A
theorem OneEnd.no3 : ∀ {A : List AT}, (∀ a ∈ A, a.k ≠ 3) → OneEnd A
  | [], _ => trivial
  | a :: _, h => ⟨fun e => absurd e (h a (List.mem_cons_self ..)), OneEnd.no3 fun b hb => h b (List.mem_cons_of_mem _ hb)⟩
theorem OneEnd.last {e : AT} : ∀ {A : List AT}, (∀ a ∈ A, a.k ≠ 3) → OneEnd (A ++ [e])
  | [], _ => ⟨fun _ => rfl, trivial⟩
  | a :: _, h => ⟨fun e => absurd e (h a (List.mem_cons_self ..)), OneEnd.last fun b hb => h b (List.mem_cons_of_mem _ hb)⟩
/-- two blocks of two types are two -/
theorem ty_ne {w : World} {a b : Nat} {ca cb : Array Value} {ta tb : TypeId} (ha : w.heap[a]? = some (.cells ca ta (0, 0))) (hb : w.heap[b]? = some (.cells cb tb (0, 0))) (ht : ta ≠ tb) : a ≠ b := fun e => by
  subst e; rw [ha] at hb; cases hb; exact ht rfl
/-- the document's store, its blocks in a set, and its device -/
structure RR (N0 : Nat) (M : Nat → Prop) (s d x y z j : Nat) (w : World) (σ : MS) (A : List AT) (T F : Nat) (l : List Int) : Prop where
  ex : ∃ (ov nv av : Value) (B : Nat) (fp : List Nat) (r : Option Nat) (vs : List Value) (U : List Chg), RSt s w d x y z j ov nv av σ.c ∧ RRow w av A ∧ CLie w ov σ.M ∧ CLie w nv U ∧ (U = σ.U ∨ ∀ a ∈ A, a.k ≠ 3) ∧ Dv.XD B d w x σ.f σ.Q fp ∧ B ≤ w.heap.size ∧ RK j r w ((y : Int) - 1) T F l.length vs ∧ vs.map szOf = l ∧
    (∀ b, av.ownBlock = some b → M b) ∧ (∀ b, r = some b → M b) ∧ (∀ b ∈ fp, M b) ∧ (∀ b ∈ fp, ∃ cs t, w.heap[b]? = some (.cells cs t (0, 0)) ∧ (t = 58 ∨ t = 9 ∨ t = 146)) ∧ (∀ b, ov.ownBlock = some b → M b ∧ ∃ cur, w.heap[b]? = some (.cells cur 94 (0, 0))) ∧ (U ≠ [] → ∀ b, nv.ownBlock = some b → b < N0)
  ms : M s
  mj : M j
  lo : ∀ b, M b → N0 ≤ b
  hi : ∀ b, M b → b < w.heap.size
  one : OneEnd A
  sm : Sml σ.M
  su : Sml σ.U ∧ σ.U.length ≤ 48
/-- so it is afterwards: what is mine has grown by new blocks only, and nothing else has changed -/
def After (M : Nat → Prop) (w : World) (R : (Nat → Prop) → World → Prop) (w' : World) : Prop := ∃ M', R M' w' ∧ (∀ b, M' b → M b ∨ w.heap.size ≤ b) ∧ Keep M w w'
section
variable {N0 : Nat} {M M1 : Nat → Prop} {s d x y z j : Nat} {w w' : World} {σ : MS} {A : List AT} {T F : Nat} {l : List Int}
theorem RR.keep (h : RR N0 M s d x y z j w σ A T F l) (k : Keep M1 w w') (hd : ∀ b, M b → ¬ M1 b) (h1 : ∀ b, M1 b → N0 ≤ b) : RR N0 M s d x y z j w' σ A T F l := by
  obtain ⟨⟨ov, nv, av, B, fp, r, vs, U, a1, a2, a3, a4, a5, a6, a7, a8, a9, n1, n2, n3, n4, n5, n6⟩, h2, h3, h4, h5, h6, h7, h8⟩ := h
  obtain ⟨G, kO, hG⟩ := k.toOnly
  have hn : ∀ b, M b → b ∉ G := fun b hb hm => hd b hb (hG b hm)
  refine ⟨⟨ov, nv, av, B, fp, r, vs, U, a1.only kO (hn s h2), a2.same fun b hb => kO.block b (h5 b (n1 b hb)) (hn b (n1 b hb)), CLie.only kO a3 (fun b hb => hn b (n5 b hb).1), CLie.only2 kO a4 (fun e b hb hm => ?_), a5, a6.other kO (fun b hb => hn b (n3 b hb)), Nat.le_trans a7 k.size, a8.same (kO.block j (h5 j h3) (hn j h3)) (fun b hb => kO.block b (h5 b (n2 b hb)) (hn b (n2 b hb))), a9, n1, n2, n3, fun b hb => ?_, fun b hb => ⟨(n5 b hb).1, ?_⟩, n6⟩, h2, h3, h4, fun b hb => Nat.lt_of_lt_of_le (h5 b hb) k.size, h6, h7, h8⟩
  · have g1 := n6 e b hb
    have g2 := h1 b (hG b hm)
    omega
  · obtain ⟨cs, t, e, ht⟩ := n4 b hb
    exact ⟨cs, t, (kO.block b (h5 b (n3 b hb)) (hn b (n3 b hb))).trans e, ht⟩
  · obtain ⟨m, cur, e⟩ := n5 b hb
    exact ⟨cur, (kO.block b (h5 b m) (hn b m)).trans e⟩
theorem RR.below (h : RR N0 M s d x y z j w σ A T F l) (k : Below w.heap.size w w') : RR N0 M s d x y z j w' σ A T F l := h.keep (M1 := fun _ => False) (Keep.of k) (fun _ _ e => e) (fun _ e => e.elim)
theorem RR.make (hN : N0 ≤ w.heap.size) (hlo : ∀ b, M b → N0 ≤ b) (k : Keep M w w') (hms : M s) (hmj : M j) (one : OneEnd A) (sm : Sml σ.M) (su : Sml σ.U ∧ σ.U.length ≤ 48)
    (h : ∃ (ov nv av : Value) (B : Nat) (fp : List Nat) (r : Option Nat) (vs : List Value) (U : List Chg), RSt s w' d x y z j ov nv av σ.c ∧ RRow w' av A ∧ CLie w' ov σ.M ∧ CLie w' nv U ∧ (U = σ.U ∨ ∀ a ∈ A, a.k ≠ 3) ∧ Dv.XD B d w' x σ.f σ.Q fp ∧ B ≤ w'.heap.size ∧ RK j r w' ((y : Int) - 1) T F l.length vs ∧ vs.map szOf = l ∧
      (∀ b, av.ownBlock = some b → M b ∨ w.heap.size ≤ b) ∧ (∀ b, r = some b → M b ∨ w.heap.size ≤ b) ∧ (∀ b ∈ fp, M b ∨ w.heap.size ≤ b) ∧ (∀ b, ov.ownBlock = some b → (M b ∨ w.heap.size ≤ b) ∧ ∃ cur, w'.heap[b]? = some (.cells cur 94 (0, 0))) ∧ (U ≠ [] → ∀ b, nv.ownBlock = some b → b < N0)) :
    After M w (fun M' w' => RR N0 M' s d x y z j w' σ A T F l) w' := by
  obtain ⟨ov, nv, av, B, fp, r, vs, U, a1, a2, a3, a4, a5, a6, a7, a8, a9, n1, n2, n3, n5, n6⟩ := h
  obtain ⟨fp', g1, g2, _, g4⟩ := a6.tight
  refine ⟨fun b => (M b ∨ w.heap.size ≤ b) ∧ b < w'.heap.size, ⟨⟨ov, nv, av, B, fp', r, vs, U, a1, a2, a3, a4, a5, g2, a7, a8, a9, fun b hb => ⟨n1 b hb, ?_⟩, fun b hb => ⟨n2 b hb, (a8.lt.2 b hb).1⟩, fun b hb => ⟨n3 b (g1 b hb), (g2.lo b hb).2⟩, g4, fun b hb => ⟨⟨(n5 b hb).1, ?_⟩, (n5 b hb).2⟩, n6⟩, ⟨.inl hms, a1.lt⟩, ⟨.inl hmj, a8.lt.1⟩, fun b hb => ?_, fun b hb => hb.2, one, sm, su⟩, fun b hb => hb.1, k⟩
  · obtain ⟨cur, e⟩ := a2.own b hb
    exact lt_of_block e
  · obtain ⟨_, cur, e⟩ := n5 b hb
    exact lt_of_block e
  · rcases hb.1 with e | e
    · exact hlo b e
    · omega
theorem RR.size (h : RR N0 M s d x y z j w σ A T F l) : N0 ≤ w.heap.size := by
  have h1 := h.lo s h.ms
  have h2 := h.hi s h.ms
  omega
/-- a step -/
theorem RR.step {a : AT} (h : RR N0 M s d x y z j w σ (a :: A) T F l) (ha : AOk x a) (hA : A.length ≤ 5000) (hQ : σ.Q.length ≤ 100000) (hc : 0 ≤ σ.c ∧ σ.c ≤ 2000000000000) (hM : σ.M.length ≤ 500) :
    Calls Tryz.prog 19 #[.pointer (some ⟨s, 0, none⟩)] w fun e w' => e = .returned (.tuple #[.bool (!decide (0 < A.length)), .int .i64 0]) ∧ After M w (fun M' w' => RR N0 M' s d x y z j w' (σ.act a) A T F l) w' := by
  have hN := h.size
  obtain ⟨⟨ov, nv, av, B, fp, r, vs, U, a1, a2, a3, a4, a5, a6, a7, a8, a9, n1, n2, n3, n4, n5, n6⟩, h2, h3, h4, h5, h6, h7, h8⟩ := h
  have sfp : s ∉ fp := fun hm => by
    obtain ⟨cs, t, e, ht⟩ := n4 s hm
    exact ty_ne a1 e (by rcases ht with e | e | e <;> rw [e] <;> decide) rfl
  have avf : ∀ b, av.ownBlock = some b → b ∉ fp := fun b hb hm => by
    obtain ⟨cs, t, e, ht⟩ := n4 b hm
    obtain ⟨cur, e2⟩ := a2.own b hb
    exact ty_ne e2 e (by rcases ht with e | e | e <;> rw [e] <;> decide) rfl
  have ovf : ∀ b, ov.ownBlock = some b → b ∉ fp ∧ b ≠ s := fun b hb => by
    obtain ⟨_, cur, e2⟩ := n5 b hb
    refine ⟨fun hm => ?_, ty_ne e2 a1 (by decide)⟩
    obtain ⟨cs, t, e, ht⟩ := n4 b hm
    exact ty_ne e2 e (by rcases ht with e | e | e <;> rw [e] <;> decide) rfl
  have nvf : U ≠ [] → ∀ b, nv.ownBlock = some b → b ∉ fp ∧ b ≠ s := fun hu b hb => by
    have g := n6 hu b hb
    exact ⟨fun hm => by have := h4 b (n3 b hm); omega, fun e => by have := h4 s h2; omega⟩
  have jf : j ∉ s :: fp := fun hm => by
    obtain ⟨Lv, _, k2, _⟩ := a8
    rcases List.mem_cons.1 hm with e | hm
    · exact ty_ne k2 a1 (by decide) e
    · obtain ⟨cs, t, e, ht⟩ := n4 j hm
      exact ty_ne k2 e (by rcases ht with e | e | e <;> rw [e] <;> decide) rfl
  have rf : ∀ b, r = some b → b ∉ s :: fp := fun b hb hm => by
    obtain ⟨Lv, k1, _, k3, _⟩ := a8
    obtain ⟨cur, e2⟩ := k3.own b (k1.trans hb)
    rcases List.mem_cons.1 hm with e | hm
    · exact ty_ne e2 a1 (by decide) e
    · obtain ⟨cs, t, e, ht⟩ := n4 b hm
      exact ty_ne e2 e (by rcases ht with e | e | e <;> rw [e] <;> decide) rfl
  have one : OneEnd A := h6.2
  have a5' : U = σ.U ∨ ∀ a ∈ A, a.k ≠ 3 := a5.imp id fun e b hb => e b (List.mem_cons_of_mem _ hb)
  -- behind an act that is no end
  have fin : ∀ (ov' av' : Value) (fp' : List Nat) (σ' : MS) (w' : World), σ'.c = σ.c → σ'.U = σ.U → Sml σ'.M → CLie w' ov' σ'.M → (∀ b, ov'.ownBlock = some b → ov.ownBlock = some b) → RSt s w' d x y z j ov' nv av' σ.c → RRow w' av' A → (∀ b, av'.ownBlock = some b → av.ownBlock = some b) → Dv.XD B d w' x σ'.f σ'.Q fp' → (∀ k ∈ fp', k ∈ fp ∨ w.heap.size ≤ k) → Dv.Only (s :: fp) w w' → After M w (fun M' w' => RR N0 M' s d x y z j w' σ' A T F l) w' := by
    intro ov' av' fp' σ' w' e1 e2 g1 g2 g3 g4 g5 g6 g7 g8 g9
    refine RR.make hN h4 (Keep.only g9 (fun b hb => ?_)) h2 h3 one g1 (by rw [e2]; exact h8) ⟨ov', nv, av', B, fp', r, vs, U, by rw [e1]; exact g4, g5, g2, CLie.only2 g9 a4 (fun hu b hb hm => ?_), by rw [e2]; exact a5', g7, Nat.le_trans a7 g9.size, a8.same (g9.block j (h5 j h3) jf) (fun b hb => g9.block b (h5 b (n2 b hb)) (rf b hb)), a9, fun b hb => .inl (n1 b (g6 b hb)), fun b hb => .inl (n2 b hb), fun b hb => (g8 b hb).imp (n3 b) id, fun b hb => ?_, n6⟩
    · rcases List.mem_cons.1 hb with e | e
      · rw [e]; exact h2
      · exact n3 b e
    · rcases List.mem_cons.1 hm with e | e
      · exact (nvf hu b hb).2 e
      · exact (nvf hu b hb).1 e
    · obtain ⟨m, cur, e⟩ := n5 b (g3 b hb)
      refine ⟨.inl m, cur, (g9.block b (h5 b m) (fun hm => ?_)).trans e⟩
      rcases List.mem_cons.1 hm with e | e
      · exact (ovf b (g3 b hb)).2 e
      · exact (ovf b (g3 b hb)).1 e
  have ovk : ∀ w', Dv.Only (s :: fp) w w' → CLie w' ov σ.M := fun w' g9 => CLie.only g9 a3 (fun b hb hm => by
    rcases List.mem_cons.1 hm with e | e
    · exact (ovf b hb).2 e
    · exact (ovf b hb).1 e)
  obtain ⟨ak, aa, ad⟩ := a
  rcases ha with ⟨e1, e2, e3, e4⟩ | ⟨e1, e2, e3⟩
  · have e1 : ak = 0 := e1
    subst e1
    have e2 : 0 ≤ aa := e2
    have e3 : aa < x := e3
    obtain ⟨n, rfl⟩ : ∃ n : Nat, aa = n := ⟨aa.toNat, by omega⟩
    refine (rstep_w n ad e4 (by omega) A hA hQ w a1 a2 a6 sfp avf a7).mono ?_
    rintro e w' ⟨rfl, av', fp', g1, g2, g3, g4, g5, g6⟩
    refine ⟨rfl, ?_⟩
    rw [MS.act_w rfl]
    exact fin ov av' fp' _ w' rfl rfl h7 (ovk w' g6) (fun b hb => hb) g1 g2 g3 g4 g5 g6
  · have e2 : aa = 0 := e2
    have e3 : ad = ByteArray.empty := e3
    subst e2 e3
    rcases e1 with e1 | e1 | e1
    · have e1 : ak = 1 := e1
      subst e1
      refine (rstep_f A hA hQ w a1 a2 a6 sfp avf a7).mono ?_
      rintro e w' ⟨rfl, av', fp', g1, g2, g3, g4, g5, g6⟩
      refine ⟨rfl, ?_⟩
      rw [MS.act_f rfl]
      exact fin ov av' fp' _ w' rfl rfl h7 (ovk w' g6) (fun b hb => hb) g1 g2 g3 g4 g5 g6
    · have e1 : ak = 2 := e1
      subst e1
      refine (rstep_l A hA hQ w a1 a2 a6 sfp avf a7).mono ?_
      rintro e w' ⟨rfl, av', fp', g1, g2, g3, g4, g5, g6⟩
      refine ⟨rfl, ?_⟩
      rw [MS.act_l rfl]
      exact fin (.slice none 0 0) av' fp' _ w' rfl rfl Sml.nil (CLie.nil _) (fun b hb => by cases hb) g1 g2 g3 g4 g5 g6
    · have e1 : ak = 3 := e1
      subst e1
      have hA0 : A = [] := h6.1 rfl
      have hU : U = σ.U := a5.elim id fun e => absurd rfl (e _ (List.mem_cons_self ..))
      subst hU
      refine (rstep_c A hA hQ w a1 a2 a6 sfp avf a7 hc a3 a4 ovf nvf (fun q => ?_)).mono ?_
      · have hu : Sml (σ.U.take q) := ⟨h8.1.1.sublist (List.take_sublist _ _), fun c hc => h8.1.2 c (List.mem_of_mem_take hc)⟩
        refine ⟨(h7.merge hu).1, ?_⟩
        have g := mergeL_le (σ.U.take q) σ.M
        have g2 : (σ.U.take q).length ≤ σ.U.length := by rw [List.length_take]; omega
        have := h8.2
        omega
      · rintro e w' ⟨rfl, ov', av', g1, g2, g3, g4, g5, g6, g7⟩
        refine ⟨rfl, ?_⟩
        rw [MS.act_c rfl]
        have g10 : ∀ b, ov'.ownBlock = some b → (M b ∨ w.heap.size ≤ b) ∧ ∃ cur, w'.heap[b]? = some (.cells cur 94 (0, 0)) := fun b hb => by
          rcases g3 with e | e
          · subst e
            obtain ⟨m, cur, e⟩ := n5 b hb
            refine ⟨.inl m, cur, (g7.block b (h5 b m) (fun hm => ?_)).trans e⟩
            rcases List.mem_cons.1 hm with e | e
            · exact (ovf b hb).2 e
            · exact (ovf b hb).1 e
          · obtain ⟨k1, k2⟩ := e b hb
            exact ⟨.inr k1, k2⟩
        refine RR.make hN h4 (Keep.only g7 (fun b hb => ?_)) h2 h3 one (h7.merge h8.1) ⟨Sml.nil, by simp⟩ ⟨ov', nv, av', B, fp, r, vs, σ.U, g1, g4, g2, CLie.only2 g7 a4 (fun hu b hb hm => ?_), .inr (by rw [hA0]; intro a ha; cases ha), g6, Nat.le_trans a7 g7.size, a8.same (g7.block j (h5 j h3) jf) (fun b hb => g7.block b (h5 b (n2 b hb)) (rf b hb)), a9, fun b hb => .inl (n1 b (g5 b hb)), fun b hb => .inl (n2 b hb), fun b hb => .inl (n3 b hb), g10, n6⟩
        · rcases List.mem_cons.1 hb with e | e
          · rw [e]; exact h2
          · exact n3 b e
        · rcases List.mem_cons.1 hm with e | e
          · exact (nvf hu b hb).2 e
          · exact (nvf hu b hb).1 e
end
end Go.Proofs.YtopebghandojbaaGreat
