import Derived.Test.YtopebghandojbaaGreatGi
import Derived.Test.YtopebghandojbaaGreatGf
namespace Go.Proofs.YtopebghandojbaaGreat
open Go.RowKit Go.Maps

section
variable {N0 : Nat} {M M1 : Nat → Prop} {s d x y z j : Nat} {w w' : World} {σ : MS} {A : List AT} {T F : Nat} {l : List Int}
theorem szOf_of {w : World} {v : Value} {L : List Chg} (h : CLie w v L) (hl : L.length ≤ 48) : szOf v = (L.length : Int) + 1 ∧ Slc v := by
  obtain ⟨ao, cap, rfl, _⟩ := h
  exact ⟨rfl, ao, L.length, cap, rfl, hl⟩
theorem acts_no3 (W : List Chg) : ∀ a ∈ actsL W, a.k ≠ 3 := fun a ha => by
  unfold actsL at ha
  obtain ⟨c, _, rfl⟩ := List.mem_map.1 ha
  simp
theorem layA_no3 (M : List Chg) (hd : ByteArray) : ∀ a ∈ layA M hd, a.k ≠ 3 := fun a ha => by
  unfold layA at ha
  rcases List.mem_append.1 ha with h | h
  · obtain ⟨c, _, rfl⟩ := List.mem_map.1 h
    simp
  · simp at h
    rcases h with rfl | rfl | rfl <;> simp
theorem comAct_one {P : Int} {T F n : Nat} {sm : Int} {L : List Chg} {A : List AT} (h : ∀ a ∈ A, a.k ≠ 3) : OneEnd (A ++ comAct P T F sm n L) := by
  unfold comAct
  rw [show A ++ (actsL (wrL P ((T : Int) + sm) (encL (F + n) L)) ++ [⟨1, 0, ByteArray.empty⟩, ⟨0, 1, hdB T F (F + (n + 1))⟩, ⟨3, 0, ByteArray.empty⟩]) = (A ++ (actsL (wrL P ((T : Int) + sm) (encL (F + n) L)) ++ [⟨1, 0, ByteArray.empty⟩, ⟨0, 1, hdB T F (F + (n + 1))⟩])) ++ [⟨3, 0, ByteArray.empty⟩] by simp]
  refine OneEnd.last fun a ha => ?_
  rcases List.mem_append.1 ha with e | e
  · exact h a e
  · rcases List.mem_append.1 e with e | e
    · exact acts_no3 _ a e
    · simp at e
      rcases e with rfl | rfl <;> simp
/-- what may change while the journal and the acts do -/
def Mid (M : Nat → Prop) (w : World) (ov : Value) (fp : List Nat) (b : Nat) : Prop := (M b ∨ w.heap.size ≤ b) ∧ ov.ownBlock ≠ some b ∧ b ∉ fp
/-- a commit that goes well, from what its parts do -/
theorem RR.com {T1 F1 : Nat} {l1 : List Int} {A1 : List AT} (h : RR N0 M s d x y z j w σ [] T F l) (_ : y ≤ 301) (v : Value) (L : List Chg) (hL : CLie w v L) (hv : L ≠ [] → ∀ b, v.ownBlock = some b → b < N0) (hL2 : Sml L ∧ L.length ≤ 48) (hno : ∀ a ∈ A1, a.k ≠ 3)
    (H : ∀ ov nv fp r vs, vs.map szOf = l → RA (Mid M w ov fp) s w d x y z j ov nv σ.c [] → RK j r w ((y : Int) - 1) T F l.length vs → Mid M w ov fp s → Mid M w ov fp j → (∀ b, r = some b → Mid M w ov fp b) → (∀ k, w.heap.size ≤ k → Mid M w ov fp k) → (∀ b, ov.ownBlock = some b → ¬ Mid M w ov fp b) → CLie w ov σ.M → (L ≠ [] → ∀ b, v.ownBlock = some b → ¬ Mid M w ov fp b) →
      ∃ vs1, vs1.map szOf = l1 ∧ Calls Tryz.prog 15 #[.pointer (some ⟨s, 0, none⟩), v] w fun e w' => e = .returned (.int .i64 0) ∧ ∃ r', RA (Mid M w ov fp) s w' d x y z j ov v σ.c (A1 ++ comAct ((y : Int) - 1) T1 F1 (sumI (vs1.map szOf)) vs1.length L) ∧ RK j r' w' ((y : Int) - 1) T1 F1 (vs1.length + 1) (vs1 ++ [v]) ∧ (∀ b, r' = some b → Mid M w ov fp b) ∧ Keep (Mid M w ov fp) w w') :
    Calls Tryz.prog 15 #[.pointer (some ⟨s, 0, none⟩), v] w fun e w' => e = .returned (.int .i64 0) ∧ After M w (fun M' w' => RR N0 M' s d x y z j w' { σ with U := L } (A1 ++ comAct ((y : Int) - 1) T1 F1 (sumI l1) l1.length L) T1 F1 (l1 ++ [(L.length : Int) + 1])) w' := by
  have hN := h.size
  obtain ⟨⟨ov, nv, av, B, fp, r, vs, U, a1, a2, a3, a4, a5, a6, a7, a8, a9, n1, n2, n3, n4, n5, n6⟩, h2, h3, h4, h5, h6, h7, h8⟩ := h
  have nof : ∀ b (cs : Array Value) t, w.heap[b]? = some (.cells cs t (0, 0)) → t ≠ 58 → t ≠ 9 → t ≠ 146 → b ∉ fp := fun b cs t e t1 t2 t3 hm => by
    obtain ⟨cs', t', e', ht⟩ := n4 b hm
    exact ty_ne e e' (by rcases ht with e | e | e <;> rw [e] <;> assumption) rfl
  have noo : ∀ b (cs : Array Value) t, w.heap[b]? = some (.cells cs t (0, 0)) → t ≠ 94 → ov.ownBlock ≠ some b := fun b cs t e t1 hm => by
    obtain ⟨_, cur, e'⟩ := n5 b hm
    exact ty_ne e e' t1 rfl
  have mS : Mid M w ov fp s := ⟨.inl h2, noo s _ _ a1 (by decide), nof s _ _ a1 (by decide) (by decide) (by decide)⟩
  have mJ : Mid M w ov fp j := by
    obtain ⟨Lv, _, k2, _⟩ := a8
    exact ⟨.inl h3, noo j _ _ k2 (by decide), nof j _ _ k2 (by decide) (by decide) (by decide)⟩
  have mR : ∀ b, r = some b → Mid M w ov fp b := fun b hb => by
    obtain ⟨Lv, k1, _, k3, _⟩ := a8
    obtain ⟨cur, e2⟩ := k3.own b (k1.trans hb)
    exact ⟨.inl (n2 b hb), noo b _ _ e2 (by decide), nof b _ _ e2 (by decide) (by decide) (by decide)⟩
  have mA : ∀ b, av.ownBlock = some b → Mid M w ov fp b := fun b hb => by
    obtain ⟨cur, e2⟩ := a2.own b hb
    exact ⟨.inl (n1 b hb), noo b _ _ e2 (by decide), nof b _ _ e2 (by decide) (by decide) (by decide)⟩
  have mN : ∀ k, w.heap.size ≤ k → Mid M w ov fp k := fun k hk => ⟨.inr hk, fun e => by
    have := h5 k (n5 k e).1
    omega, fun e => by
    have := h5 k (n3 k e)
    omega⟩
  have mV : L ≠ [] → ∀ b, v.ownBlock = some b → ¬ Mid M w ov fp b := fun e b hb hm => by
    have g := hv e b hb
    rcases hm.1 with e | e
    · have := h4 b e; omega
    · omega
  obtain ⟨vs1, hvs1, hC⟩ := H ov nv fp r vs a9 ⟨av, a1, a2, mA⟩ a8 mS mJ mR mN (fun b hb hm => hm.2.1 hb) a3 mV
  refine hC.mono ?_
  rintro e w' ⟨rfl, r', ⟨av', g1, g2, g3⟩, g4, g5, g6⟩
  refine ⟨rfl, ?_⟩
  rw [hvs1] at g2
  have hlen : vs1.length = l1.length := by rw [← hvs1, List.length_map]
  rw [hlen] at g2 g4
  obtain ⟨G, kO, hG⟩ := g6.toOnly
  refine RR.make hN h4 (k := ⟨g6.os, g6.tape, g6.output, g6.size, fun k hk hn => g6.block k hk (fun hm => ?_)⟩) h2 h3 (comAct_one hno) h7 hL2 ⟨ov, v, av', B, fp, r', vs1 ++ [v], L, g1, g2, CLie.only kO a3 (fun b hb hm => (hG b hm).2.1 hb), CLie.only2 kO hL (fun e b hb hm => mV e b hb (hG b hm)), .inl rfl, a6.other kO (fun b hb hm => (hG b hm).2.2 hb), Nat.le_trans a7 g6.size, ?_, ?_, fun b hb => (g3 b hb).1, fun b hb => (g5 b hb).1, fun b hb => .inl (n3 b hb), fun b hb => ?_, hv⟩
  · rcases hm.1 with e | e
    · exact hn e
    · omega
  · rw [List.length_append, List.length_singleton]
    exact g4
  · rw [List.map_append, hvs1, List.map_singleton, (szOf_of hL hL2.2).1]
  · obtain ⟨m, cur, e⟩ := n5 b hb
    exact ⟨.inl m, cur, (kO.block b (h5 b m) (fun hm => (hG b hm).2.1 hb)).trans e⟩
/-- a commit for which there is room -/
theorem RR.commit_room (h : RR N0 M s d x y z j w σ [] T F l) (hy : 2 ≤ y ∧ y ≤ 301) (hT : T < y - 1) (hF : 1 ≤ F) (hF2 : F + l.length ≤ 1099511627000) (hl : l.length ≤ 299) (v : Value) (L : List Chg) (hL : CLie w v L) (hv : L ≠ [] → ∀ b, v.ownBlock = some b → b < N0) (hr : right L = true) (hwi : withinB (1 + (y : Int)) x L = true) (hL2 : Sml L ∧ L.length ≤ 48) (hl0 : 0 ≤ sumI l) (hroom : sumI l + L.length + 1 ≤ (y : Int) - 1) :
    Calls Tryz.prog 15 #[.pointer (some ⟨s, 0, none⟩), v] w fun e w' => e = .returned (.int .i64 0) ∧ After M w (fun M' w' => RR N0 M' s d x y z j w' { σ with U := L } ([] ++ comAct ((y : Int) - 1) T F (sumI l) l.length L) T F (l ++ [(L.length : Int) + 1])) w' := by
  refine h.com hy.2 v L hL hv hL2 (A1 := []) (fun a ha => by cases ha) fun ov nv fp r vs hvs hra hrk hs hj hrm hnew hov hco hvv => ⟨vs, hvs, ?_⟩
  have hlen : vs.length = l.length := by rw [← hvs, List.length_map]
  exact rcommit_ok (S1 := l.length) v L hr hwi (by omega) (by omega) (by omega) (by rw [hvs]; omega) (by omega) hF (by rw [hlen]; exact hF2) (by omega) (by rw [hvs]; omega) (by simp) w hra hrk hL hs hj hrm hnew hvv (.inr ⟨by rw [hvs]; omega, fun w' k => ⟨hra.below k, hrk.below k⟩⟩)
/-- a commit that lays what is not laid before -/
theorem RR.commit_lay {T' : Nat} (h : RR N0 M s d x y z j w σ [] T F l) (hy : 2 ≤ y ∧ y ≤ 301) (hT : T < y - 1) (hF : 1 ≤ F) (hF2 : F + l.length ≤ 1099511627000) (hl : l.length ≤ 299) (v : Value) (L : List Chg) (hL : CLie w v L) (hv : L ≠ [] → ∀ b, v.ownBlock = some b → b < N0) (hr : right L = true) (hwi : withinB (1 + (y : Int)) x L = true) (hL2 : Sml L ∧ L.length ≤ 48) (_ : 0 ≤ sumI l) (hsum : sumI l ≤ (y : Int) - 1) (hM : σ.M.length ≤ 500) (hpl : (L.length : Int) + 1 ≤ (y : Int) - 1) (hroom : (y : Int) - 1 < sumI l + L.length + 1) (hT' : (T' : Int) = ((T : Int) + sumI l) % ((y : Int) - 1)) :
    Calls Tryz.prog 15 #[.pointer (some ⟨s, 0, none⟩), v] w fun e w' => e = .returned (.int .i64 0) ∧ After M w (fun M' w' => RR N0 M' s d x y z j w' { σ with U := L } (layA σ.M (hdB T' (F + l.length) (F + l.length)) ++ comAct ((y : Int) - 1) T' (F + l.length) (sumI []) ([] : List Int).length L) T' (F + l.length) ([] ++ [(L.length : Int) + 1])) w' := by
  refine h.com hy.2 v L hL hv hL2 (A1 := layA σ.M (hdB T' (F + l.length) (F + l.length))) (layA_no3 _ _) fun ov nv fp r vs hvs hra hrk hs hj hrm hnew hov hco hvv => ⟨[], rfl, ?_⟩
  have hlen : vs.length = l.length := by rw [← hvs, List.length_map]
  have hTl : T' < y - 1 := by
    have := Int.emod_lt_of_pos ((T : Int) + sumI l) (show (0 : Int) < (y : Int) - 1 by omega)
    omega
  have hm3 : (layA σ.M (hdB T' (F + l.length) (F + l.length))).length ≤ 3100 := by
    unfold layA; simp; omega
  exact rcommit_ok (S1 := 0) (r1 := r) v L hr hwi (by omega) (by omega) (by omega) (by rw [hvs]; omega) (by omega) (by omega) (by simp; omega) (by simp) (by simp [sumI]; omega) hm3 w hra hrk hL hs hj hrm hnew hvv (.inl ⟨by rw [hvs]; omega, fun w' k => by
    have hz := k.size
    have g := settle_any (A0 := []) (T' := T') (vs := vs) σ.M (by simp; omega) (P := (y : Int) - 1) (T := T) (F := F) (by omega) (by omega) (by omega) (by omega) (by omega) (by rw [hvs]; exact hT') w' (hra.below k) (hco.below k) (by have := hrk.below k; rw [← hlen] at this; exact this) hs hj hrm (fun b hb => hnew b (by omega)) hov
    rw [hlen] at g
    exact g⟩)
/-- a checkpoint -/
theorem RR.check {T' : Nat} (h : RR N0 M s d x y z j w σ [] T F l) (hy : 2 ≤ y ∧ y ≤ 301) (hT : T < y - 1) (hF2 : F + l.length ≤ 1099511627900) (hl : l.length ≤ 299) (hl1 : l ≠ []) (hM : σ.M.length ≤ 500) (hT' : (T' : Int) = ((T : Int) + sumI l) % ((y : Int) - 1)) :
    Calls Tryz.prog 17 #[.pointer (some ⟨s, 0, none⟩)] w fun e w' => e = .returned (.int .i64 0) ∧ After M w (fun M' w' => RR N0 M' s d x y z j w' σ (layA σ.M (hdB T' (F + l.length) (F + l.length))) T' (F + l.length) []) w' := by
  have hN := h.size
  obtain ⟨⟨ov, nv, av, B, fp, r, vs, U, a1, a2, a3, a4, a5, a6, a7, a8, a9, n1, n2, n3, n4, n5, n6⟩, h2, h3, h4, h5, h6, h7, h8⟩ := h
  have hlen : vs.length = l.length := by rw [← a9, List.length_map]
  obtain ⟨v1, vs', hvs⟩ : ∃ v1 vs', vs = v1 :: vs' := by
    cases vs with
    | nil => rw [← a9] at hl1; exact absurd rfl hl1
    | cons a b => exact ⟨a, b, rfl⟩
  have nof : ∀ b (cs : Array Value) t, w.heap[b]? = some (.cells cs t (0, 0)) → t ≠ 58 → t ≠ 9 → t ≠ 146 → b ∉ fp := fun b cs t e t1 t2 t3 hm => by
    obtain ⟨cs', t', e', ht⟩ := n4 b hm
    exact ty_ne e e' (by rcases ht with e | e | e <;> rw [e] <;> assumption) rfl
  have noo : ∀ b (cs : Array Value) t, w.heap[b]? = some (.cells cs t (0, 0)) → t ≠ 94 → ov.ownBlock ≠ some b := fun b cs t e t1 hm => by
    obtain ⟨_, cur, e'⟩ := n5 b hm
    exact ty_ne e e' t1 rfl
  have mS : Mid M w ov fp s := ⟨.inl h2, noo s _ _ a1 (by decide), nof s _ _ a1 (by decide) (by decide) (by decide)⟩
  have mJ : Mid M w ov fp j := by
    obtain ⟨Lv, _, k2, _⟩ := a8
    exact ⟨.inl h3, noo j _ _ k2 (by decide), nof j _ _ k2 (by decide) (by decide) (by decide)⟩
  have mR : ∀ b, r = some b → Mid M w ov fp b := fun b hb => by
    obtain ⟨Lv, k1, _, k3, _⟩ := a8
    obtain ⟨cur, e2⟩ := k3.own b (k1.trans hb)
    exact ⟨.inl (n2 b hb), noo b _ _ e2 (by decide), nof b _ _ e2 (by decide) (by decide) (by decide)⟩
  have mA : ∀ b, av.ownBlock = some b → Mid M w ov fp b := fun b hb => by
    obtain ⟨cur, e2⟩ := a2.own b hb
    exact ⟨.inl (n1 b hb), noo b _ _ e2 (by decide), nof b _ _ e2 (by decide) (by decide) (by decide)⟩
  have mN : ∀ k, w.heap.size ≤ k → Mid M w ov fp k := fun k hk => ⟨.inr hk, fun e => by
    have := h5 k (n5 k e).1
    omega, fun e => by
    have := h5 k (n3 k e)
    omega⟩
  have mU : U ≠ [] → ∀ b, nv.ownBlock = some b → ¬ Mid M w ov fp b := fun e b hb hm => by
    have g := n6 e b hb
    rcases hm.1 with e | e
    · have := h4 b e; omega
    · omega
  have g := settle_any (M := Mid M w ov fp) (A0 := []) (T' := T') (vs := vs) σ.M (by simp; omega) (P := (y : Int) - 1) (T := T) (F := F) (by omega) (by omega) (by omega) (by omega) (by omega) (by rw [a9]; exact hT') w ⟨av, a1, a2, mA⟩ a3 (by rw [hlen]; exact a8) mS mJ mR mN (fun b hb hm => hm.2.1 hb)
  rw [hlen] at g
  refine (rcheck_lay (v := v1) (vs := vs') (by rw [hvs] at hlen; simp at hlen; omega) w a1 a2 (hvs ▸ a8) g).mono ?_
  rintro e w' ⟨rfl, ⟨av', g1, g2, g3⟩, g4, g6⟩
  refine ⟨rfl, ?_⟩
  obtain ⟨G, kO, hG⟩ := g6.toOnly
  refine RR.make hN h4 (k := ⟨g6.os, g6.tape, g6.output, g6.size, fun k hk hn => g6.block k hk (fun hm => ?_)⟩) h2 h3 (OneEnd.no3 (layA_no3 _ _)) h7 h8 ⟨ov, nv, av', B, fp, r, [], U, g1, g2, CLie.only kO a3 (fun b hb hm => (hG b hm).2.1 hb), CLie.only2 kO a4 (fun e b hb hm => mU e b hb (hG b hm)), .inr (layA_no3 _ _), a6.other kO (fun b hb hm => (hG b hm).2.2 hb), Nat.le_trans a7 g6.size, g4, rfl, fun b hb => (g3 b hb).1, fun b hb => .inl (n2 b hb), fun b hb => .inl (n3 b hb), fun b hb => ?_, n6⟩
  · rcases hm.1 with e | e
    · exact hn e
    · omega
  · obtain ⟨m, cur, e⟩ := n5 b hb
    exact ⟨.inl m, cur, (kO.block b (h5 b m) (fun hm => (hG b hm).2.1 hb)).trans e⟩
/-- a checkpoint of a store with nothing to lay -/
theorem RR.check0 (h : RR N0 M s d x y z j w σ [] T F []) : Calls Tryz.prog 17 #[.pointer (some ⟨s, 0, none⟩)] w fun e w' => e = .returned (.int .i64 0) ∧ w' = w := by
  obtain ⟨ov, nv, av, B, fp, r, vs, U, a1, a2, a3, a4, a5, a6, a7, a8, a9, _⟩ := h.ex
  have hvs : vs = [] := List.map_eq_nil_iff.1 a9
  subst hvs
  exact rcheck_none w a1 a2 a8
theorem RR.check_busy {a : AT} (h : RR N0 M s d x y z j w σ (a :: A) T F l) (hA : A.length ≤ 5000) : Calls Tryz.prog 17 #[.pointer (some ⟨s, 0, none⟩)] w fun e w' => e = .returned (.int .i64 7) ∧ w' = w := by
  obtain ⟨ov, nv, av, B, fp, r, vs, U, a1, a2, _⟩ := h.ex
  exact rcheck_busy hA w a1 a2
theorem RR.step0 (h : RR N0 M s d x y z j w σ [] T F l) : Calls Tryz.prog 19 #[.pointer (some ⟨s, 0, none⟩)] w fun e w' => e = .returned (.tuple #[.bool false, .int .i64 7]) ∧ w' = w := by
  obtain ⟨ov, nv, av, B, fp, r, vs, U, a1, a2, _⟩ := h.ex
  exact rstep_none w a1 a2
theorem RR.com_busy {a : AT} (h : RR N0 M s d x y z j w σ (a :: A) T F l) (hA : A.length ≤ 5000) (v : Value) (L : List Chg) (hr : right L = true) (hwi : withinB (1 + (y : Int)) x L = true) (hL : CLie w v L) : Calls Tryz.prog 15 #[.pointer (some ⟨s, 0, none⟩), v] w fun e w' => e = .returned (.int .i64 7) ∧ Below w.heap.size w w' := by
  obtain ⟨ov, nv, av, B, fp, r, vs, U, a1, a2, _⟩ := h.ex
  exact rcommit_busy hA v L hr hwi w a1 a2 hL
theorem RR.com_out (h : RR N0 M s d x y z j w σ A T F l) (v : Value) (L : List Chg) (hr : right L = true) (hwi : withinB (1 + (y : Int)) x L = false) (hL : CLie w v L) : Calls Tryz.prog 15 #[.pointer (some ⟨s, 0, none⟩), v] w fun e w' => e = .returned (.int .i64 70) ∧ Below w.heap.size w w' := by
  obtain ⟨ov, nv, av, B, fp, r, vs, U, a1, a2, _⟩ := h.ex
  exact rcommit_out v L hr hwi w a1 hL
theorem RR.com_full (h : RR N0 M s d x y z j w σ [] T F l) (v : Value) (L : List Chg) (hr : right L = true) (hwi : withinB (1 + (y : Int)) x L = true) (hfull : (y : Int) - 1 < (L.length : Int) + 1) (hL : CLie w v L) : Calls Tryz.prog 15 #[.pointer (some ⟨s, 0, none⟩), v] w fun e w' => e = .returned (.int .i64 5) ∧ Below w.heap.size w w' := by
  obtain ⟨ov, nv, av, B, fp, r, vs, U, a1, a2, _, _, _, _, _, a8, _⟩ := h.ex
  exact rcommit_full v L hr hwi hfull w a1 a2 a8 hL
theorem RR.read (h : RR N0 M s d x y z j w σ A T F l) (k : Int) (hQ : σ.Q.length ≤ 100000) : Calls Tryz.prog 24 #[.pointer (some ⟨s, 0, none⟩), .int .i64 k] w fun e w' => e = .returned (.tuple #[.string (ansR x σ.M σ.f σ.Q k).1, .int .i64 (ansR x σ.M σ.f σ.Q k).2]) ∧ Below w.heap.size w w' := by
  obtain ⟨ov, nv, av, B, fp, r, vs, U, a1, a2, a3, _, _, a6, _⟩ := h.ex
  exact rread_any k hQ w a1 a3 a6
theorem RR.dread (h : RR N0 M s d x y z j w σ A T F l) (k : Int) (hQ : σ.Q.length ≤ 100000) : Calls Tryz.prog 26 #[.pointer (some ⟨d, 0, none⟩), .int .i64 k] w fun e w' => e = .returned (.tuple #[.string (ansR x [] σ.f σ.Q k).1, .int .i64 (ansR x [] σ.f σ.Q k).2]) ∧ Below w.heap.size w w' := by
  obtain ⟨ov, nv, av, B, fp, r, vs, U, a1, a2, a3, _, _, a6, _⟩ := h.ex
  by_cases hk : 0 ≤ k ∧ k < x
  · have e : ansR x [] σ.f σ.Q k = ((Dv.seen σ.f σ.Q k.toNat).getD Dv.Z, 0) := by unfold ansR Um.lookL; simp [hk]
    rw [e]
    obtain ⟨n, rfl⟩ := Int.eq_ofNat_of_zero_le hk.1
    exact a6.read n (by omega) hQ w
  · have e : ansR x [] σ.f σ.Q k = (ByteArray.empty, 6) := by unfold ansR Um.lookL; simp [hk]
    rw [e]
    exact a6.read_none k hk hQ w
end
end Go.Proofs.YtopebghandojbaaGreat
