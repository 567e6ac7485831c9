import Derived.Test.YtopebghandojbaaGreatGi
import Derived.Test.YtopebghandojbaaGreatGf
namespace Go.Proofs.YtopebghandojbaaGreat
open Go.RowKit Go.Maps

section
variable {N0 : Nat} {M M1 : Nat → Prop} {s d x y z j : Nat} {w w' : World} {σ : MS} {A : List AT} {T F : Nat} {l : List Int}
theorem layA_no3 (M : List Chg) (hd : ByteArray) : ∀ a ∈ layA M hd, a.k ≠ 3 := fun a ha => by
  unfold layA at ha
  rcases List.mem_append.1 ha with h | h
  · obtain ⟨c, _, rfl⟩ := List.mem_map.1 h
    simp
  · simp at h
    rcases h with rfl | rfl | rfl <;> simp
/-- what may change while the journal and the acts do -/
def Mid (M : Nat → Prop) (w : World) (ov : Value) (fp : List Nat) (b : Nat) : Prop := (M b ∨ w.heap.size ≤ b) ∧ ov.ownBlock ≠ some b ∧ b ∉ fp
/-- a checkpoint -/
theorem RR.check {T' : Nat} (h : RR N0 M s d x y z j w σ [] T F l) (hy : 2 ≤ y ∧ y ≤ 301) (hT : T < y - 1) (hF2 : F + l.length ≤ 1099511627900) (hl : l.length ≤ 299) (hl1 : l ≠ []) (hM : σ.M.length ≤ 500) (hT' : (T' : Int) = ((T : Int) + sumI l) % ((y : Int) - 1)) :
    Calls Tryz.prog 17 #[.pointer (some ⟨s, 0, none⟩)] w fun e w' => e = .returned (.int .i64 0) ∧ After M w (fun M' w' => RR N0 M' s d x y z j w' σ (layA σ.M (hdB T' (F + l.length) (F + l.length))) T' (F + l.length) []) w' := by
  have hN := h.size
  obtain ⟨⟨ov, nv, av, B, fp, r, vs, U, a1, a2, a3, a4, a5, a6, a7, a8, a9, n1, n2, n3, n4, n5, n6⟩, h2, h3, h4, h5, h6, h7, h8⟩ := h
  have hlen : vs.length = l.length := by rw [← a9, List.length_map]
  obtain ⟨v1, vs', hvs⟩ : ∃ v1 vs', vs = v1 :: vs' := by
    cases vs with
    | nil => rw [← a9] at hl1; exact absurd rfl hl1
    | cons a b => exact ⟨a, b, rfl⟩
  have nof : ∀ b (cs : Array Value) t, w.heap[b]? = some (.cells cs t (0, 0)) → t ≠ 58 → t ≠ 9 → t ≠ 146 → b ∉ fp := fun b cs t e t1 t2 t3 hm => by
    obtain ⟨cs', t', e', ht⟩ := n4 b hm
    exact ty_ne e e' (by rcases ht with e | e | e <;> rw [e] <;> assumption) rfl
  have noo : ∀ b (cs : Array Value) t, w.heap[b]? = some (.cells cs t (0, 0)) → t ≠ 94 → ov.ownBlock ≠ some b := fun b cs t e t1 hm => by
    obtain ⟨_, cur, e'⟩ := n5 b hm
    exact ty_ne e e' t1 rfl
  have mS : Mid M w ov fp s := ⟨.inl h2, noo s _ _ a1 (by decide), nof s _ _ a1 (by decide) (by decide) (by decide)⟩
  have mJ : Mid M w ov fp j := by
    obtain ⟨Lv, _, k2, _⟩ := a8
    exact ⟨.inl h3, noo j _ _ k2 (by decide), nof j _ _ k2 (by decide) (by decide) (by decide)⟩
  have mR : ∀ b, r = some b → Mid M w ov fp b := fun b hb => by
    obtain ⟨Lv, k1, _, k3, _⟩ := a8
    obtain ⟨cur, e2⟩ := k3.own b (k1.trans hb)
    exact ⟨.inl (n2 b hb), noo b _ _ e2 (by decide), nof b _ _ e2 (by decide) (by decide) (by decide)⟩
  have mA : ∀ b, av.ownBlock = some b → Mid M w ov fp b := fun b hb => by
    obtain ⟨cur, e2⟩ := a2.own b hb
    exact ⟨.inl (n1 b hb), noo b _ _ e2 (by decide), nof b _ _ e2 (by decide) (by decide) (by decide)⟩
  have mN : ∀ k, w.heap.size ≤ k → Mid M w ov fp k := fun k hk => ⟨.inr hk, fun e => by
    have := h5 k (n5 k e).1
    omega, fun e => by
    have := h5 k (n3 k e)
    omega⟩
  have mU : U ≠ [] → ∀ b, nv.ownBlock = some b → ¬ Mid M w ov fp b := fun e b hb hm => by
    have g := n6 e b hb
    rcases hm.1 with e | e
    · have := h4 b e; omega
    · omega
  have g := settle_any (M := Mid M w ov fp) (A0 := []) (T' := T') (vs := vs) σ.M (by simp; omega) (P := (y : Int) - 1) (T := T) (F := F) (by omega) (by omega) (by omega) (by omega) (by omega) (by rw [a9]; exact hT') w ⟨av, a1, a2, mA⟩ a3 (by rw [hlen]; exact a8) mS mJ mR mN (fun b hb hm => hm.2.1 hb)
  rw [hlen] at g
  refine (rcheck_lay (v := v1) (vs := vs') (by rw [hvs] at hlen; simp at hlen; omega) w a1 a2 (hvs ▸ a8) g).mono ?_
  rintro e w' ⟨rfl, ⟨av', g1, g2, g3⟩, g4, g6⟩
  refine ⟨rfl, ?_⟩
  obtain ⟨G, kO, hG⟩ := g6.toOnly
  refine RR.make hN h4 (k := ⟨g6.os, g6.tape, g6.output, g6.size, fun k hk hn => g6.block k hk (fun hm => ?_)⟩) h2 h3 (OneEnd.no3 (layA_no3 _ _)) h7 h8 ⟨ov, nv, av', B, fp, r, [], U, g1, g2, CLie.only kO a3 (fun b hb hm => (hG b hm).2.1 hb), CLie.only2 kO a4 (fun e b hb hm => mU e b hb (hG b hm)), .inr (layA_no3 _ _), a6.other kO (fun b hb hm => (hG b hm).2.2 hb), Nat.le_trans a7 g6.size, g4, rfl, fun b hb => (g3 b hb).1, fun b hb => .inl (n2 b hb), fun b hb => .inl (n3 b hb), fun b hb => ?_, n6⟩
  · rcases hm.1 with e | e
    · exact hn e
    · omega
  · obtain ⟨m, cur, e⟩ := n5 b hb
    exact ⟨.inl m, cur, (kO.block b (h5 b m) (fun hm => (hG b hm).2.1 hb)).trans e⟩
/-- a checkpoint of a store with nothing to lay -/
theorem RR.check0 (h : RR N0 M s d x y z j w σ [] T F []) : Calls Tryz.prog 17 #[.pointer (some ⟨s, 0, none⟩)] w fun e w' => e = .returned (.int .i64 0) ∧ w' = w := by
  obtain ⟨ov, nv, av, B, fp, r, vs, U, a1, a2, a3, a4, a5, a6, a7, a8, a9, _⟩ := h.ex
  have hvs : vs = [] := List.map_eq_nil_iff.1 a9
  subst hvs
  exact rcheck_none w a1 a2 a8
theorem RR.read (h : RR N0 M s d x y z j w σ A T F l) (k : Int) (hQ : σ.Q.length ≤ 100000) : Calls Tryz.prog 24 #[.pointer (some ⟨s, 0, none⟩), .int .i64 k] w fun e w' => e = .returned (.tuple #[.string (ansR x σ.M σ.f σ.Q k).1, .int .i64 (ansR x σ.M σ.f σ.Q k).2]) ∧ Below w.heap.size w w' := by
  obtain ⟨ov, nv, av, B, fp, r, vs, U, a1, a2, a3, _, _, a6, _⟩ := h.ex
  exact rread_any k hQ w a1 a3 a6
theorem RR.dread (h : RR N0 M s d x y z j w σ A T F l) (k : Int) (hQ : σ.Q.length ≤ 100000) : Calls Tryz.prog 26 #[.pointer (some ⟨d, 0, none⟩), .int .i64 k] w fun e w' => e = .returned (.tuple #[.string (ansR x [] σ.f σ.Q k).1, .int .i64 (ansR x [] σ.f σ.Q k).2]) ∧ Below w.heap.size w w' := by
  obtain ⟨ov, nv, av, B, fp, r, vs, U, a1, a2, a3, _, _, a6, _⟩ := h.ex
  by_cases hk : 0 ≤ k ∧ k < x
  · have e : ansR x [] σ.f σ.Q k = ((Dv.seen σ.f σ.Q k.toNat).getD Dv.Z, 0) := by unfold ansR Um.lookL; simp [hk]
    rw [e]
    obtain ⟨n, rfl⟩ := Int.eq_ofNat_of_zero_le hk.1
    exact a6.read n (by omega) hQ w
  · have e : ansR x [] σ.f σ.Q k = (ByteArray.empty, 6) := by unfold ansR Um.lookL; simp [hk]
    rw [e]
    exact a6.read_none k hk hQ w
end
end Go.Proofs.YtopebghandojbaaGreat
