import Derived.Test.YtopebghandojbaaGreatYq
namespace Go.Proofs.YtopebghandojbaaGreat
open Go.RowKit Go.Maps

/-- rows of lists of changes are as they were -/
def K24 (w w' : World) : Prop := ∀ (p : Nat) (cs : Array Value), w.heap[p]? = some (.cells cs 24 (0, 0)) → w'.heap[p]? = some (.cells cs 24 (0, 0))
/-- this block is no row of lists of changes -/
def No24 (w : World) (b : Nat) : Prop := ∀ cs : Array Value, w.heap[b]? ≠ some (.cells cs 24 (0, 0))
/-- so it is, and it stays so whatever is done to a row of lists of changes that was there before -/
def Stay (w w' : World) (R : World → Prop) : Prop := R w' ∧ ∀ (w'' : World) (b : Nat) (cs : Array Value), w.heap[b]? = some (.cells cs 24 (0, 0)) → Dv.Only [b] w' w'' → R w''
theorem K24.refl (w : World) : K24 w w := fun _ _ e => e
theorem K24.trans {w w1 w2 : World} (h : K24 w w1) (k : K24 w1 w2) : K24 w w2 := fun p cs e => k p cs (h p cs e)
theorem K24.of {w w' : World} (k : Below w.heap.size w w') : K24 w w' := fun p _ e => (k.block p (lt_of_block e)).trans e
theorem K24.only {fp : List Nat} {w w' : World} (k : Dv.Only fp w w') (hf : ∀ b ∈ fp, No24 w b) : K24 w w' := fun p cs e => (k.block p (lt_of_block e) (fun hm => hf p hm cs e)).trans e
theorem No24.ty {w : World} {b : Nat} {cs : Array Value} {t : TypeId} (h : w.heap[b]? = some (.cells cs t (0, 0))) (ht : t ≠ 24) : No24 w b := fun cs' e => by
  rw [h] at e; cases e; exact ht rfl
theorem No24.map {w : World} {b : Nat} (h : ∃ es clock, w.heap[b]? = some (.map es clock)) : No24 w b := fun cs' e => by
  obtain ⟨es, clock, h⟩ := h
  rw [h] at e; cases e
theorem No24.same {w w' : World} {b : Nat} (h : No24 w b) (k : w'.heap[b]? = w.heap[b]?) : No24 w' b := fun cs e => h cs (k ▸ e)
theorem Um.MIs.no24 {b N : Nat} {w : World} {M : List Chg} (h : Um.MIs b w N M) : No24 w b := by
  obtain ⟨n, D, ⟨es, clock, h1, _⟩, _⟩ := h
  exact No24.map ⟨es, clock, h1⟩
theorem Dv.DIs.tight {B g N : Nat} {w : World} {S : Dv.DS} {fp : List Nat} (h : Dv.DIs B g w N S fp) : ∃ fp', (∀ b ∈ fp', b ∈ fp) ∧ Dv.DIs B g w N S fp' ∧ ∀ b ∈ fp', No24 w b := by
  obtain ⟨⟨bl, bf, wv, h1, h2, h3, h4, h5, m1, m2, m3, m4⟩, h6, h7, h8, h9⟩ := h
  have hsub : ∀ b ∈ g :: bl :: bf :: wv.ownBlock.toList, b ∈ fp := by
    intro b hb
    simp only [List.mem_cons, Option.mem_toList] at hb
    rcases hb with rfl | rfl | rfl | hb
    · exact m1
    · exact m2
    · exact m3
    · exact m4 b hb
  refine ⟨g :: bl :: bf :: wv.ownBlock.toList, hsub, ⟨⟨bl, bf, wv, h1, h2, h3, h4, h5, by simp, by simp, by simp, fun b hb => by simp [hb]⟩, h6, h7, h8, fun b hb => h9 b (hsub b hb)⟩, ?_⟩
  intro b hb
  simp only [List.mem_cons, Option.mem_toList] at hb
  rcases hb with rfl | rfl | rfl | hb
  · exact No24.ty h1 (by decide)
  · exact No24.map h3.isMap
  · exact No24.map h4.isMap
  · obtain ⟨_, e2 | ⟨x, cap, cur, e3, e4, e5, _⟩⟩ := h5
    · rw [e2.1] at hb; cases hb
    · rw [e3] at hb; cases hb
      exact No24.ty e5 (by decide)
theorem JS.no24 {j : Nat} {r : Option Nat} {w : World} {P : Int} {T F S : Nat} {l : List Int} (h : JS j r w P T F S l) : No24 w j ∧ ∀ b, r = some b → No24 w b := by
  obtain ⟨sv, h0, h1, h2⟩ := h
  refine ⟨No24.ty h1 (by decide), fun b hb => ?_⟩
  obtain ⟨cur, hc⟩ := h2.own b (h0.trans hb)
  exact No24.ty hc (by decide)
theorem Rn.exT {B s g x y z j m : Nat} {w : World} {σ : MS} {A : List AT} {T F : Nat} {l : List Int} (h : Rn B s g x y z j m w σ A T F l) : ∃ av uv N fp r, StIs s w g x y z j av m uv σ.c ∧ ALie w av A ∧ (A = [] → ∃ ao, av = .slice ao 0 0) ∧ Dv.DIs B g w N ⟨x, σ.f, σ.Q⟩ fp ∧ CLie w uv σ.U ∧ JS j r w ((y : Int) - 1) T F l.length l ∧
    s ∉ fp ∧ m ∉ fp ∧ j ∉ fp ∧ (∀ b, r = some b → b ∉ fp ∧ b ≠ s ∧ b ≠ m ∧ b ≠ j ∧ B ≤ b) ∧ (A ≠ [] → ∀ b, av.ownBlock = some b → b ∉ fp ∧ b ≠ s ∧ b ≠ m ∧ b ≠ j ∧ b < w.heap.size) ∧ (∀ b, uv.ownBlock = some b → b ∉ fp ∧ b ≠ m ∧ b ≠ s ∧ b ≠ j ∧ b < w.heap.size) ∧ ∀ b ∈ fp, No24 w b := by
  obtain ⟨av, uv, N, fp, r, h1, h2, h3, h4, h5, h6, n1, n2, n3, n4, n5, n6⟩ := h.ex
  obtain ⟨fp', hs, h4', no⟩ := h4.tight
  exact ⟨av, uv, N, fp', r, h1, h2, h3, h4', h5, h6, fun e => n1 (hs _ e), fun e => n2 (hs _ e), fun e => n3 (hs _ e), fun b hb => by obtain ⟨a1, a2⟩ := n4 b hb; exact ⟨fun e => a1 (hs _ e), a2⟩, fun hA b hb => by obtain ⟨a1, a2⟩ := n5 hA b hb; exact ⟨fun e => a1 (hs _ e), a2⟩, fun b hb => by obtain ⟨a1, a2⟩ := n6 b hb; exact ⟨fun e => a1 (hs _ e), a2⟩, no⟩
theorem Rn.stepK {B s g x y z j m : Nat} {w : World} {σ : MS} {a : AT} {A : List AT} {T F : Nat} {l : List Int} (h : Rn B s g x y z j m w σ (a :: A) T F l) (ha : AOk x a) (hA : A.length ≤ 1000) (hQ : σ.Q.length ≤ 100000) (hc : 0 ≤ σ.c ∧ σ.c ≤ 1000000000000000) (hBw : B ≤ w.heap.size) :
    Calls Tryz.prog 18 #[.pointer (some ⟨s, 0, none⟩)] w fun e w' => e = .returned (.tuple #[.bool (!decide (0 < A.length)), .int .i64 0]) ∧ Rn B s g x y z j m w' (σ.act a) A T F l ∧ Below B w w' ∧ K24 w w' := by
  obtain ⟨av, uv, N, fp, r, h1, h2, h3, h4, h5, h6, n1, n2, n3, n4, n5, n6, no⟩ := h.exT
  obtain ⟨_, h7, h8, h9, h10, h11, h12, h13, h14, h15⟩ := h
  have n5 := n5 (by simp)
  have h4 := h4.shrink
  have hml := h7.lt
  have hjl := h6.lt
  have hfl := h4.lo
  have hsl := h1.lt
  refine (step_any2 a A hA w h1 h2 (fun b hb => (n5 b hb).2.1) (fun w' => Rn B s g x y z j m w' (σ.act a) A T F l ∧ Below B w w' ∧ K24 w w') ?_).mono fun e w' hh => ⟨hh.1, hh.2⟩
  intro w1 av' k1 k2 k3 k4 k5
  -- what is of the world behind the cut
  have D1 := h4.other k5 (fun b hb => by simp; intro e; exact n1 (e ▸ hb))
  have M1 := h7.same (k5.block m hml (by simp; exact h10))
  have U1 := CLie.only k5 h5 (fun b hb => by simp; exact (n6 b hb).2.2.1)
  have J1 := h6.only k5 (by simp; exact h11) (fun b hb => by simp; exact (n4 b hb).2.1)
  have hs1 := k5.size
  -- behind a change of the device's blocks, of the store's and of the map
  have fin : ∀ (fp' F' : List Nat) (w' : World) (N' : Nat) (σ' : MS) (uv' : Value), Dv.Only F' w1 w' → (∀ k ∈ F', k ∈ fp ∨ k = s ∨ k = m) → StIs s w' g x y z j av' m uv' σ'.c → Dv.DIs B g w' N' ⟨x, σ'.f, σ'.Q⟩ fp' → (∀ k ∈ fp', k ∈ fp ∨ w1.heap.size ≤ k) → Um.MIs m w' σ'.M.length σ'.M → CLie w' uv' σ'.U → (∀ b, uv'.ownBlock = some b → uv.ownBlock = some b) → Sml σ'.M → (Sml σ'.U ∧ σ'.U.length ≤ 48) → Rn B s g x y z j m w' σ' A T F l ∧ Below B w w' ∧ K24 w w' := by
    intro fp' F' w' N' σ' uv' hO hF hst hD hfp hM hU huv hsm hsu
    have hs2 := hO.size
    have nin : ∀ b, b < w1.heap.size → b ∉ fp → b ∉ fp' := fun b hb hn hm => by
      rcases hfp b hm with e | e
      · exact hn e
      · omega
    have nF : ∀ b, b ∉ fp → b ≠ s → b ≠ m → b ∉ F' := fun b a1 a2 a3 hm => by
      rcases hF b hm with e | e | e
      · exact a1 e
      · exact a2 e
      · exact a3 e
    have hav : ∀ b, av'.ownBlock = some b → b ∉ fp ∧ b ≠ s ∧ b ≠ m ∧ b ≠ j ∧ b < w.heap.size := fun b hb => n5 b (k4 b hb)
    refine ⟨⟨⟨av', uv', N', fp', r, hst, ?_, ?_, hD, hU, ?_, ?_, ?_, ?_, fun b hb => ?_, fun _ b hb => ?_, fun b hb => ?_⟩, hM, hsm, hsu, h10, h11, h12, h13, h14, h15⟩, ?_, ?_⟩
    · exact ALie.only hO k2 (fun b hb => by obtain ⟨a1, a2, a3, _⟩ := hav b hb; exact nF b a1 a2 a3)
    · intro e
      obtain ⟨ao, e2⟩ := k3
      rw [e] at e2
      exact ⟨ao, e2⟩
    · exact J1.only hO (nF j n3 h11 h12) (fun b hb => by obtain ⟨a1, a2, a3, _⟩ := n4 b hb; exact nF b a1 a2 a3)
    · exact nin s (by omega) n1
    · exact nin m (by omega) n2
    · exact nin j (by omega) n3
    · obtain ⟨a1, a2, a3, a4, a5⟩ := n4 b hb
      have := (hjl.2 b hb).1
      exact ⟨nin b (by omega) a1, a2, a3, a4, a5⟩
    · obtain ⟨a1, a2, a3, a4, a6⟩ := hav b hb
      exact ⟨nin b (by omega) a1, a2, a3, a4, by omega⟩
    · obtain ⟨a1, a2, a3, a4, a6⟩ := n6 b (huv b hb)
      exact ⟨nin b (by omega) a1, a2, a3, a4, by omega⟩
    · have b1 : Below B w w1 := k5.below hBw (fun b hb => by simp at hb; omega)
      exact b1.trans (hO.below (by omega) (fun b hb => by
        rcases hF b hb with e | e | e
        · exact (hfl b e).1
        · omega
        · omega))
    · refine (K24.only k5 (fun b hb => ?_)).trans (K24.only hO (fun b hb => ?_))
      · simp at hb; subst hb; exact No24.ty h1 (by decide)
      · rcases hF b hb with e | e | e
        · exact (no b e).same (k5.block b (hfl b e).2 (by simp; intro e2; subst e2; exact n1 e))
        · subst e; exact No24.ty k1 (by decide)
        · subst e; exact M1.no24
  obtain ⟨ak, aa, ad⟩ := a
  rcases ha with ⟨e1, e2, e3, e4⟩ | ⟨e1, e2, e3⟩
  · have e1 : ak = 0 := e1
    subst e1
    have e2 : 0 ≤ aa := e2
    have e3 : aa < x := e3
    obtain ⟨n, rfl⟩ : ∃ n : Nat, aa = n := ⟨aa.toNat, by omega⟩
    refine (do_write (S := ⟨x, σ.f, σ.Q⟩) n ad e4 (by show n < x; omega) (by omega) hQ w1 k1 D1 (by omega) n1).mono ?_
    rintro e w' ⟨rfl, fp', hD, hO, hfp⟩
    refine ⟨rfl, ?_, uv, σ.c, k1.only hO n1⟩
    rw [MS.act_w rfl]
    exact fin fp' fp w' _ _ uv hO (fun k hk => .inl hk) (k1.only hO n1) hD hfp (M1.same (hO.block m (by omega) n2)) (CLie.only hO U1 (fun b hb => (n6 b hb).1)) (fun b hb => hb) h8 h9
  · have e2 : aa = 0 := e2
    have e3 : ad = ByteArray.empty := e3
    subst e2 e3
    rcases e1 with e1 | e1 | e1
    · have e1 : ak = 1 := e1
      subst e1
      refine (do_flush (m := m) (N := 1048576) (by omega) w1 k1 D1).mono ?_
      rintro e w' ⟨rfl, hD, hO⟩
      refine ⟨rfl, ?_, uv, σ.c, k1.only hO n1⟩
      rw [MS.act_f rfl]
      exact fin fp fp w' _ _ uv hO (fun k hk => .inl hk) (k1.only hO n1) hD (fun k hk => .inl hk) (M1.same (hO.block m (by omega) n2)) (CLie.only hO U1 (fun b hb => (n6 b hb).1)) (fun b hb => hb) h8 h9
    · have e1 : ak = 2 := e1
      subst e1
      refine (do_lay (N := 1048576) (by omega) w1 k1 D1 M1 n1 n2 h10).mono ?_
      rintro e w' ⟨rfl, hst, hD, hM, hO⟩
      refine ⟨rfl, ?_, uv, σ.c, hst⟩
      rw [MS.act_l rfl]
      exact fin fp (m :: fp) w' _ _ uv hO (fun k hk => by simp at hk; rcases hk with e | e; exact .inr (.inr e); exact .inl e) hst hD (fun k hk => .inl hk) hM (CLie.only hO U1 (fun b hb => by simp; exact ⟨(n6 b hb).2.1, (n6 b hb).1⟩)) (fun b hb => hb) Sml.nil h9
    · have e1 : ak = 3 := e1
      subst e1
      have hl1 := h8.len
      refine (do_end (N := 1048576) (by omega) hc h9.1.ok (by omega) w1 k1 D1 M1 U1 n1 n2 h10 (fun b hb => ⟨(n6 b hb).1, (n6 b hb).2.1⟩)).mono ?_
      rintro e w' ⟨rfl, hst, hD, hM, hO⟩
      refine ⟨rfl, ?_, _, _, hst⟩
      rw [MS.act_c rfl]
      exact fin fp (s :: m :: fp) w' _ _ (.slice none 0 0) hO (fun k hk => by simp at hk; rcases hk with e | e | e; exact .inr (.inl e); exact .inr (.inr e); exact .inl e) hst hD (fun k hk => .inl hk) hM.shrink (CLie.nil _) (fun b hb => by cases hb) (h8.merge h9.1) ⟨Sml.nil, by simp⟩
theorem rn_commitK {B s g x y z j m : Nat} {w : World} {f : Nat → Option ByteArray} {M : List Chg} {c : Int} {T F : Nat} {l : List Int} (h : Rn B s g x y z j m w ⟨f, [], M, [], c⟩ [] T F l) (v : Value) (L : List Chg) (hv : L ≠ [] → ∀ a, v.ownBlock = some a → a < B) (hsu : Sml L ∧ L.length ≤ 48) {A : List AT} {T1 F1 : Nat} {l2 : List Int} (hA : A ≠ []) (hBw : B ≤ w.heap.size)
    (K : ∀ ao uv r N, StIs s w g x y z j (.slice ao 0 0) m uv c → JS j r w ((y : Int) - 1) T F l.length l → Um.MIs m w N M → s ≠ j → some s ≠ r → m ≠ s → (L ≠ [] → ∀ a, v.ownBlock = some a → a ≠ s ∧ a ≠ j ∧ some a ≠ r) → Calls Tryz.prog 14 #[.pointer (some ⟨s, 0, none⟩), v] w (CmtPost s g x y z j m c r w L A T1 F1 l2)) :
    Calls Tryz.prog 14 #[.pointer (some ⟨s, 0, none⟩), v] w fun e w' => e = .returned (.int .i64 0) ∧ Stay w w' (fun w'' => Rn B s g x y z j m w'' ⟨f, [], M, L, c⟩ A T1 F1 l2) ∧ Below B w w' ∧ K24 w w' := by
  obtain ⟨av, uv, N, fp, r, h1, h2, h3, h4, h5, h6, n1, n2, n3, n4, n5, n6, no⟩ := h.exT
  obtain ⟨_, h7, h8, h9, h10, h11, h12, h13, h14, h15⟩ := h
  obtain ⟨ao, rfl⟩ := h3 rfl
  have hjl := h6.lt
  have hml := h7.lt
  have hfl := h4.lo
  refine (K ao uv r _ h1 h6 h7 (Ne.symm h11) (fun e => (n4 s e.symm).2.1 rfl) h10 (fun hL0 a ha => ?_)).mono ?_
  · have := hv hL0 a ha
    exact ⟨by omega, by omega, fun e => by have := (n4 a e.symm).2.2.2.2; omega⟩
  · rintro e w' ⟨rfl, B1, uv', r', hB1, ⟨⟨av', k1, k2⟩, k3, k4⟩, k5, k6, k7, k8, k9⟩
    have hsz := k9.size
    have r'ge : ∀ b, r' = some b → r = some b ∨ w.heap.size ≤ b := fun b hb => by
      rcases k8 with e | ⟨k, e, hk⟩
      · exact .inl (e ▸ hb)
      · rw [hb] at e; cases e; exact .inr hk
    have hav : ∀ b, av'.ownBlock = some b → w.heap.size ≤ b ∧ b < w'.heap.size := fun b hb => by
      rcases k2 with ⟨e, _⟩ | ⟨_, k2⟩
      · exact absurd e hA
      · obtain ⟨e1, cur, e2⟩ := Q.ARow.own k2 b hb
        exact ⟨by omega, lt_of_block e2⟩
    have hR : Rn B s g x y z j m w' ⟨f, [], M, L, c⟩ A T1 F1 l2 := by
      refine ⟨⟨av', uv', N, fp, r', k1, k2.lie, fun e => absurd e hA, h4.other k9.only (fun b hb => ?_), k5, k7, n1, n2, n3, fun b hb => ?_, fun _ b hb => ?_, fun b hb => ?_⟩, h7.same (k9.block m hml h10 (Ne.symm h12) (fun e => (n4 m e.symm).2.2.1 rfl)), h8, hsu, h10, h11, h12, h13, h14, h15⟩
      · simp
        refine ⟨fun e => n1 (e ▸ hb), fun e => n3 (e ▸ hb), fun e => (n4 b e).1 hb⟩
      · rcases r'ge b hb with e | e
        · exact n4 b e
        · exact ⟨fun hm => by have := (hfl b hm).2; omega, by have := h1.lt; omega, by omega, by omega, by omega⟩
      · obtain ⟨a1, a2⟩ := hav b hb
        exact ⟨fun hm => by have := (hfl b hm).2; omega, by have := h1.lt; omega, by omega, by omega, a2⟩
      · obtain ⟨a1, a2⟩ := k6 b hb
        exact ⟨fun hm => by have := (hfl b hm).2; omega, by omega, by have := h1.lt; omega, by omega, a2⟩
    have hK : K24 w w' := by
      refine K24.only k9.only (fun b hb => ?_)
      simp at hb
      rcases hb with e | e | e
      · subst e; exact No24.ty h1 (by decide)
      · subst e; exact h6.no24.1
      · exact h6.no24.2 b e
    refine ⟨rfl, ⟨hR, fun w'' b cs hb hO => ?_⟩, k9.belowB hBw h13 h15 (fun a ha => (n4 a ha).2.2.2.2), hK⟩
    have hbl := lt_of_block hb
    have bs : b ≠ s := fun e => No24.ty h1 (by decide) cs (e ▸ hb)
    have bj : b ≠ j := fun e => h6.no24.1 cs (e ▸ hb)
    have bm : b ≠ m := fun e => h7.no24 cs (e ▸ hb)
    have bf : b ∉ fp := fun e => no b e cs hb
    have br : ∀ a, r' = some a → a ≠ b := fun a ha e => by
      rcases r'ge a ha with e2 | e2
      · exact h6.no24.2 a e2 cs (e ▸ hb)
      · omega
    clear hR
    refine ⟨⟨av', uv', N, fp, r', k1.only hO (by simp; exact Ne.symm bs), ALie.only hO k2.lie (fun a ha => by simp; have := (hav a ha).1; omega), fun e => absurd e hA, (h4.other k9.only (fun b hb => ?_)).other hO (fun a ha => by simp; exact fun e => bf (e ▸ ha)), CLie.only hO k5 (fun a ha => by simp; have := (k6 a ha).1; omega), k7.only hO (by simp; exact Ne.symm bj) (fun a ha => by simp; exact br a ha), n1, n2, n3, fun b hb => ?_, fun _ b hb => ?_, fun b hb => ?_⟩, (h7.same (k9.block m hml h10 (Ne.symm h12) (fun e => (n4 m e.symm).2.2.1 rfl))).same (hO.block m (by omega) (by simp; exact Ne.symm bm)), h8, hsu, h10, h11, h12, h13, h14, h15⟩
    · simp
      refine ⟨fun e => n1 (e ▸ hb), fun e => n3 (e ▸ hb), fun e => (n4 b e).1 hb⟩
    · rcases r'ge b hb with e | e
      · exact n4 b e
      · exact ⟨fun hm => by have := (hfl b hm).2; omega, by have := h1.lt; omega, by omega, by omega, by omega⟩
    · obtain ⟨a1, a2⟩ := hav b hb
      exact ⟨fun hm => by have := (hfl b hm).2; omega, by have := h1.lt; omega, by omega, by omega, Nat.lt_of_lt_of_le a2 hO.size⟩
    · obtain ⟨a1, a2⟩ := k6 b hb
      exact ⟨fun hm => by have := (hfl b hm).2; omega, by omega, by have := h1.lt; omega, by omega, Nat.lt_of_lt_of_le a2 hO.size⟩
theorem Quiet.commitK {B s g x y z j m : Nat} {w : World} {f : Nat → Option ByteArray} {T F : Nat} {Ls : List (List Chg)} {st : Nat → ByteArray} (h : Quiet B s g x y z j m w f T F Ls st) (hok : Sh.okS x y z) (hfe : F + Ls.length + 1 ≤ 1000000) (v : Value) (L : List Chg) (hL : CLie w v L) (hv : L ≠ [] → ∀ a, v.ownBlock = some a → a < B) (hBw : B ≤ w.heap.size) :
    Calls Tryz.prog 14 #[.pointer (some ⟨s, 0, none⟩), v] w fun e w' => ((e = .returned (.int .i64 0) ∧ okX y x L ∧ ∃ A T1 F1 l1, Stay w w' (fun w'' => Rn B s g x y z j m w'' ⟨f, [], mg Ls, L, (F : Int) + Ls.length - 1⟩ A T1 F1 l1) ∧ Safe x (Cr2 x y z st (stU st L)) (EQ x y z T1 F1 l1 (stU st L) (F + Ls.length + 1)) A ⟨f, [], mg Ls, L, (F : Int) + Ls.length - 1⟩ ∧ Qok ⟨f, [], mg Ls, L, (F : Int) + Ls.length - 1⟩ A ∧ A ≠ [] ∧ A.length ≤ 1000) ∨ (∃ n : Int, e = .returned (.int .i64 n) ∧ n ≠ 0 ∧ (okX y x L → n = 5) ∧ Quiet B s g x y z j m w' f T F Ls st)) ∧ Below B w w' ∧ K24 w w' := by
  have hG := h.gd
  have hx := hok.1.1
  have hy := hok.1.2.1
  have hsp := hok.2
  have hTl := hG.tl
  have hus := hG.us
  have hle := len_le_used Ls
  have hml : (mg Ls).length ≤ used Ls := mg_used Ls
  obtain ⟨av, uv, N, fp, r, h1, _, h3, _⟩ := h.rn.ex
  obtain ⟨ao, rfl⟩ := h3 rfl
  clear h3
  by_cases hr : right L = true
  · by_cases hw : withinB (1 + (y : Int)) x L = true
    · have hX : okX y x L := ⟨hr, hw⟩
      obtain ⟨x1, x2, x3⟩ := hX.rise
      have hsm : Sml L ∧ L.length ≤ 48 := ⟨⟨x1, fun c hc => by obtain ⟨a, b, _⟩ := x2 c hc; omega⟩, x3⟩
      by_cases hpl : (L.length : Int) + 1 ≤ (y : Int) - 1
      · by_cases hroom : used Ls + L.length + 1 ≤ y - 1
        · have hsafe := safe_commit (c := (F : Int) + Ls.length - 1) (by omega) hG hX hroom hfe
          have e1 := acts_eq y T F (by omega) Ls L
          refine (rn_commitK h.rn v L hv hsm (A := [] ++ comA (ringW (y - 1) (T + used Ls) (encL (F + Ls.length) L)) (hdB T F (F + Ls.length + 1))) (T1 := T) (F1 := F) (l2 := Ls.map szL ++ [(L.length : Int) + 1]) (by unfold comA; simp) hBw ?_).mono ?_
          · intro ao uv r N k1 k2 k3 k4 k5 k6 k7
            have k := commit_room (M := mg Ls) v L hok hr hw (by omega) hG.f1 (by rw [List.length_map]; omega) (by rw [List.length_map]; omega) (fun n hn => by obtain ⟨K, _, rfl⟩ := List.mem_map.1 hn; unfold szL; omega) hpl (by rw [sum_used]; omega) w k1 k2 k3 hL k4 k5 k6 k7
            rw [e1] at k
            refine k.mono ?_
            rintro e w' ⟨rfl, B1, uv', r', c1, c2, c3, c4, c5, c6, c7⟩
            refine ⟨rfl, B1, uv', r', c1, c2, c3, c4, ?_, c6, c7⟩
            rw [List.length_append, List.length_singleton]
            exact c5
          · rintro e w' ⟨rfl, k1, k2⟩
            refine ⟨.inl ⟨rfl, hX, _, _, _, _, k1, hsafe.mono (fun σ hs => hs) ?_, ⟨(fun q hq => by cases hq), ?_⟩, by unfold comA; simp, ?_⟩, k2⟩
            · rintro σ ⟨f', hg, rfl⟩
              refine ⟨f', Ls ++ [L], hg, by rw [List.map_append]; rfl, by rw [List.length_append]; rfl, ?_⟩
              rw [List.length_append, List.length_singleton]
              congr 1
              push_cast
              omega
            · show 0 + _ ≤ 2000
              unfold comA
              simp [ringW_len, encL_len]
              omega
            · unfold comA
              simp [ringW_len, encL_len]
              omega
        · have hsafe := safe_lay_commit (c := (F : Int) + Ls.length - 1) (by omega) hG hX (by omega) hfe
          have e1 := acts_eq y ((T + used Ls) % (y - 1)) (F + Ls.length) (by omega) [] L
          have hT2 : ((((T + used Ls) % (y - 1) : Nat)) : Int) = ((T : Int) + sumI (Ls.map szL)) % ((y : Int) - 1) := by
            rw [sum_used, show (y : Int) - 1 = ((y - 1 : Nat) : Int) by omega]
            push_cast
            rfl
          refine (rn_commitK h.rn v L hv hsm (A := layA (mg Ls) (hdB ((T + used Ls) % (y - 1)) (F + Ls.length) (F + Ls.length)) ++ comA (ringW (y - 1) ((T + used Ls) % (y - 1) + 0) (encL (F + Ls.length + 0) L)) (hdB ((T + used Ls) % (y - 1)) (F + Ls.length) (F + Ls.length + 0 + 1))) (T1 := (T + used Ls) % (y - 1)) (F1 := F + Ls.length) (l2 := [(L.length : Int) + 1]) (by unfold comA; simp) hBw ?_).mono ?_
          · intro ao uv r N k1 k2 k3 k4 k5 k6 k7
            have k := commit_lay (M := mg Ls) (T' := (T + used Ls) % (y - 1)) v L hok hr hw (by omega) hG.f1 (by rw [List.length_map]; omega) (by rw [List.length_map]; omega) (fun n hn => by obtain ⟨K, _, rfl⟩ := List.mem_map.1 hn; unfold szL; omega) hpl (by rw [sum_used]; omega) (by rw [sum_used]; omega) hT2 (by omega) w k1 k2 k3 hL k4 k5 k6 k7
            rw [List.length_map] at k
            refine k.mono ?_
            rintro e w' ⟨rfl, B1, uv', r', c1, c2, c3, c4, c5, c6, c7⟩
            refine ⟨rfl, B1, uv', r', c1, ?_, c3, c4, c5, c6, c7⟩
            have e2 : actsL (wrL ((y : Int) - 1) ((((T + used Ls) % (y - 1) : Nat) : Int) + sumI []) (encL (F + Ls.length + ([] : List Int).length) L)) ++ [⟨1, 0, ByteArray.empty⟩, ⟨0, 1, hdB ((T + used Ls) % (y - 1)) (F + Ls.length) (F + Ls.length + (([] : List Int).length + 1))⟩, ⟨3, 0, ByteArray.empty⟩] = _ := e1
            rw [e2] at c2
            exact c2
          · rintro e w' ⟨rfl, k1, k2⟩
            refine ⟨.inl ⟨rfl, hX, _, _, _, _, k1, hsafe.mono (fun σ hs => hs) ?_, ⟨(fun q hq => by cases hq), ?_⟩, by unfold comA; simp, ?_⟩, k2⟩
            · rintro σ ⟨f', hg, rfl⟩
              refine ⟨f', [L], hg, rfl, rfl, ?_⟩
              rw [List.length_singleton]
              congr 1
              push_cast
              omega
            · show 0 + _ ≤ 2000
              unfold comA layA
              simp [ringW_len, encL_len]
              omega
            · unfold comA layA
              simp [ringW_len, encL_len]
              omega
      · refine (commit_full v L hr hw (by omega) (by omega) w h1 hL).mono ?_
        rintro e w' ⟨rfl, hb⟩
        exact ⟨.inr ⟨5, rfl, by decide, fun _ => rfl, h.below hb⟩, hb.mono hBw, K24.of hb⟩
    · refine (commit_out v L hr (by simpa using hw) w h1 hL).mono ?_
      rintro e w' ⟨rfl, hb⟩
      exact ⟨.inr ⟨70, rfl, by decide, fun hX => absurd hX.2 hw, h.below hb⟩, hb.mono hBw, K24.of hb⟩
  · refine (commit_bad v L (by simpa using hr) w h1 hL).mono ?_
    rintro e w' ⟨rfl, hb⟩
    exact ⟨.inr ⟨70, rfl, by decide, fun hX => absurd hX.1 hr, h.below hb⟩, hb.mono hBw, K24.of hb⟩
end Go.Proofs.YtopebghandojbaaGreat
namespace Go.Proofs.YtopebghandojbaaGreat
open Go.ChangeShapes Go.WideShapes Go.ChangeAt Go.RowKit Go.Joins Go.Deep
theorem dev_crashK {B g N x : Nat} {f : Nat → Option ByteArray} {Q : List (Nat × ByteArray)} {fp : List Nat} (pv : Value) (bs : List Bool) (t : Nat) (ht : t ≤ 1024) (hQ : Q.length ≤ 100000) (hz : ∀ q ∈ Q, q.2.size = 128) (w : World) (hD0 : Dv.DIs B g w N ⟨x, f, Q⟩ fp) (hb : BLie w pv bs) (hB : bs ≠ [] → ∀ a, pv.ownBlock = some a → a < B) :
    Calls Tryz.prog 35 #[.pointer (some ⟨g, 0, none⟩), pv, .int .i64 t] w fun e w' => e = .returned (.int .i64 0) ∧ (∃ Q', Q'.Sublist Q ∧ ∃ fp', Dv.DIs B g w' 1048576 ⟨x, Dv.seen f Q', []⟩ fp') ∧ Below B w w' ∧ K24 w w' := by
  obtain ⟨fp, _, hD, no⟩ := hD0.tight
  have hfl := hD.lo
  obtain ⟨ao, cap, rfl, hl, hc, hcell⟩ := hb
  have hp : Dv.PIs w (.slice ao bs.length cap) bs.length (fun i => bs.getD i false) fp := by
    refine ⟨⟨ao, cap, rfl, fun i hi => ?_⟩, Nat.le_trans hl hc, fun i hi => by simp [List.getD, List.getElem?_eq_none hi]⟩
    obtain ⟨gb, off, rfl, hg, hv⟩ := hcell i hi
    have hlt : gb < B := hB (fun e => by rw [e] at hi; simp at hi) gb rfl
    exact ⟨gb, off, rfl, fun hm => by have := (hfl _ hm).1; omega, hg, by rw [hv]; simp [List.getD, List.getElem?_eq_getElem hi]⟩
  have hsub := crash_sub (fun i => bs.getD i false) Q 0 t f hz
  obtain ⟨Q', q1, q2⟩ := hsub
  refine (Dv.crash_any (S := ⟨x, f, Q⟩) _ bs.length _ t ht (N := 1048576) (by omega) hQ w hD.shrink hp).mono ?_
  rintro e w' ⟨rfl, k1, k2⟩
  have k1' := k1.shrink
  have e2 : Dv.crashFrom (fun i => bs.getD i false) 0 t f Q = Dv.seen f Q' := q2
  refine ⟨rfl, ⟨Q', q1, fp, ?_⟩, k2.below ?_ (fun b hb => (hfl b hb).1), K24.only k2 no⟩
  · rw [← e2]; exact k1'
  · have h1 := hD.ex
    obtain ⟨bl, bf, wv, _, _, _, _, _, m1, _⟩ := h1
    have := hfl g m1
    omega
end Go.Proofs.YtopebghandojbaaGreat
namespace Go.Proofs.YtopebghandojbaaGreat
open Go.RowKit Go.Maps
end Go.Proofs.YtopebghandojbaaGreat
