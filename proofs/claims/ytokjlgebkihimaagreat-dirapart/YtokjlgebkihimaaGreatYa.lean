import Derived.Test.YtokjlgebkihimaaGreatXu
namespace Go.Proofs.YtokjlgebkihimaaGreat
open Go.RowKit Go.Maps Go.Shelf

/-- a slot as an entry: none, or a name and its number -/
abbrev Ent := Option (ByteArray × Nat)
def encE : Ent → List UInt8
  | none => Z32
  | some x => newS x.1 x.2
def okE (e : Ent) : Prop := ∀ x, e = some x → nmB x.1 = 0 ∧ 1 ≤ x.2 ∧ x.2 < 64
/-- slots and the names that were put and not taken -/
structure HR (S : List (List UInt8)) (H : List (ByteArray × Nat)) : Prop where
  ex : ∃ E : List Ent, S = E.map encE ∧ (∀ e ∈ E, okE e) ∧ H.Perm (E.filterMap id) ∧ (H.map Prod.fst).Nodup
theorem hs_ent {e : Ent} (h : okE e) (u : ByteArray) : hsN (encE e) u = true ↔ ∃ n, e = some (u, n) := by
  cases e with
  | none =>
    constructor
    · intro hh; rw [show encE none = Z32 from rfl, Z32_hs] at hh; cases hh
    · rintro ⟨n, hn⟩; cases hn
  | some x =>
    obtain ⟨h1, h2, h3⟩ := h x rfl
    show hsN (newS x.1 x.2) u = true ↔ _
    rw [newS_hs x.1 u x.2 (nmB_24 h1) h2 (by omega), beq_iff_eq, Lib.toList_data, Lib.toList_data]
    constructor
    · intro hh
      have := ba_ext hh
      exact ⟨x.2, by rw [← this]⟩
    · rintro ⟨n, hn⟩
      cases hn
      rfl
theorem free_ent {e : Ent} (h : okE e) : freeB (encE e) = true ↔ e = none := by
  cases e with
  | none => exact ⟨fun _ => rfl, fun _ => rfl⟩
  | some x =>
    obtain ⟨h1, h2, h3⟩ := h x rfl
    constructor
    · intro hh
      rw [show encE (some x) = newS x.1 x.2 from rfl, newS_free x.1 x.2 (nmB_24 h1) h2 (by omega)] at hh
      cases hh
    · intro hh; cases hh
theorem has_ent {e : Ent} (h : okE e) : hasN (encE e) = e.isSome := by
  cases e with
  | none => rfl
  | some x =>
    obtain ⟨h1, h2, h3⟩ := h x rfl
    show hasN (newS x.1 x.2) = true
    unfold hasN
    rw [newS_ino x.1 x.2 (nmB_24 h1) (by omega), (newS_0 x.1 x.2 (nmB_24 h1) (by omega)).2.2, decide_eq_false (by omega), decide_eq_true (nmB_24 h1)]
    rfl
theorem fm_mem {E : List Ent} {x : ByteArray × Nat} : x ∈ E.filterMap id ↔ some x ∈ E := by
  rw [List.mem_filterMap]
  constructor
  · rintro ⟨a, ha, h⟩
    rw [id] at h; rw [← h]; exact ha
  · intro h; exact ⟨some x, h, rfl⟩
theorem fm_set : ∀ (E : List Ent) (k : Nat) (h : k < E.length) (e : Ent), ((E.set k e).filterMap id ++ [E[k]].filterMap id).Perm (E.filterMap id ++ [e].filterMap id)
  | a :: E, 0, _, e => by
    simp only [List.set_cons_zero, List.getElem_cons_zero]
    rw [show e :: E = [e] ++ E from rfl, show a :: E = [a] ++ E from rfl, List.filterMap_append, List.filterMap_append]
    generalize [e].filterMap id = x
    generalize [a].filterMap id = y
    generalize E.filterMap id = z
    rw [List.append_assoc, List.append_assoc]
    exact (List.perm_append_comm (l₁ := x) (l₂ := z ++ y)).trans (by
      rw [List.append_assoc]
      exact (List.perm_append_comm (l₁ := z) (l₂ := y ++ x)).trans (by
        rw [List.append_assoc]
        exact List.Perm.append_left y List.perm_append_comm))
  | a :: E, k + 1, h, e => by
    simp only [List.set_cons_succ, List.getElem_cons_succ]
    have ih := fm_set E k (by simpa using h) e
    rw [show a :: E.set k e = [a] ++ E.set k e from rfl, show a :: E = [a] ++ E from rfl, List.filterMap_append, List.filterMap_append, List.append_assoc, List.append_assoc]
    exact List.Perm.append_left _ ih
theorem HR.nil : HR [] [] := ⟨⟨[], rfl, (fun _ h => by cases h), List.Perm.refl _, List.nodup_nil⟩⟩
theorem HR.any {S : List (List UInt8)} {H : List (ByteArray × Nat)} (h : HR S H) (t : ByteArray) : (∃ s ∈ S, hsN s t = true) ↔ ∃ n, (t, n) ∈ H := by
  obtain ⟨E, rfl, hok, hp, _⟩ := h.ex
  constructor
  · rintro ⟨s, hs, hh⟩
    obtain ⟨e, he, rfl⟩ := List.mem_map.1 hs
    obtain ⟨n, rfl⟩ := (hs_ent (hok e he) t).1 hh
    exact ⟨n, hp.mem_iff.2 (fm_mem.2 he)⟩
  · rintro ⟨n, hn⟩
    have he := fm_mem.1 (hp.mem_iff.1 hn)
    exact ⟨_, List.mem_map.2 ⟨_, he, rfl⟩, (hs_ent (hok _ he) t).2 ⟨n, rfl⟩⟩
theorem HR.name {S : List (List UInt8)} {H : List (ByteArray × Nat)} (h : HR S H) {t : ByteArray} {n : Nat} (hm : (t, n) ∈ H) : nmB t = 0 := by
  obtain ⟨E, rfl, hok, hp, _⟩ := h.ex
  exact (hok _ (fm_mem.1 (hp.mem_iff.1 hm)) _ rfl).1
theorem HR.uniq {S : List (List UInt8)} {H : List (ByteArray × Nat)} (h : HR S H) {t : ByteArray} {n m : Nat} (h1 : (t, n) ∈ H) (h2 : (t, m) ∈ H) : n = m := by
  obtain ⟨E, _, _, _, hnd⟩ := h.ex
  obtain ⟨i, hi, e1⟩ := List.mem_iff_getElem.1 h1
  obtain ⟨j, hj, e2⟩ := List.mem_iff_getElem.1 h2
  have hij : i = j := by
    refine (List.getElem_inj (h₀ := by simpa using hi) (h₁ := by simpa using hj) hnd).1 ?_
    rw [List.getElem_map, List.getElem_map, e1, e2]
  subst hij
  rw [e1] at e2
  exact (Prod.mk.inj e2).2
/-- what was put is found -/
theorem HR.find {S : List (List UInt8)} {H : List (ByteArray × Nat)} (h : HR S H) {t : ByteArray} {n : Nat} (hm : (t, n) ∈ H) : tkE S t = 0 ∧ tkN S t = n ∧ ∃ hj : tkJ S t < S.length, hsN (S[tkJ S t]'hj) t = true := by
  have hn0 := h.name hm
  rcases tk_cases S t with ⟨hn, _⟩ | ⟨_, _, hno, _⟩ | ⟨_, hj, _, hyes, _, e1, e2⟩
  · exact absurd hn0 hn
  · obtain ⟨s, hs, hh⟩ := (h.any t).2 ⟨n, hm⟩
    rw [hno s hs] at hh; cases hh
  · refine ⟨e1, ?_, hj, hyes⟩
    rw [e2]
    obtain ⟨E, rfl, hok, hp, hnd⟩ := h.ex
    obtain ⟨J, hJ⟩ : ∃ J, J = tkJ (E.map encE) t := ⟨_, rfl⟩
    simp only [← hJ] at hj hyes ⊢
    rw [List.getElem_map] at hyes ⊢
    have hjE : J < E.length := by simpa using hj
    have he := List.getElem_mem hjE
    obtain ⟨m, hem⟩ := (hs_ent (hok _ he) t).1 hyes
    obtain ⟨k1, k2, k3⟩ := hok _ he _ hem
    rw [hem] at he ⊢
    have hm2 : (t, m) ∈ H := hp.mem_iff.2 (fm_mem.2 he)
    rw [h.uniq hm hm2]
    exact newS_ino t m (nmB_24 k1) (by omega)
theorem HR.notin {S : List (List UInt8)} {H : List (ByteArray × Nat)} (h : HR S H) {t : ByteArray} (hm : ∀ n, (t, n) ∉ H) : S.any (hsN · t) = false := by
  rw [List.any_eq_false]
  intro s hs hh
  obtain ⟨n, hn⟩ := (h.any t).1 ⟨s, hs, by simpa using hh⟩
  exact hm n hn
theorem HR.tk_none {S : List (List UInt8)} {H : List (ByteArray × Nat)} (h : HR S H) {t : ByteArray} (hm : ∀ n, (t, n) ∉ H) : tkE S t ≠ 0 := by
  unfold tkE
  by_cases hn : nmB t ≠ 0
  · rw [if_pos hn]; exact hn
  · rw [if_neg hn, h.notin hm]; decide
/-- the slots behind a put -/
theorem HR.put {S : List (List UInt8)} {H : List (ByteArray × Nat)} (h : HR S H) {t : ByteArray} {n : Nat} (hm : ∀ n, (t, n) ∉ H) (h0 : nmB t = 0) (h1 : 1 ≤ n) (h2 : n < 64) : HR (putS S (frk S) (newS t n)) (H ++ [(t, n)]) := by
  obtain ⟨E, rfl, hok, hp, hnd⟩ := h.ex
  have hnd2 : ((H ++ [(t, n)]).map Prod.fst).Nodup := by
    rw [List.map_append, List.nodup_append]
    refine ⟨hnd, by simp, ?_⟩
    intro a ha b hb
    simp at hb
    subst hb
    obtain ⟨x, hx, rfl⟩ := List.mem_map.1 ha
    intro e
    exact hm x.2 (by rw [← e]; exact hx)
  have hoke : okE (some (t, n)) := fun x hx => by cases hx; exact ⟨h0, h1, h2⟩
  unfold putS
  by_cases c : frk (E.map encE) < (E.map encE).length
  · rw [if_pos c]
    have cE : frk (E.map encE) < E.length := by simpa using c
    have hfree : freeB (encE (E[frk (E.map encE)]'cE)) = true := by
      rcases fst1_cases freeB (E.map encE) with ⟨_, _, e⟩ | ⟨j, hj, _, e, _, e2⟩
      · exact absurd c (by unfold frk; omega)
      · have : frk (E.map encE) = j := e2
        simp only [this]
        rw [List.getElem_map] at e
        exact e
    have hnone := (free_ent (hok _ (List.getElem_mem cE))).1 hfree
    refine ⟨⟨E.set (frk (E.map encE)) (some (t, n)), by rw [List.map_set]; rfl, ?_, ?_, hnd2⟩⟩
    · intro e he
      rcases List.mem_or_eq_of_mem_set he with h | rfl
      · exact hok e h
      · exact hoke
    · have k := fm_set E _ cE (some (t, n))
      rw [hnone] at k
      simp only [List.filterMap_cons, id, List.filterMap_nil, List.append_nil] at k
      exact (hp.append_right [(t, n)]).trans k.symm
  · rw [if_neg c]
    refine ⟨⟨E ++ [some (t, n)], by rw [List.map_append]; rfl, ?_, ?_, hnd2⟩⟩
    · intro e he
      rcases List.mem_append.1 he with h | h
      · exact hok e h
      · rw [List.mem_singleton] at h; rw [h]; exact hoke
    · rw [List.filterMap_append]
      exact hp.append_right _
/-- the slots behind a take -/
theorem HR.take {S : List (List UInt8)} {H : List (ByteArray × Nat)} (h : HR S H) {j : Nat} (hj : j < H.length) : HR (S.set (tkJ S (H[j]'hj).1) Z32) (H.take j ++ H.drop (j + 1)) := by
  obtain ⟨⟨t, n⟩, hx⟩ : ∃ x, x = H[j]'hj := ⟨_, rfl⟩
  rw [← hx]
  have hm : (t, n) ∈ H := by rw [hx]; exact List.getElem_mem hj
  obtain ⟨_, _, hJ, hyes⟩ := h.find hm
  have huq : ∀ m, (t, m) ∈ H → n = m := fun m h2 => h.uniq hm h2
  obtain ⟨E, rfl, hok, hp, hnd⟩ := h.ex
  simp only
  obtain ⟨J, hJJ⟩ : ∃ J, J = tkJ (E.map encE) t := ⟨_, rfl⟩
  simp only [← hJJ] at hJ hyes ⊢
  have cE : J < E.length := by simpa using hJ
  rw [List.getElem_map] at hyes
  have he := List.getElem_mem cE
  obtain ⟨m, hem⟩ := (hs_ent (hok _ he) t).1 hyes
  have hmn : n = m := huq m (hp.mem_iff.2 (fm_mem.2 (by rw [← hem]; exact he)))
  subst hmn
  have hsplit : H = H.take j ++ (t, n) :: H.drop (j + 1) := by
    rw [hx]
    rw [List.getElem_cons_drop, List.take_append_drop]
  refine ⟨⟨E.set J none, by rw [List.map_set]; rfl, ?_, ?_, ?_⟩⟩
  · intro e he
    rcases List.mem_or_eq_of_mem_set he with h | rfl
    · exact hok e h
    · intro x hx; cases hx
  · have k := fm_set E J cE none
    rw [hem] at k
    simp only [List.filterMap_cons, id, List.filterMap_nil, List.append_nil] at k
    have k2 : ((t, n) :: (E.set J none).filterMap id).Perm H := (List.perm_append_comm (l₁ := [(t, n)])).trans (k.trans hp.symm)
    have k3 : H.Perm ((t, n) :: (H.take j ++ H.drop (j + 1))) := by
      conv => lhs; rw [hsplit]
      exact List.perm_middle
    exact ((k2.trans k3).cons_inv).symm
  · refine List.Nodup.sublist ?_ hnd
    refine List.Sublist.map _ ?_
    conv => rhs; rw [hsplit]
    exact List.Sublist.append_left (List.sublist_cons_self _ _) _
theorem HR.len {S : List (List UInt8)} {H : List (ByteArray × Nat)} (h : HR S H) : (namesL S).length = H.length := by
  obtain ⟨E, rfl, hok, hp, _⟩ := h.ex
  rw [hp.length_eq]
  unfold namesL
  rw [List.length_map]
  clear hp h
  induction E with
  | nil => rfl
  | cons e E ih =>
    have ih' := ih (fun x hx => hok x (List.mem_cons_of_mem _ hx))
    have he := has_ent (hok e (List.mem_cons_self ..))
    rw [List.map_cons, List.filter_cons, List.filterMap_cons, he]
    cases e with
    | none => simpa using ih'
    | some x => simpa using ih'
/-- at which index a name is among the first k, the last one; -1: at none -/
def atN (H : List (ByteArray × Nat)) (t : ByteArray) : Nat → Int
  | 0 => -1
  | k + 1 => if (H.getD k (ByteArray.empty, 0)).1.toList == t.toList then (k : Int) else atN H t k
theorem atN_rng (H : List (ByteArray × Nat)) (t : ByteArray) : ∀ k, -1 ≤ atN H t k ∧ atN H t k < k
  | 0 => by unfold atN; omega
  | k + 1 => by
    have := atN_rng H t k
    unfold atN
    split <;> omega
theorem atN_neg (H : List (ByteArray × Nat)) (t : ByteArray) : ∀ k, k ≤ H.length → atN H t k = -1 → ∀ j (hj : j < H.length), j < k → (H[j]'hj).1 ≠ t
  | 0, _, _, j, _, h => by omega
  | k + 1, hk, h, j, hj, hjk => by
    unfold atN at h
    have hg : H.getD k (ByteArray.empty, 0) = H[k]'(by omega) := by rw [List.getD_eq_getElem?_getD, List.getElem?_eq_getElem (by omega)]; rfl
    rw [hg] at h
    split at h
    · omega
    · rename_i hne
      by_cases e : j = k
      · subst e
        intro e2
        rw [e2] at hne
        exact hne (by simp)
      · exact atN_neg H t k (by omega) h j hj (by omega)
theorem atN_pos (H : List (ByteArray × Nat)) (t : ByteArray) : ∀ k, k ≤ H.length → atN H t k ≠ -1 → ∃ (j : Nat) (hj : j < H.length), atN H t k = (j : Int) ∧ (H[j]'hj).1 = t
  | 0, _, h => absurd rfl h
  | k + 1, hk, h => by
    unfold atN at h ⊢
    have hg : H.getD k (ByteArray.empty, 0) = H[k]'(by omega) := by rw [List.getD_eq_getElem?_getD, List.getElem?_eq_getElem (by omega)]; rfl
    rw [hg] at h ⊢
    split
    · rename_i he
      refine ⟨k, by omega, rfl, ?_⟩
      have : (H[k]'(by omega)).1.toList = t.toList := by simpa using he
      rw [Lib.toList_data, Lib.toList_data] at this
      exact ba_ext this
    · rename_i he
      rw [if_neg he] at h
      exact atN_pos H t k (by omega) h
theorem at_cases (H : List (ByteArray × Nat)) (t : ByteArray) : (atN H t H.length = -1 ∧ ∀ n, (t, n) ∉ H) ∨ ∃ (j : Nat) (hj : j < H.length), atN H t H.length = (j : Int) ∧ (H[j]'hj).1 = t := by
  by_cases h : atN H t H.length = -1
  · refine .inl ⟨h, fun n hn => ?_⟩
    obtain ⟨i, hi, e⟩ := List.mem_iff_getElem.1 hn
    exact atN_neg H t H.length (Nat.le_refl _) h i hi hi (by rw [e])
  · exact .inr (atN_pos H t H.length (Nat.le_refl _) h)
end Go.Proofs.YtokjlgebkihimaaGreat
