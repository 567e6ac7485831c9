import Derived.Lib.SplitLaws
import Derived.Lib.Join
import Derived.Lib.Bytealg
namespace Go.Proofs.YtnoocgodnpjnoaaDoor

def st (bs : List UInt8) : ByteArray := ⟨bs.toArray⟩
theorem st_toList (s : ByteArray) : st s.data.toList = s := by simp [st]
theorem st_list (bs : List UInt8) : (st bs).data.toList = bs := by simp [st]
theorem st_size (bs : List UInt8) : (st bs).size = bs.length := by simp [st, ByteArray.size]
theorem st_inj {a b : List UInt8} (h : st a = st b) : a = b := by rw [← st_list a, ← st_list b, h]
theorem len_list (s : ByteArray) : s.data.toList.length = s.size := by rw [Array.length_toList]; rfl
theorem ba_ext {a b : ByteArray} (h : a.data.toList = b.data.toList) : a = b := by rw [← st_toList a, ← st_toList b, h]
/-- is it no name's letter? -/
def badB (b : UInt8) : Bool := b == 47 || b == 0
/-- what is wrong with a name -/
def nmE (l : List UInt8) : Int := if l = [] ∨ l = [46] ∨ l = [46, 46] ∨ l.any badB = true then 309 else if 24 < l.length then 308 else 0
def nmB (s : ByteArray) : Int := nmE s.data.toList
/-- the first error of names -/
def chkN : List ByteArray → Int
  | [] => 0
  | x :: r => if nmB x = 0 then chkN r else nmB x
/-- what is wrong with names -/
def chkE (l : List ByteArray) : Int := if chkN l = 0 then (if 8 < l.length then 308 else 0) else chkN l
theorem nmE_cases (l : List UInt8) : nmE l = 309 ∨ nmE l = 308 ∨ nmE l = 0 := by
  unfold nmE; split
  · exact .inl rfl
  · split
    · exact .inr (.inl rfl)
    · exact .inr (.inr rfl)
theorem chkN_cases : ∀ l : List ByteArray, chkN l = 309 ∨ chkN l = 308 ∨ chkN l = 0
  | [] => .inr (.inr rfl)
  | x :: r => by
    unfold chkN; split
    · exact chkN_cases r
    · exact nmE_cases _
theorem chkE_cases (l : List ByteArray) : chkE l = 309 ∨ chkE l = 308 ∨ chkE l = 0 := by
  unfold chkE; split
  · split
    · exact .inr (.inl rfl)
    · exact .inr (.inr rfl)
  · exact chkN_cases l
theorem nmE_ok {l : List UInt8} : nmE l = 0 ↔ l ≠ [] ∧ l ≠ [46] ∧ l ≠ [46, 46] ∧ l.any badB = false ∧ l.length ≤ 24 := by
  unfold nmE
  constructor
  · intro h
    split at h
    · omega
    · rename_i h1
      split at h
      · omega
      · rename_i h2
        simp only [not_or] at h1
        exact ⟨h1.1, h1.2.1, h1.2.2.1, by simpa using h1.2.2.2, by omega⟩
  · rintro ⟨h1, h2, h3, h4, h5⟩
    rw [if_neg (by simp [h1, h2, h3, h4]), if_neg (by omega)]
theorem chkN_append {a b : List ByteArray} (h : chkN a = 0) : chkN (a ++ b) = chkN b := by
  induction a with
  | nil => rfl
  | cons x r ih =>
    unfold chkN at h
    split at h
    · rename_i hx
      rw [List.cons_append, chkN, if_pos hx, ih h]
    · rename_i hx; exact absurd h hx
theorem chkN_ok : ∀ {l : List ByteArray}, chkN l = 0 ↔ ∀ x ∈ l, nmB x = 0
  | [] => by simp [chkN]
  | x :: r => by
    have ih := chkN_ok (l := r)
    rw [chkN]
    by_cases hx : nmB x = 0
    · rw [if_pos hx, ih]; simp [hx]
    · rw [if_neg hx]; simp [hx]
theorem chkE_ok {l : List ByteArray} : chkE l = 0 ↔ chkN l = 0 ∧ l.length ≤ 8 := by
  unfold chkE
  by_cases h : chkN l = 0
  · rw [if_pos h]
    by_cases h8 : 8 < l.length
    · rw [if_pos h8]; simp [h]; omega
    · rw [if_neg h8]; simp [h]; omega
  · rw [if_neg h]; simp [h]
theorem chkE_err {l : List ByteArray} (h : chkN l ≠ 0) : chkE l = chkN l := by unfold chkE; rw [if_neg h]

/-- what is between slashes -/
def pieces : List UInt8 → List (List UInt8)
  | [] => [[]]
  | b :: r => if b = 47 then [] :: pieces r else match pieces r with
    | [] => [[b]]
    | p :: q => (b :: p) :: q
theorem pieces_ne (l : List UInt8) : pieces l ≠ [] := by
  cases l with
  | nil => simp [pieces]
  | cons b r =>
    unfold pieces
    split
    · simp
    · split <;> simp
theorem pieces_pre : ∀ (a : List UInt8), (∀ b ∈ a, b ≠ 47) → ∀ r, pieces (a ++ 47 :: r) = a :: pieces r
  | [], _, r => by simp [pieces]
  | b :: a, h, r => by
    rw [List.cons_append, pieces, if_neg (h b (by simp)), pieces_pre a (fun x hx => h x (by simp [hx])) r]
theorem pieces_one : ∀ (a : List UInt8), (∀ b ∈ a, b ≠ 47) → pieces a = [a]
  | [], _ => rfl
  | b :: a, h => by rw [pieces, if_neg (h b (by simp)), pieces_one a (fun x hx => h x (by simp [hx]))]
theorem pieces_len : ∀ l : List UInt8, (pieces l).length = l.count 47 + 1
  | [] => rfl
  | b :: r => by
    rw [pieces]
    have ih := pieces_len r
    by_cases h : b = 47
    · subst h; simp [ih]
    · rw [if_neg h, List.count_cons_of_ne (by simpa using h)]
      cases hp : pieces r with
      | nil => exact absurd hp (pieces_ne r)
      | cons p q => rw [hp] at ih; simpa using ih
theorem join_pieces : ∀ l : List UInt8, Lib.join (pieces l) [47] = l
  | [] => rfl
  | b :: r => by
    have ih := join_pieces r
    rw [pieces]
    cases hp : pieces r with
    | nil => exact absurd hp (pieces_ne r)
    | cons p q =>
      rw [hp] at ih
      by_cases h : b = 47
      · subst h
        rw [if_pos rfl, Lib.join_cons]
        rw [Lib.join_cons] at ih
        simp [Lib.joinTail] at ih ⊢
        exact ih
      · rw [if_neg h]
        rw [Lib.join_cons] at ih ⊢
        rw [List.cons_append, ih]
theorem pieces_join : ∀ (L : List (List UInt8)), L ≠ [] → (∀ x ∈ L, ∀ b ∈ x, b ≠ 47) → pieces (Lib.join L [47]) = L
  | [], h, _ => absurd rfl h
  | [x], _, h => by rw [Lib.join_one]; exact pieces_one x (h x (by simp))
  | x :: y :: r, _, h => by
    have ih := pieces_join (y :: r) (by simp) (fun z hz => h z (by simp at hz; simp; right; exact hz))
    rw [Lib.join_cons] at ih ⊢
    have e : Lib.joinTail [47] (y :: r) = 47 :: (y ++ Lib.joinTail [47] r) := by simp [Lib.joinTail]
    rw [e, pieces_pre x (h x (by simp)), ih]

theorem index_cons_ne (b c : UInt8) (l : List UInt8) (h : b ≠ c) : Lib.index (b :: l) [c] = if Lib.index l [c] == -1 then -1 else Lib.index l [c] + 1 := by
  have hp : ([c] : List UInt8).isPrefixOf (b :: l) = false := by simp [List.isPrefixOf, Ne.symm h]
  rw [Lib.index, hp]; simp
theorem index_cons_eq (c : UInt8) (l : List UInt8) : Lib.index (c :: l) [c] = 0 := by rw [Lib.index]; simp [List.isPrefixOf]
theorem pieces_index : ∀ l : List UInt8, pieces l = if Lib.index l [47] == -1 then [l] else l.take (Lib.index l [47]).toNat :: pieces (l.drop ((Lib.index l [47]).toNat + 1))
  | [] => by simp [Lib.index, pieces]
  | b :: r => by
    have ih := pieces_index r
    rw [pieces]
    by_cases h : b = 47
    · subst h; rw [if_pos rfl, index_cons_eq]; simp
    · rw [if_neg h, index_cons_ne _ _ _ h]
      have hge := Lib.index_ge r [47]
      by_cases hm : Lib.index r [47] = -1
      · rw [hm] at ih ⊢
        simp at ih
        rw [ih]; simp
      · obtain ⟨j, hj⟩ : ∃ j : Nat, Lib.index r [47] = j := ⟨(Lib.index r [47]).toNat, by omega⟩
        have hj1 : ¬ ((j : Int) = -1) := by omega
        have hj2 : ¬ ((j : Int) + 1 = -1) := by omega
        have e2 : ((j : Int) + 1).toNat = j + 1 := by omega
        rw [hj] at ih ⊢
        simp only [beq_iff_eq, hj1, if_false, Int.toNat_natCast] at ih
        rw [ih]
        simp only [beq_iff_eq, hj1, hj2, if_false, e2, List.take_succ_cons, List.drop_succ_cons]
theorem splitK_pieces : ∀ (k : Nat) (l : List UInt8), Lib.count l [47] = k → Lib.splitK [47] 0 k l = pieces l
  | 0, l, h => by
    rw [Lib.splitK, pieces_one]
    intro b hb e
    subst e
    rw [Lib.count_one] at h
    have := List.count_pos_iff.2 hb
    omega
  | k + 1, l, h => by
    rw [Lib.splitK, pieces_index l]
    by_cases hm : Lib.index l [47] = -1
    · rw [if_pos (beq_iff_eq.2 hm), if_pos (beq_iff_eq.2 hm)]
    · rw [if_neg (fun e => hm (beq_iff_eq.1 e)), if_neg (fun e => hm (beq_iff_eq.1 e))]
      have hge := Lib.index_ge l [47]
      obtain ⟨j, hj⟩ : ∃ j : Nat, Lib.index l [47] = j := ⟨(Lib.index l [47]).toNat, by omega⟩
      have hc := Lib.count_hit (s := l) (sub := [47]) (by simp) hj
      rw [hj, Int.toNat_natCast]
      simp only [List.length_cons, List.length_nil, Nat.zero_add] at hc ⊢
      rw [splitK_pieces k _ (by rw [h] at hc; omega)]
      simp
/-- the names of a text -/
def namesOf (l : List UInt8) : List ByteArray := (pieces l).map st
theorem splitB_names (s : ByteArray) : Lib.splitB ⟨#[47]⟩ 0 (Lib.countB s ⟨#[47]⟩) s = namesOf s.data.toList := by
  have h := Lib.splitB_data ⟨#[47]⟩ 0 (Lib.countB s ⟨#[47]⟩) s
  have h2 := splitK_pieces _ s.data.toList (rfl : _ = Lib.countB s ⟨#[47]⟩)
  unfold namesOf
  rw [← h2, show ([47] : List UInt8) = (⟨#[47]⟩ : ByteArray).data.toList from rfl, ← h, List.map_map]
  simp [Function.comp_def, st_toList]
theorem namesOf_len (l : List UInt8) : (namesOf l).length = l.count 47 + 1 := by simp [namesOf, pieces_len]
/-- what is wrong with a path, and its names -/
def splE (p : List UInt8) : Int := if p = [47] then 0 else match p with
  | 47 :: r => chkE (namesOf r)
  | _ => 309
def splL (p : List UInt8) : List ByteArray := if p = [47] then [] else if splE p = 0 then namesOf (p.drop 1) else []
theorem splE_root : splE [47] = 0 := by simp [splE]
theorem splL_root : splL [47] = [] := by simp [splL]
theorem splE_not {p : List UInt8} (h : ∀ r, p ≠ 47 :: r) : splE p = 309 := by
  unfold splE
  rw [if_neg (h [])]
  split
  · rename_i r; exact absurd rfl (h r)
  · rfl
theorem splE_some {r : List UInt8} (h : r ≠ []) : splE (47 :: r) = chkE (namesOf r) := by
  unfold splE
  rw [if_neg (by simpa using h)]
  rfl
theorem splL_err {p : List UInt8} (h : splE p ≠ 0) : splL p = [] := by
  unfold splL
  split
  · rfl
  · rfl
theorem splL_some {r : List UInt8} (h : r ≠ []) (h0 : chkE (namesOf r) = 0) : splL (47 :: r) = namesOf r := by
  unfold splL
  rw [if_neg (by simpa using h), splE_some h, if_pos h0]; rfl
theorem splE_cases (p : List UInt8) : splE p = 309 ∨ splE p = 308 ∨ splE p = 0 := by
  by_cases h1 : p = [47]
  · subst h1; exact .inr (.inr splE_root)
  by_cases h2 : ∃ r, p = 47 :: r
  · obtain ⟨r, rfl⟩ := h2
    rw [splE_some (by simpa using h1)]; exact chkE_cases _
  · exact .inl (splE_not (fun r e => h2 ⟨r, e⟩))
theorem splL_ok (p : List UInt8) : chkE (splL p) = 0 := by
  by_cases h1 : p = [47]
  · subst h1; rw [splL_root]; rfl
  by_cases h0 : splE p = 0
  · by_cases h2 : ∃ r, p = 47 :: r
    · obtain ⟨r, rfl⟩ := h2
      have hr : r ≠ [] := by simpa using h1
      rw [splE_some hr] at h0
      rw [splL_some hr h0]; exact h0
    · rw [splE_not (fun r e => h2 ⟨r, e⟩)] at h0; omega
  · rw [splL_err h0]; rfl
/-- the path of names -/
def joinP (l : List ByteArray) : List UInt8 := 47 :: Lib.join (l.map (·.data.toList)) [47]
theorem joinP_nil : joinP [] = [47] := rfl
theorem split_join {l : List ByteArray} (h : chkE l = 0) : splE (joinP l) = 0 ∧ splL (joinP l) = l := by
  obtain ⟨h1, h2⟩ := chkE_ok.1 h
  cases l with
  | nil => exact ⟨splE_root, splL_root⟩
  | cons x r =>
    have hall := chkN_ok.1 h1
    have hp : pieces (Lib.join ((x :: r).map (·.data.toList)) [47]) = (x :: r).map (·.data.toList) := pieces_join _ (by simp) (by
      intro y hy b hb e
      obtain ⟨z, hz, rfl⟩ := List.mem_map.1 hy
      have := (nmE_ok.1 (hall z hz)).2.2.2.1
      rw [List.any_eq_false] at this
      have := this b hb
      subst e
      simp [badB] at this)
    have hne : Lib.join ((x :: r).map (·.data.toList)) [47] ≠ [] := by
      intro e
      rw [e] at hp
      have h3 := (nmE_ok.1 (hall x (by simp))).1
      simp [pieces] at hp
      exact h3 (by rw [hp.1])
    have hn : namesOf (Lib.join ((x :: r).map (·.data.toList)) [47]) = x :: r := by
      unfold namesOf
      rw [hp, List.map_map]
      simp [Function.comp_def, st_toList]
    unfold joinP
    rw [splE_some hne, hn]
    exact ⟨h, by rw [splL_some hne (by rw [hn]; exact h), hn]⟩
theorem join_split {p : List UInt8} (h : splE p = 0) : joinP (splL p) = p := by
  by_cases h1 : p = [47]
  · subst h1; rw [splL_root]; rfl
  by_cases h2 : ∃ r, p = 47 :: r
  · obtain ⟨r, rfl⟩ := h2
    have hr : r ≠ [] := by simpa using h1
    rw [splE_some hr] at h
    rw [splL_some hr h]
    unfold joinP namesOf
    rw [List.map_map]
    have e : ((fun x => x.data.toList) ∘ st : List UInt8 → List UInt8) = id := by funext x; simp [st_list]
    rw [show (fun (x : ByteArray) => x.data.toList) ∘ st = (id : List UInt8 → List UInt8) from e, List.map_id, join_pieces]
  · rw [splE_not (fun r e => h2 ⟨r, e⟩)] at h; omega
end Go.Proofs.YtnoocgodnpjnoaaDoor
