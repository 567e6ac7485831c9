import Derived.Test.YtonejnbflkkapabSs
import Derived.Test.YtonejnbflkkapabDc
namespace Go.Proofs.Ytonejnbflkkapab
open Go.RowKit

theorem Try.info26 : (Try.prog.info? 26).map (fun i => (i.zero, i.size, i.bytes)) = some (some (.agg #[.int .i64 0, .int .i64 0, .int .i64 0, .string ByteArray.empty]), 4, 40) := by kernel_rfl
/-- an item's cells -/
def Item.c (x : Item) : List Value := [.int .i64 x.K, .int .i64 x.N, .int .i64 x.Z, .string x.s]
def ic (l : List Item) : List Value := l.flatMap Item.c
theorem ic_snoc (l : List Item) (x : Item) : ic (l ++ [x]) = ic l ++ x.c := by simp [ic]
theorem ic_len (l : List Item) : (ic l).length = l.length * 4 := by
  induction l with
  | nil => rfl
  | cons a t ih =>
    have e : ic (a :: t) = a.c ++ ic t := by simp [ic]
    rw [e, List.length_append, ih, List.length_cons, show a.c.length = 4 from rfl]; omega
theorem ic_get : ∀ (l : List Item) (j : Nat) (h : j < l.length), (ic l)[j * 4]? = some (.int .i64 l[j].K) ∧ (ic l)[j * 4 + 1]? = some (.int .i64 l[j].N) ∧ (ic l)[j * 4 + 2]? = some (.int .i64 l[j].Z) ∧ (ic l)[j * 4 + 3]? = some (.string l[j].s)
  | a :: t, 0, _ => by
    have e : ic (a :: t) = a.c ++ ic t := by simp [ic]
    rw [e]; simp [Item.c]
  | a :: t, j + 1, h => by
    have e : ic (a :: t) = a.c ++ ic t := by simp [ic]
    have h2 := ic_get t j (by simpa using h)
    have hc : a.c.length = 4 := rfl
    rw [e]
    refine ⟨?_, ?_, ?_, ?_⟩
    · rw [List.getElem?_append_right (by omega), hc, show (j + 1) * 4 - 4 = j * 4 by omega]; exact h2.1
    · rw [List.getElem?_append_right (by omega), hc, show (j + 1) * 4 + 1 - 4 = j * 4 + 1 by omega]; exact h2.2.1
    · rw [List.getElem?_append_right (by omega), hc, show (j + 1) * 4 + 2 - 4 = j * 4 + 2 by omega]; exact h2.2.2.1
    · rw [List.getElem?_append_right (by omega), hc, show (j + 1) * 4 + 3 - 4 = j * 4 + 3 by omega]; exact h2.2.2.2

/-- one item more at the end of a row of the call's own -/
theorem push_item {ops : Array Oper} {rest : List Oper} {o : Oper} {a : Act} {Q : Exit → Act → World → Prop} {w0 : World} (hgd : o.guard = none) (s x : Operand)
    (ho : o.op = .call { callee := .builtin .append, args := #[s, x], argTypes := #[22, 22] }) (base : Nat) (v : Value) (l : List Item) (y : Item)
    (hs : a.eval s = v) (hx : a.eval x = .slice (some ⟨w0.heap.size, 0, none⟩) 1 1) (hown : w0.ownsRow base 26 4 v l.length (ic l)) (hn : l.length ≤ 2000000) (hbase : base ≤ w0.heap.size)
    (h : ∀ r cap w', w'.ownsRow base 26 4 (.slice (some ⟨r, 0, none⟩) (l.length + 1) cap) (l.length + 1) (ic (l ++ [y])) → Below base w0 w' → (∀ k, k < w0.heap.size → v.ownBlock ≠ some k → w'.heap[k]? = w0.heap[k]?) → wpList Try.prog ops Q rest (a.put o.dst (.slice (some ⟨r, 0, none⟩) (l.length + 1) cap)) w') :
    wpList Try.prog ops Q (o :: rest) a (w0.alloc (.cells #[.int .i64 y.K, .int .i64 y.N, .int .i64 y.Z, .string y.s] 26)) := by
  obtain ⟨i0, hi, hz0, hz1, hz2⟩ := info_parts Try.info26
  refine wpList_append_own _ hgd s x 22 ho base 26 i0 _ 4 40 Try.underlying22 hi hz0 hz1 hz2 rfl (by decide) v l.length (ic l) hs (hown.alloc _) ⟨w0.heap.size, 0, none⟩ 1 1 y.c hx rfl ?_ ?_ ?_ ?_ ?_ ?_
  · intro j u hj
    have hb : (w0.alloc (.cells #[.int .i64 y.K, .int .i64 y.N, .int .i64 y.Z, .string y.s] 26)).heap[w0.heap.size]? = some (.cells #[.int .i64 y.K, .int .i64 y.N, .int .i64 y.Z, .string y.s] 26) := by
      show (w0.heap.push _)[w0.heap.size]? = _; simp
    match j, hj with
    | 0, hj => simp [Item.c] at hj; subst hj; simp [Addr.add]
    | 1, hj => simp [Item.c] at hj; subst hj; simp [Addr.add]
    | 2, hj => simp [Item.c] at hj; subst hj; simp [Addr.add]
    | 3, hj => simp [Item.c] at hj; subst hj; simp [Addr.add]
    | j + 4, hj => simp [Item.c] at hj
  · intro u hu; simp [Item.c] at hu; rcases hu with rfl | rfl | rfl | rfl <;> rfl
  · unfold maxLen; omega
  · omega
  · simp; omega
  · intro v' w' h1 h2 _
    obtain ⟨r, cap, rfl⟩ : ∃ r cap, v' = .slice (some ⟨r, 0, none⟩) (l.length + 1) cap := by
      obtain ⟨_, e | ⟨g, cap, cur, e, _⟩⟩ := h1
      · exact absurd e.2 (by omega)
      · exact ⟨g, cap, e⟩
    refine h r cap w' (by rw [ic_snoc]; exact h1) (((Below.refl base w0).alloc hbase _).grown h2 (by simp; omega) fun k hk => (hown.lt k hk).1) fun k hk hne => ?_
    exact (h2.block k (by simp; omega) (fun e => hne e.symm)).trans (Below.heap_alloc _ _ _ hk)

/-- the kept items of the first j -/
def keptL (it : Nat → Item) : Nat → List Item
  | 0 => []
  | j + 1 => if (it j).e = 0 then keptL it j ++ [it j] else keptL it j
def bytesL (l : List Item) : List UInt8 := l.flatMap Item.b
theorem bad_none (x : Item) (h : x.e ≠ 0) : x.b = [] := by
  unfold Item.e itE at h
  unfold Item.b itB
  split at h
  · rename_i h0; rw [if_pos h0]; split at h
    · rename_i h1; rw [if_pos h1]
    · exact absurd rfl h
  · rename_i h0; rw [if_neg h0]; split at h
    · exact absurd rfl h
    · rename_i h1; rw [if_neg h1]; split at h
      · rename_i h2; rw [if_pos h2]; split at h
        · exact absurd rfl h
        · rename_i h3; rw [if_neg h3]
      · rename_i h2; rw [if_neg h2]; split at h
        · rename_i h3; rw [if_pos h3]
        · exact absurd rfl h
theorem outs_kept (it : Nat → Item) : ∀ j, outs it j = bytesL (keptL it j)
  | 0 => rfl
  | j + 1 => by
    rw [outs, keptL, outs_kept it j]
    split
    · simp [bytesL]
    · rename_i h; rw [bad_none _ h, List.append_nil]
theorem kept_len (it : Nat → Item) : ∀ j, (keptL it j).length ≤ j
  | 0 => by simp [keptL]
  | j + 1 => by
    have := kept_len it j
    rw [keptL]; split
    · simp; omega
    · omega
theorem kept_all (it : Nat → Item) (P : Item → Prop) (n : Nat) (hP : ∀ i, i < n → P (it i)) : ∀ j, j ≤ n → ∀ x ∈ keptL it j, x.e = 0 ∧ P x
  | 0, _, x, hx => by simp [keptL] at hx
  | j + 1, hj, x, hx => by
    rw [keptL] at hx
    split at hx
    · rename_i h
      rcases List.mem_append.1 hx with h1 | h1
      · exact kept_all it P n hP j (by omega) x h1
      · simp at h1; subst h1; exact ⟨h, hP j (by omega)⟩
    · exact kept_all it P n hP j (by omega) x hx
theorem ownsRow_stays {w w' : World} {base : Nat} {v : Value} {n : Nat} {xs : List Value} (h : w.ownsRow base 26 4 v n xs) (hs : Stays w w') : w'.ownsRow base 26 4 v n xs := by
  obtain ⟨e1, e2 | ⟨b, cap, cur, rfl, e3, e4, e5⟩⟩ := h
  · exact ⟨e1, .inl e2⟩
  · exact ⟨e1, .inr ⟨b, cap, cur, rfl, e3, hs b cur e4, e5⟩⟩
theorem WIs.pushed {w w' : World} {base b2 g : Nat} {v : Value} {n : Nat} {xs : List Value} {bs : List UInt8} (h : WIs base g w bs) (hown : w.ownsRow b2 26 4 v n xs) (hsame : ∀ k, k < w.heap.size → v.ownBlock ≠ some k → w'.heap[k]? = w.heap[k]?) : WIs base g w' bs := by
  obtain ⟨u, h1, h2⟩ := h
  have hne : ∀ k o, w.heap[k]? = some o → (∀ cur, o ≠ .cells cur 26 (0, 0)) → v.ownBlock ≠ some k := by
    intro k o hk ho e
    obtain ⟨_, e2 | ⟨b, cap, cur, rfl, _, hb, _⟩⟩ := hown
    · rw [e2.1] at e; cases e
    · cases e
      rw [hk] at hb
      exact ho cur (by simpa using hb)
  refine ⟨u, (hsame g (lt_of_block h1) (hne g _ h1 (fun cur e => by simp at e))).trans h1, ?_⟩
  obtain ⟨e1, e2 | ⟨b, cap, cur, rfl, e3, e4, e5⟩⟩ := h2
  · exact ⟨e1, .inl e2⟩
  · exact ⟨e1, .inr ⟨b, cap, cur, rfl, e3, (hsame b (lt_of_block e4) (hne b _ e4 (fun cur e => by simp at e))).trans e4, e5⟩⟩
end Go.Proofs.Ytonejnbflkkapab
