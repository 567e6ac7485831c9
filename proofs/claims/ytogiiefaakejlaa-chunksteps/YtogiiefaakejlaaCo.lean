import Derived.Test.YtogiiefaakejlaaCb
import Derived.Test.YtogiiefaakejlaaCd
namespace Go.Proofs.Ytogiiefaakejlaa
open Go.RowKit Go.Maps

def entC (c : Ck) : Ent := ⟨c.num, c.dat⟩
/-- the chunks that a collector has: all right, of one snapshot, none twice -/
structure LOk (L : List Ck) : Prop where
  rg : ∀ c ∈ L, rgt c = true
  one : ∀ c ∈ L, ∀ d ∈ L, c.dg = d.dg ∧ c.tot = d.tot
  nd : (L.map (·.num)).Nodup
  fit : ∀ c ∈ L, inI c.dg
def hasN (L : List Ck) (n : Int) : Bool := L.any (fun c => c.num == n)
def okIn : List Ck → Ck → Bool
  | [], _ => true
  | d :: _, c => decide (c.dg = d.dg ∧ c.tot = d.tot)
def addB (L : List Ck) (c : Ck) : Bool := rgt c && okIn L c && !hasN L c.num
def addE (L : List Ck) (c : Ck) : Int := if rgt c then (if okIn L c then 0 else 7) else 4
def addL (L : List Ck) (c : Ck) : List Ck := if addB L c then L ++ [c] else L
theorem rgt_num {c : Ck} (h : rgt c = true) : 1 ≤ c.tot ∧ c.tot ≤ 1024 ∧ 0 ≤ c.num ∧ c.num < cnt c.tot ∧ cnt c.tot ≤ 128 ∧ (c.dat.size : Int) = 128 * siz c.tot c.num ∧ c.sm = crc c.dat.data.toList := by
  unfold rgt at h
  rw [decide_eq_true_eq] at h
  obtain ⟨a, b, d, e, f, g⟩ := h
  exact ⟨a, b, d, e, by unfold cnt; omega, f, g⟩
theorem LOk.nil : LOk [] := ⟨by simp, by simp, by simp, by simp⟩
theorem okIn_all {L : List Ck} {c : Ck} (h : LOk L) (ho : okIn L c = true) : ∀ d ∈ L, c.dg = d.dg ∧ c.tot = d.tot := by
  cases L with
  | nil => simp
  | cons x r =>
    intro d hd
    have h1 := h.one x (by simp) d hd
    simp only [okIn, decide_eq_true_eq] at ho
    exact ⟨ho.1.trans h1.1, ho.2.trans h1.2⟩
theorem LOk.add {L : List Ck} (h : LOk L) (c : Ck) (hc : inI c.dg) : LOk (addL L c) := by
  unfold addL
  split
  · rename_i hb
    simp only [addB, Bool.and_eq_true, Bool.not_eq_true'] at hb
    obtain ⟨⟨h1, h2⟩, h3⟩ := hb
    have ho := okIn_all h h2
    refine ⟨fun d hd => ?_, fun d hd e he => ?_, ?_, fun d hd => ?_⟩
    · rcases List.mem_append.1 hd with hd | hd
      · exact h.rg d hd
      · simp at hd; subst hd; exact h1
    · rcases List.mem_append.1 hd with k1 | k1 <;> rcases List.mem_append.1 he with k2 | k2
      · exact h.one d k1 e k2
      · rw [List.mem_singleton.1 k2]; exact ⟨(ho d k1).1.symm, (ho d k1).2.symm⟩
      · rw [List.mem_singleton.1 k1]; exact ho e k2
      · rw [List.mem_singleton.1 k1, List.mem_singleton.1 k2]; exact ⟨rfl, rfl⟩
    · rw [List.map_append]
      refine List.nodup_append.2 ⟨h.nd, by simp, fun a ha b hb => ?_⟩
      simp at hb
      subst hb
      obtain ⟨y, hy, rfl⟩ := List.mem_map.1 ha
      intro e
      unfold hasN at h3
      rw [List.any_eq_false] at h3
      exact h3 y hy (by simp [e])
    · rcases List.mem_append.1 hd with hd | hd
      · exact h.fit d hd
      · simp at hd; subst hd; exact hc
  · exact h
theorem nodup_len : ∀ (m : Nat) (l : List Int), l.Nodup → (∀ x ∈ l, 0 ≤ x ∧ x < m) → l.length ≤ m
  | 0, l, _, h => by
    cases l with
    | nil => exact Nat.le_refl _
    | cons x r => have := h x (by simp); omega
  | m + 1, l, hd, h => by
    have h1 := nodup_len m (l.erase (m : Int)) (hd.erase _) (fun x hx => by
      obtain ⟨a, b⟩ := hd.mem_erase_iff.1 hx
      have := h x b
      omega)
    have h2 := List.length_erase (a := (m : Int)) (l := l)
    split at h2 <;> omega
theorem LOk.len {L : List Ck} (h : LOk L) : L.length ≤ 128 := by
  have := nodup_len 128 (L.map (·.num)) h.nd (fun x hx => by
    obtain ⟨c, hc, rfl⟩ := List.mem_map.1 hx
    have := rgt_num (h.rg c hc)
    exact ⟨this.2.2.1, by omega⟩)
  simpa using this
/-- what a collector holds of its snapshot -/
def dgOf : List Ck → Int
  | [] => 0
  | c :: _ => c.dg
def totOf : List Ck → Int
  | [] => 0
  | c :: _ => c.tot
/-- a collector in block g -/
structure CI (base g : Nat) (w : World) (L : List Ck) : Prop where
  ok : LOk L
  bg : base ≤ g
  mem : ∃ mv, w.heap[g]? = some (.cells #[.int .i64 (dgOf L), .int .i64 (totOf L), mv] 70 (0, 0)) ∧ ((L = [] ∧ mv = .map none) ∨ (L ≠ [] ∧ ∃ m, mv = .map (some m) ∧ base ≤ m ∧ MIs m w L.length (L.map entC)))
/-- nothing but block g, and maps, has changed -/
structure CFr (g : Nat) (w w' : World) : Prop where
  size : w.heap.size ≤ w'.heap.size
  block : ∀ k, k < w.heap.size → k ≠ g → (∀ es c, w.heap[k]? ≠ some (.map es c)) → w'.heap[k]? = w.heap[k]?
theorem CFr.refl (g : Nat) (w : World) : CFr g w w := ⟨Nat.le_refl _, fun _ _ _ _ => rfl⟩
theorem CFr.of_below {g : Nat} {w w' : World} (h : Below w.heap.size w w') : CFr g w w' := ⟨h.size, fun k hk _ _ => h.block k hk⟩
theorem CFr.trans {g : Nat} {w w1 w2 : World} (h : CFr g w w1) (k : CFr g w1 w2) : CFr g w w2 :=
  ⟨Nat.le_trans h.size k.size, fun i hi hn hm => by
    have e := h.block i hi hn hm
    rw [k.block i (Nat.lt_of_lt_of_le hi h.size) hn (fun es c => by rw [e]; exact hm es c), e]⟩
theorem CI.lt {base g : Nat} {w : World} {L : List Ck} (h : CI base g w L) : g < w.heap.size := by
  obtain ⟨mv, h1, _⟩ := h.mem
  exact lt_of_block h1
theorem CI.same {base g : Nat} {w w' : World} {L : List Ck} (h : CI base g w L) (hb : ∀ k, k < w.heap.size → (k = g ∨ ∃ es c, w.heap[k]? = some (.map es c)) → w'.heap[k]? = w.heap[k]?) : CI base g w' L := by
  obtain ⟨mv, h1, h2⟩ := h.mem
  refine ⟨h.ok, h.bg, mv, (hb g (lt_of_block h1) (.inl rfl)).trans h1, ?_⟩
  rcases h2 with h2 | ⟨hne, m, rfl, hbm, hm⟩
  · exact .inl h2
  · exact .inr ⟨hne, m, rfl, hbm, hm.same (hb m hm.lt (.inr hm.isMap))⟩
theorem CI.below {base g : Nat} {w w' : World} {L : List Ck} (h : CI base g w L) (k : Below w.heap.size w w') : CI base g w' L := h.same fun i hi _ => k.block i hi
theorem CI.cells {base g : Nat} {w : World} {L : List Ck} (h : CI base g w L) : ∃ mv, w.cell? ⟨g, 0, none⟩ = some (.int .i64 (dgOf L)) ∧ w.cell? ⟨g, 1, none⟩ = some (.int .i64 (totOf L)) ∧ w.cell? ⟨g, 2, none⟩ = some mv ∧ ((L = [] ∧ mv = .map none) ∨ (L ≠ [] ∧ ∃ m, mv = .map (some m) ∧ base ≤ m ∧ MIs m w L.length (L.map entC))) := by
  obtain ⟨mv, h1, h2⟩ := h.mem
  exact ⟨mv, by simp [World.cell?, h1], by simp [World.cell?, h1], by simp [World.cell?, h1], h2⟩
theorem CI.new (base : Nat) (w : World) (hb : base ≤ w.heap.size) : CI base w.heap.size (w.alloc (.cells #[.int .i64 0, .int .i64 0, .map none] 70)) [] :=
  ⟨LOk.nil, hb, _, box_at w _, .inl ⟨rfl, rfl⟩⟩
theorem new_any (w : World) : Calls Try.prog 14 #[] w fun e w' => e = .returned (.pointer (some ⟨w.heap.size, 0, none⟩)) ∧ w' = w.alloc (.cells #[.int .i64 0, .int .i64 0, .map none] 70) := by
  go_enter Try.func14, Try.ntmps14
  go_wp2
  go_ret
  exact ⟨rfl, rfl⟩
theorem begun_nil (w : World) : Calls Try.prog 31 #[.pointer none] w fun e w' => e = .returned (.bool false) ∧ w' = w := by
  go_enter Try.func31, Try.ntmps31
  go_wp2
  go_ret
  exact ⟨rfl, rfl⟩
def begun (L : List Ck) : Bool := !L.isEmpty
theorem begun_any {base g : Nat} {w : World} {L : List Ck} (h : CI base g w L) : Calls Try.prog 31 #[.pointer (some ⟨g, 0, none⟩)] w fun e w' => e = .returned (.bool (begun L)) ∧ w' = w := by
  obtain ⟨mv, c0, c1, c2, ⟨rfl, rfl⟩ | ⟨hne, m, rfl, hbm, hm⟩⟩ := h.cells
  · go_enter Try.func31, Try.ntmps31
    go_wp2
    go_ret
    exact ⟨rfl, rfl⟩
  · have hl : 0 < L.length := List.length_pos_iff.2 hne
    have hb : begun L = true := by unfold begun; cases L with | nil => simp at hl | cons _ _ => rfl
    rw [hb]
    have hlen := hm.len 3
    rw [List.length_map] at hlen
    clear hb hm h hne
    go_enter Try.func31, Try.ntmps31
    go_wp2
    go_ret
    exact ⟨rfl, rfl⟩
end Go.Proofs.Ytogiiefaakejlaa
