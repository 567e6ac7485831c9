import Derived.Test.YtfjoajcfpldniaaCk
namespace Go.Proofs.Ytfjoajcfpldniaa
open Go.RowKit Go.Maps

theorem clean_any (f : Fr) (w : World) (h : FIs w f) : Calls Try.prog 48 #[.pointer (some ⟨f.a, 0, none⟩)] w fun e w' => e = .returned (.bool (!f.y)) ∧ w' = w := by
  obtain ⟨_, q1, _, _, _⟩ := h.cells
  have hl := h.lt
  go_enter Try.func48, Try.ntmps48
  go_wp2
  go_ret
  exact ⟨rfl, rfl⟩
/-- how many stand ahead of the first that is not dirty -/
def lead (T : List Fr) : Nat := (T.takeWhile (·.y)).length
theorem lead_le (T : List Fr) : lead T ≤ T.length := by unfold lead; exact (List.takeWhile_sublist _).length_le
theorem lead_y : ∀ {T : List Fr} {i : Nat} (hi : i < T.length), i < lead T → T[i].y = true
  | [], i, hi, _ => by simp at hi
  | f :: T, i, hi, h => by
    unfold lead at h
    cases hy : f.y
    · rw [List.takeWhile_cons_of_neg (by simp [hy])] at h; simp at h
    · rw [List.takeWhile_cons_of_pos (by simp [hy]), List.length_cons] at h
      cases i with
      | zero => exact hy
      | succ i => exact lead_y (T := T) (by simpa using hi) (by unfold lead; omega)
theorem lead_n : ∀ {T : List Fr} (hi : lead T < T.length), T[lead T].y = false
  | [], hi => by simp at hi
  | f :: T, hi => by
    cases hy : f.y
    · have e : lead (f :: T) = 0 := by unfold lead; rw [List.takeWhile_cons_of_neg (by simp [hy])]; rfl
      simp only [e]
      exact hy
    · have e : lead (f :: T) = lead T + 1 := by unfold lead; rw [List.takeWhile_cons_of_pos (by simp [hy])]; rfl
      simp only [e]
      simp only [e, List.length_cons] at hi
      exact lead_n (T := T) (by omega)
set_option maxRecDepth 100000 in
theorem index_go {gb cap : Nat} {T : List Fr} (w : World) (hR : PRow w gb cap T) (hF : ∀ f ∈ T, FIs w f) :
    Calls Try.prog 54 #[.slice (some ⟨gb, 0, none⟩) T.length cap, .func (.func 48) #[] #[]] w fun e w' => e = .returned (.int .i64 (if lead T = T.length then -1 else (lead T : Int))) ∧ w' = w := by
  have hle := hR.le
  have hmx := hR.mx
  unfold maxLen at hmx
  have hll := lead_le T
  have HY := hid (fun (i : Nat) (hi : i < T.length) (h : i < lead T) => lead_y hi h)
  have HN := hid (fun (h : lead T < T.length) => lead_n h)
  have HR := hid hR
  have HF := hid hF
  obtain ⟨n, hn⟩ : ∃ n, n = lead T := ⟨_, rfl⟩
  rw [← hn] at hll HY HN ⊢
  clear hR hF hn
  go_enter Try.func54, Try.ntmps54
  go_wp2
  go_loop [8] (fun i => ∃ q : Nat, i = .int .i64 q ∧ q ≤ n) (fun i => T.length - (intOf i).toNat)
  case atStart => exact ⟨0, rfl, Nat.zero_le _⟩
  case round =>
    obtain ⟨q, rfl, hq⟩ := hrel
    by_cases hlt : q < T.length
    · have cq := HR.out.cell q hlt
      unfold ptr at cq
      have hgl := HR.out.lt
      have HFq := hid (clean_any _ _ (HF.out T[q] (List.getElem_mem hlt)))
      by_cases hqn : q < n
      · rw [HY.out q hlt hqn] at HFq
        obtain ⟨f, hf⟩ : ∃ f, f = T[q] := ⟨_, rfl⟩
        rw [← hf] at cq HFq
        clear hf
        go_wp2_with (first | (go_at_call 48; refine (HFq.out).mono ?_; rintro e w1 ⟨rfl, hw⟩; have hw := hw.symm; subst hw))
        go_round
        case rel => exact ⟨q + 1, by go_num, by omega⟩
        case measure => simp [intOf]; omega
      · have hqe : q = n := by omega
        subst hqe
        have hy := HN.out hlt
        have HE := hid hy
        rw [show T[q].y = false from hy] at HFq
        clear hy
        obtain ⟨f, hf⟩ : ∃ f, f = T[q] := ⟨_, rfl⟩
        rw [← hf] at cq HFq
        clear hf HE
        go_wp2_with (first | (go_at_call 48; refine (HFq.out).mono ?_; rintro e w1 ⟨rfl, hw⟩; have hw := hw.symm; subst hw))
        go_ret
        first
          | exact ⟨rfl, rfl⟩
          | (rw [if_neg (by omega)]; exact ⟨rfl, rfl⟩)
    · have hqe : n = T.length := by omega
      go_wp2
      go_ret
      first
        | exact ⟨rfl, rfl⟩
        | (rw [if_pos hqe]; exact ⟨rfl, rfl⟩)
theorem index_nil (fv : Value) (w : World) : Calls Try.prog 54 #[.slice none 0 0, fv] w fun e w' => e = .returned (.int .i64 (-1)) ∧ w' = w := by
  go_enter Try.func54, Try.ntmps54
  go_wp2
  refine wp_loop_rounds 1 ?_
  rw [rounds_succ]
  go_wp2
  go_ret
  exact ⟨rfl, rfl⟩
theorem delete_nil (fv : Value) (w : World) : Calls Try.prog 46 #[.slice none 0 0, fv] w fun e w' => e = .returned (.slice none 0 0) ∧ w' = w := by
  go_enter Try.func46, Try.ntmps46
  go_wp2_with (first | (go_at_call 54; refine (index_nil _ _).mono ?_; rintro e w1 ⟨rfl, hw⟩; have hw := hw.symm; subst hw))
  go_ret
  exact ⟨rfl, rfl⟩
/-- a row that is being cut: what is kept so far stands first, what is to come as it was -/
structure DRow (w : World) (gb cap : Nat) (T : List Fr) (j i : Nat) : Prop where
  ex : ∃ cur, w.heap[gb]? = some (.cells cur 69 (0, 0)) ∧ cur.size = cap ∧ (∀ t (ht : t < ((T.take j).filter (·.y)).length), cur[t]? = some (ptr ((T.take j).filter (·.y))[t].a)) ∧ ∀ t (ht : t < T.length), j ≤ t → cur[t]? = some (ptr T[t].a)
  len : i = ((T.take j).filter (·.y)).length
theorem kept_le (T : List Fr) (j : Nat) : ((T.take j).filter (·.y)).length ≤ j := Nat.le_trans (List.length_filter_le _ _) (by rw [List.length_take]; omega)
theorem kept_succ {T : List Fr} {j : Nat} (hj : j < T.length) : (T.take (j + 1)).filter (·.y) = (T.take j).filter (·.y) ++ (if T[j].y then [T[j]] else []) := by
  rw [List.take_succ_eq_append_getElem hj, List.filter_append]
  congr 1
  cases h : T[j].y <;> simp [h]
theorem DRow.keep {w : World} {gb cap : Nat} {T : List Fr} {j i : Nat} (h : DRow w gb cap T j i) (hj : j < T.length) (hij : i < j) (hc : T.length ≤ cap) (hy : T[j].y = true) : DRow (w.setCell ⟨gb, i, none⟩ (ptr T[j].a)) gb cap T (j + 1) (i + 1) := by
  obtain ⟨⟨cur, h1, h2, h3, h4⟩, h5⟩ := h
  have e := kept_succ hj
  rw [hy, if_pos rfl] at e
  refine ⟨⟨_, cells_set h1 _, by simp [h2], fun t ht => ?_, fun t ht hjt => ?_⟩, by rw [e, List.length_append, ← h5]; rfl⟩
  · rw [Array.set!_eq_setIfInBounds]
    have ht2 : t < i + 1 := by rw [e, List.length_append, ← h5] at ht; simpa using ht
    by_cases hti : t = i
    · subst hti
      rw [Array.getElem?_setIfInBounds_self_of_lt (by omega)]
      simp only [e]
      rw [List.getElem_append_right (by omega)]
      simp [h5]
    · rw [Array.getElem?_setIfInBounds_ne (by omega), h3 t (by omega)]
      simp only [e]
      rw [List.getElem_append_left (by omega)]
  · rw [Array.set!_eq_setIfInBounds, Array.getElem?_setIfInBounds_ne (by omega)]
    exact h4 t ht (by omega)
theorem DRow.skip {w : World} {gb cap : Nat} {T : List Fr} {j i : Nat} (h : DRow w gb cap T j i) (hj : j < T.length) (hy : T[j].y = false) : DRow w gb cap T (j + 1) i := by
  obtain ⟨⟨cur, h1, h2, h3, h4⟩, h5⟩ := h
  have e := kept_succ hj
  rw [hy] at e
  simp only [Bool.false_eq_true, if_false, List.append_nil] at e
  refine ⟨⟨cur, h1, h2, ?_, fun t ht hjt => h4 t ht (by omega)⟩, by rw [e]; exact h5⟩
  rw [e]
  exact h3
theorem lead_filter : ∀ {T : List Fr}, (T.take (lead T)).filter (·.y) = T.take (lead T)
  | [] => rfl
  | f :: T => by
    cases hy : f.y
    · have e : lead (f :: T) = 0 := by unfold lead; rw [List.takeWhile_cons_of_neg (by simp [hy])]; rfl
      rw [e]; rfl
    · have e : lead (f :: T) = lead T + 1 := by unfold lead; rw [List.takeWhile_cons_of_pos (by simp [hy])]; rfl
      rw [e, List.take_succ_cons, List.filter_cons_of_pos (by simp [hy]), lead_filter (T := T)]
theorem setCells_heap_other : ∀ (cs : List Value) (w : World) (b o x : Nat), x ≠ b → (w.setCells b o cs).heap[x]? = w.heap[x]?
  | [], w, b, o, x, h => rfl
  | c :: cs, w, b, o, x, h => by
    show ((w.setCell ⟨b, o, none⟩ c).setCells b (o + 1) cs).heap[x]? = _
    rw [setCells_heap_other cs _ b (o + 1) x h]
    exact Below.heap_setCell _ _ _ _ h
end Go.Proofs.Ytfjoajcfpldniaa
