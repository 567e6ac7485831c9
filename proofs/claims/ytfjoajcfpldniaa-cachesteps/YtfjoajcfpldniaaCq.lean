import Derived.Test.YtfjoajcfpldniaaCp
namespace Go.Proofs.Ytfjoajcfpldniaa
open Go.RowKit Go.Maps

section
variable {B g : Nat} {N J : Nat} {P : List Fm}
theorem cnew (N : Nat) (h1 : 1 ≤ N) (h2 : N ≤ 64) (B : Nat) (w : World) (hB : B ≤ w.heap.size) : Calls Try.prog 8 #[.int .i64 (N : Int)] w fun e w' => ∃ g, e = .returned (.tuple #[.pointer (some ⟨g, 0, none⟩), .int .i64 0]) ∧ CC B g w' N 0 [] ∧ Below w.heap.size w w' :=
  (new_go N h1 h2 B w hB).mono fun _ _ ⟨he, hc, hb⟩ => ⟨_, he, ⟨_, [], 0, hc, rfl⟩, hb⟩
theorem cload (k : Int) (hk : inI k) (d : ByteArray) (w : World) (h : CC B g w N J P) (hJ : J + 1 ≤ 90000) : Calls Try.prog 18 #[.pointer (some ⟨g, 0, none⟩), .int .i64 k, .string d] w fun e w' => e = .returned (.tuple #[.int .i64 (loadR N P k d).1, .int .i64 (loadR N P k d).2.1]) ∧ CC B g w' N (J + 1) (loadR N P k d).2.2 ∧ OC w w' ∧ Below B w w' := by
  obtain ⟨m, L, U, hC, rfl⟩ := h
  have hBw : B ≤ w.heap.size := Nat.le_trans hC.b1 (Nat.le_of_lt hC.glt)
  unfold loadR
  cases hb : isB k d with
  | false =>
    refine (load_arg hb _ w).mono ?_
    rintro e w' ⟨rfl, rfl⟩
    exact ⟨rfl, ⟨m, L, U, hC.more (by omega) hJ, rfl⟩, OC.refl _, Below.refl _ _⟩
  | true =>
    rw [if_neg (by simp), find_fm]
    cases hf : findF L k with
    | some f =>
      refine (load_state hk hb hf w hC).mono ?_
      rintro e w' ⟨rfl, rfl⟩
      exact ⟨rfl, ⟨m, L, U, hC.more (by omega) hJ, rfl⟩, OC.refl _, Below.refl _ _⟩
    | none =>
      simp only [Option.map_none]
      rw [List.length_map]
      by_cases hl : L.length < N
      · rw [if_pos hl]
        refine (load_ok hk hb hf hJ (-1) L hl (fun _ h => h) w hC ((room_free hl w hC).mono fun e w' ⟨he, hb⟩ => ⟨he, hC.below hb, Only.of_below hb⟩)).mono ?_
        rintro e w' ⟨rfl, a, ha, hC', hO⟩
        exact ⟨rfl, ⟨m, _, _, hC', by rw [List.map_append]; rfl⟩, hC.oc hO, hC.belowB hO⟩
      · rw [if_neg hl, idle_fm]
        cases hi : L.find? idleF with
        | none =>
          refine (load_full hk hb hf (by omega) (fun f hf' => ?_) w hC).mono ?_
          · have := (List.find?_eq_none.1 hi) f hf'
            simpa using this
          · rintro e w' ⟨rfl, hb⟩
            exact ⟨rfl, ⟨m, L, U, (hC.below hb).more (by omega) hJ, rfl⟩, OC.of_below hb, hb.mono hBw⟩
        | some f =>
          obtain ⟨hfi, pre, post, hL, hno⟩ := List.find?_eq_some_iff_append.1 hi
          have hm : f ∈ L := by rw [hL]; simp
          have hdl : (dropL L f.b).length < N := by
            have h4 := hC.len
            have h3 := (drop_perm hC.bnd hm).length_eq
            rw [List.length_append] at h3
            simp at h3
            omega
          refine (load_ok hk hb hf hJ f.b (dropL L f.b) hdl (fun x hx => (mem_drop.1 hx).1) w hC (room_some (by omega) hL hfi (fun x hx => by have := hno x hx; simpa using this) w hC)).mono ?_
          rintro e w' ⟨rfl, a, ha, hC', hO⟩
          refine ⟨rfl, ⟨m, _, _, hC', ?_⟩, hC.oc hO, hC.belowB hO⟩
          rw [List.map_append, ← drop_fm]
          rfl
theorem clook (k : Int) (hk : inI k) (w : World) (h : CC B g w N J P) (hJ : J + 1 ≤ 90000) : Calls Try.prog 19 #[.pointer (some ⟨g, 0, none⟩), .int .i64 k] w fun e w' => e = .returned (.tuple #[.string (lookR P k).1, .bool (lookR P k).2.1]) ∧ CC B g w' N (J + 1) (lookR P k).2.2 ∧ OC w w' ∧ Below B w w' := by
  obtain ⟨m, L, U, hC, rfl⟩ := h
  unfold lookR
  rw [find_fm]
  cases hf : findF L k with
  | none =>
    refine (look_no hk hf w hC).mono ?_
    rintro e w' ⟨rfl, rfl⟩
    exact ⟨rfl, ⟨m, L, U, hC.more (by omega) hJ, rfl⟩, OC.refl _, Below.refl _ _⟩
  | some f =>
    refine (look_yes hk hf hJ w hC).mono ?_
    rintro e w' ⟨rfl, hC', hO⟩
    refine ⟨rfl, ⟨m, _, _, hC', ?_⟩, hC.oc hO, hC.belowB hO⟩
    rw [List.map_append, ← drop_fm]
    rfl
theorem cstore (k : Int) (hk : inI k) (d : ByteArray) (w : World) (h : CC B g w N J P) (hJ : J + 1 ≤ 90000) : Calls Try.prog 20 #[.pointer (some ⟨g, 0, none⟩), .int .i64 k, .string d] w fun e w' => e = .returned (.int .i64 (storeR P k d).1) ∧ CC B g w' N (J + 1) (storeR P k d).2 ∧ OC w w' ∧ Below B w w' := by
  obtain ⟨m, L, U, hC, rfl⟩ := h
  unfold storeR
  cases hb : isB k d with
  | false =>
    refine (store_arg hb _ w).mono ?_
    rintro e w' ⟨rfl, rfl⟩
    exact ⟨rfl, ⟨m, L, U, hC.more (by omega) hJ, rfl⟩, OC.refl _, Below.refl _ _⟩
  | true =>
    rw [if_neg (by simp), find_fm]
    cases hf : findF L k with
    | none =>
      refine (store_none hk hb hf w hC).mono ?_
      rintro e w' ⟨rfl, rfl⟩
      exact ⟨rfl, ⟨m, L, U, hC.more (by omega) hJ, rfl⟩, OC.refl _, Below.refl _ _⟩
    | some f =>
      refine (store_yes hk hb hf hJ w hC).mono ?_
      rintro e w' ⟨rfl, hC', hO⟩
      refine ⟨rfl, ⟨m, _, _, hC', ?_⟩, hC.oc hO, hC.belowB hO⟩
      rw [List.map_append, ← drop_fm]
      rfl
theorem cpin (k : Int) (hk : inI k) (w : World) (h : CC B g w N J P) (hJ : J + 1 ≤ 90000) : Calls Try.prog 21 #[.pointer (some ⟨g, 0, none⟩), .int .i64 k] w fun e w' => e = .returned (.int .i64 (pinR P k).1) ∧ CC B g w' N (J + 1) (pinR P k).2 ∧ OC w w' ∧ Below B w w' := by
  obtain ⟨m, L, U, hC, rfl⟩ := h
  unfold pinR
  rw [find_fm]
  cases hf : findF L k with
  | none =>
    refine (pin_no hk hf w hC).mono ?_
    rintro e w' ⟨rfl, rfl⟩
    exact ⟨rfl, ⟨m, L, U, hC.more (by omega) hJ, rfl⟩, OC.refl _, Below.refl _ _⟩
  | some f =>
    refine (pin_yes hk hf hJ w hC).mono ?_
    rintro e w' ⟨rfl, hC', hO⟩
    exact ⟨rfl, ⟨m, _, _, hC', set_fm L { f with p := f.p + 1 }⟩, hC.oc hO, hC.belowB hO⟩
theorem cunpin (k : Int) (hk : inI k) (w : World) (h : CC B g w N J P) (hJ : J + 1 ≤ 90000) : Calls Try.prog 22 #[.pointer (some ⟨g, 0, none⟩), .int .i64 k] w fun e w' => e = .returned (.int .i64 (unpinR P k).1) ∧ CC B g w' N (J + 1) (unpinR P k).2 ∧ OC w w' ∧ Below B w w' := by
  obtain ⟨m, L, U, hC, rfl⟩ := h
  unfold unpinR
  rw [find_fm]
  cases hf : findF L k with
  | none =>
    refine (unpin_no hk hf w hC).mono ?_
    rintro e w' ⟨rfl, rfl⟩
    exact ⟨rfl, ⟨m, L, U, hC.more (by omega) hJ, rfl⟩, OC.refl _, Below.refl _ _⟩
  | some f =>
    simp only [Option.map_some]
    by_cases hp : f.p = 0
    · rw [if_pos (show (fm f).p = 0 from hp)]
      refine (unpin_zero hk hf hp w hC).mono ?_
      rintro e w' ⟨rfl, rfl⟩
      exact ⟨rfl, ⟨m, L, U, hC.more (by omega) hJ, rfl⟩, OC.refl _, Below.refl _ _⟩
    · rw [if_neg (show ¬ (fm f).p = 0 from hp)]
      refine (unpin_yes hk hf hp w hC).mono ?_
      rintro e w' ⟨rfl, hC', hO⟩
      exact ⟨rfl, ⟨m, _, _, hC'.more (by omega) hJ, set_fm L { f with p := f.p - 1 }⟩, hC.oc hO, hC.belowB hO⟩
theorem cheld (w : World) (h : CC B g w N J P) : Calls Try.prog 13 #[.pointer (some ⟨g, 0, none⟩)] w fun e w' => ∃ v, e = .returned v ∧ ILie w' v (P.map (·.b)) ∧ Below w.heap.size w w' := by
  obtain ⟨m, L, U, hC, rfl⟩ := h
  rw [List.map_map]
  exact held_go w hC
theorem cdirty (w : World) (h : CC B g w N J P) : Calls Try.prog 16 #[.pointer (some ⟨g, 0, none⟩)] w fun e w' => ∃ v, e = .returned v ∧ CLie w' v ((dirtyP P).map chP) ∧ Below w.heap.size w w' := by
  obtain ⟨m, L, U, hC, rfl⟩ := h
  rw [dirty_fm, List.map_map]
  exact Dirty_go w hC
theorem ctake (w : World) (h : CC B g w N J P) : Calls Try.prog 23 #[.pointer (some ⟨g, 0, none⟩)] w fun e w' => ∃ v, e = .returned v ∧ CLie w' v (((dirtyP P).take 48).map chP) ∧ CC B g w' N J (clearP P ((dirtyP P).take 48)) ∧ OC w w' ∧ Below B w w' := by
  obtain ⟨m, L, U, hC, rfl⟩ := h
  refine (Take_go w hC).mono ?_
  rintro e w' ⟨v, rfl, hv, hC', hO⟩
  refine ⟨v, rfl, ?_, ⟨m, _, U, hC', ?_⟩, hC.oc hO, hC.belowB hO⟩
  · rw [dirty_fm, ← List.map_take, List.map_map]
    exact hv
  · rw [dirty_fm, ← List.map_take, clear_fm]
end
end Go.Proofs.Ytfjoajcfpldniaa
