import Derived.Test.YtfjoajcfpldniaaCd
namespace Go.Proofs.Ytfjoajcfpldniaa
open Go.RowKit Go.Maps Go.Sort Go.Shelf

/-- frames' pointers in a row, room behind them -/
structure PRow (w : World) (gb cap : Nat) (T : List Fr) : Prop where
  ex : ∃ cur, w.heap[gb]? = some (.cells cur 69 (0, 0)) ∧ cur.size = cap ∧ cur.toList.take T.length = pp T
  le : T.length ≤ cap
  mx : cap ≤ maxLen
theorem PRow.lt {w : World} {gb cap : Nat} {T : List Fr} (h : PRow w gb cap T) : gb < w.heap.size := by
  obtain ⟨cur, h1, _⟩ := h.ex
  exact lt_of_block h1
theorem PRow.cell {w : World} {gb cap : Nat} {T : List Fr} (h : PRow w gb cap T) (i : Nat) (hi : i < T.length) : w.cell? ⟨gb, i, none⟩ = some (ptr T[i].a) := by
  obtain ⟨cur, h1, h2, h3⟩ := h.ex
  rw [cell_of h1]
  have e1 : cur.toList[i]? = (pp T)[i]? := by rw [← h3, List.getElem?_take_of_lt hi]
  rw [Array.getElem?_toList] at e1
  rw [e1, List.getElem?_eq_getElem (by rw [pp_len]; exact hi)]
  simp [pp]
theorem PRow.free {w : World} {gb cap : Nat} {T : List Fr} (h : PRow w gb cap T) (i : Nat) : w.frozen? ⟨gb, i, none⟩ = false := by
  obtain ⟨cur, h1, h2, h3⟩ := h.ex
  exact frees h1 i
theorem PRow.same {w w' : World} {gb cap : Nat} {T : List Fr} (h : PRow w gb cap T) (k : w'.heap[gb]? = w.heap[gb]?) : PRow w' gb cap T := by
  obtain ⟨⟨cur, h1, h2⟩, h3, h4⟩ := h
  exact ⟨⟨cur, k.trans h1, h2⟩, h3, h4⟩
theorem oneF {L : List Fr} : OneCell (encF (L := L)) := fun _ => rfl
set_option maxHeartbeats 1000000 in
theorem sort_go {by_ : Nat} {key : Fr → Int} (hby : By by_ key) {L : List Fr} {w : World} (hF : ∀ f ∈ L, FIs w f) {LS : List Fr} (hLS : LS.Perm L) {gb cap : Nat} (hR : PRow w gb cap LS) (hne : ∀ f ∈ L, f.a ≠ gb) (hpos : 0 < LS.length) (hsz : LS.length ≤ 1000000) :
    Calls Try.prog 51 #[.slice (some ⟨gb, 0, none⟩) LS.length cap, .func (.func by_) #[] #[]] w fun e w' => e = .returned (.tuple #[]) ∧ ∃ T : List Fr, T.Perm L ∧ T.Pairwise (fun x y => key x ≤ key y) ∧ PRow w' gb cap T ∧ w.grownBy w' (some gb) := by
  obtain ⟨f0, hf0⟩ : ∃ f0, f0 ∈ LS := ⟨LS[0], List.getElem_mem hpos⟩
  haveI : Inhabited (El L) := ⟨⟨f0, hLS.mem_iff.1 hf0⟩⟩
  obtain ⟨LA, hLA⟩ : ∃ LA : List (El L), LA.map (·.1) = LS := by
    refine ⟨LS.attach.map (fun x => ⟨x.1, hLS.mem_iff.1 x.2⟩), ?_⟩
    rw [List.map_map]
    exact List.attach_map_subtype_val LS
  have hll : LA.length = LS.length := by rw [← hLA, List.length_map]
  have hds : LA.toArray.size = LS.length := by simp [hll]
  obtain ⟨cur, r0, r3, r4⟩ := hR.ex
  have hH : Holds encF w gb 0 LA.toArray := by
    intro j hj
    rw [hds] at hj
    refine ⟨?_, hR.free _⟩
    rw [Nat.zero_add, hR.cell j hj]
    have e2 : LA.toArray[j]! = LA[j]'(by omega) := by
      rw [getElem!_pos _ j (by rw [hds]; exact hj)]; simp
    rw [e2]
    have e3 : (LA[j]'(by omega)).1 = LS[j] := by
      have : (LA.map (·.1))[j]? = LS[j]? := by rw [hLA]
      rw [List.getElem?_map, List.getElem?_eq_getElem (by omega), List.getElem?_eq_getElem hj] at this
      simpa using this
    unfold encF
    rw [e3]
  have hcmp : CmpLays1 Try.prog by_ #[] (encF (L := L)) (cfF key) gb 0 LA.toArray.size w := by
    intro m os dk hs x y
    have hx := (hF x.1 x.2).same (heap_sorted_other encF (off := 0) (m := m) (dk := dk) (os := os) (hF x.1 x.2).lt (hne x.1 x.2))
    have hy := (hF y.1 y.2).same (heap_sorted_other encF (off := 0) (m := m) (dk := dk) (os := os) (hF y.1 y.2).lt (hne y.1 y.2))
    refine (hby.cmp x.1 y.1 _ hx hy).mono ?_
    rintro e w' ⟨rfl, q, rfl⟩
    exact ⟨rfl, q, #[], by rw [grow_empty]⟩
  have key1 := Any.slices_SortFunc Try.sl6 (encF (L := L)) oneF (cfF key) (swoF key) by_ #[] gb 0 cap LA.toArray w hby.enters hcmp hH hR.lt (by rw [hds]; omega)
  rw [hds] at key1
  refine key1.mono ?_
  rintro e w' ⟨rfl, d', n, os, hP, hS, rfl⟩
  rw [← hds] at hP hS
  have hp := perm_of_in hP
  have hl : d'.toList.length = LS.length := by have := hp.length_eq; simpa [hll] using this
  have hTl : (d'.toList.map (·.1)).length = LS.length := by rw [List.length_map, hl]
  refine ⟨rfl, d'.toList.map (·.1), ?_, ?_, ⟨⟨_, heap_sorted encF d' r0, by simp [putCells, r3], ?_⟩, by rw [hTl]; exact hR.le, hR.mx⟩, grownBy_sorted encF d'⟩
  · have := hp.map (·.1)
    rw [show LA.toArray.toList = LA by simp, hLA] at this
    exact this.trans hLS
  · rw [List.pairwise_map, List.pairwise_iff_getElem]
    intro i j hi hj hij
    have hi' : i < d'.size := by simpa using hi
    have hj' : j < d'.size := by simpa using hj
    have := hS i j (Nat.zero_le _) hij (by have := hP.1; omega)
    rw [getElem!_pos d' i hi', getElem!_pos d' j hj', lt_false] at this
    simpa using this
  · rw [hTl]
    apply List.ext_getElem?
    intro j
    have hcz : LS.length ≤ cur.size := by rw [r3]; exact hR.le
    by_cases hj : j < LS.length
    · have hjd : j < d'.size := by have := hl; simp at this; omega
      rw [List.getElem?_take_of_lt hj, Array.getElem?_toList]
      unfold pp
      rw [List.map_map, List.getElem?_map, Array.getElem?_toList, Array.getElem?_eq_getElem hjd]
      simp [putCells, hjd, show j < cur.size by omega, encF]
    · rw [List.getElem?_take_eq_none (by omega), List.getElem?_eq_none (by rw [pp_len, hTl]; omega)]
end Go.Proofs.Ytfjoajcfpldniaa
