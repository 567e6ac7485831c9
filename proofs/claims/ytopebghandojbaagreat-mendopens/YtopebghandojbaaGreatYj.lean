import Derived.Test.YtopebghandojbaaGreatYi
namespace Go.Proofs.YtopebghandojbaaGreat
open Go.RowKit Go.Maps

/-- what a store that is opened is busy with -/
def mendA (y T F : Nat) (Ls : List (List Chg)) : List AT := if Ls = [] then [] else layA (mg Ls) (hdB ((T + used Ls) % (y - 1)) (F + Ls.length) (F + Ls.length))
theorem CF.belowB {s j B : Nat} {r : Option Nat} {w w' : World} (h : CF s j r w w') (hB : B ≤ w.heap.size) (hs : B ≤ s) (hj : B ≤ j) (hr : ∀ a, r = some a → B ≤ a) : Below B w w' :=
  ⟨h.os, h.tape, h.output, h.size, fun k hk => h.block k (by omega) (by omega) (by omega) (fun e => by have := hr k e.symm; omega)⟩
theorem len_le_used : ∀ (Ls : List (List Chg)), Ls.length ≤ used Ls
  | [] => Nat.le_refl _
  | L :: Ls => by
    have := len_le_used Ls
    show Ls.length + 1 ≤ L.length + 1 + used Ls
    omega
theorem ringOf_rest (f : Nat → Option ByteArray) (y' : Nat) : (List.range (y' + 1)).map (fun i => (f (1 + i)).getD Dv.Z) = val f 1 :: ringOf f y' := by
  rw [List.range_succ_eq_map, List.map_cons, List.map_map]
  congr 1
  unfold ringOf
  apply List.map_congr_left
  intro i _
  show (f (1 + (i + 1))).getD Dv.Z = (f (2 + i)).getD Dv.Z
  rw [show 1 + (i + 1) = 2 + i by omega]
theorem mg_sml {y x : Nat} {Ls : List (List Chg)} (hx : x ≤ 1024) (h : ∀ L ∈ Ls, okX y x L) : Sml (mg Ls) := by
  obtain ⟨h1, h2⟩ := mg_ok h
  exact ⟨h1, fun c hc => by obtain ⟨a, b, _⟩ := h2 c hc; omega⟩
theorem mg_take {Ls : List (List Chg)} {q : Nat} (h : q < Ls.length) : mg (Ls.take (q + 1)) = Um.mergeL (mg (Ls.take q)) Ls[q] := by
  rw [List.take_succ_eq_append_getElem h, mg_snoc]
theorem st_a2 {w6 w8 : World} {q g x y z j : Nat} {cv : Int} (hh : w8.heap = ((w6.alloc (.map #[] 0)).drew.drewN q).heap) (hb : Below w6.heap.size w6 w8) :
    Value.pointer (some ⟨w8.heap.size, 0, none⟩) = Value.pointer (some ⟨w6.heap.size + 1, 0, none⟩) ∧ StIs (w6.heap.size + 1) (w8.alloc (.cells #[.pointer (some ⟨g, 0, none⟩), .int .i64 (x : Int), .int .i64 (y : Int), .int .i64 (z : Int), .int .i64 1, .int .i64 (1 + (y : Int)), .int .i64 (2 + (y : Int)), .int .i64 (2 + (y : Int) + ((z : Int) + 3) / 4), .int .i64 ((x : Int) - (2 + (y : Int) + ((z : Int) + 3) / 4)), .pointer (some ⟨j, 0, none⟩), .slice none 0 0, .map (some w6.heap.size), .slice none 0 0, .int .i64 cv] 107)) g x y z j (.slice none 0 0) w6.heap.size (.slice none 0 0) cv ∧
      Um.MIs w6.heap.size (w8.alloc (.cells #[.pointer (some ⟨g, 0, none⟩), .int .i64 (x : Int), .int .i64 (y : Int), .int .i64 (z : Int), .int .i64 1, .int .i64 (1 + (y : Int)), .int .i64 (2 + (y : Int)), .int .i64 (2 + (y : Int) + ((z : Int) + 3) / 4), .int .i64 ((x : Int) - (2 + (y : Int) + ((z : Int) + 3) / 4)), .pointer (some ⟨j, 0, none⟩), .slice none 0 0, .map (some w6.heap.size), .slice none 0 0, .int .i64 cv] 107)) 0 [] ∧ Below w6.heap.size w6 (w8.alloc (.cells #[.pointer (some ⟨g, 0, none⟩), .int .i64 (x : Int), .int .i64 (y : Int), .int .i64 (z : Int), .int .i64 1, .int .i64 (1 + (y : Int)), .int .i64 (2 + (y : Int)), .int .i64 (2 + (y : Int) + ((z : Int) + 3) / 4), .int .i64 ((x : Int) - (2 + (y : Int) + ((z : Int) + 3) / 4)), .pointer (some ⟨j, 0, none⟩), .slice none 0 0, .map (some w6.heap.size), .slice none 0 0, .int .i64 cv] 107)) := by
  have hz : w8.heap.size = w6.heap.size + 1 := by rw [hh]; show (w6.heap.push _).size = _; simp
  have hm : w8.heap[w6.heap.size]? = some (.map #[] 0) := by rw [hh]; show (w6.heap.push _)[w6.heap.size]? = _; simp
  refine ⟨by rw [hz], ?_, ?_, hb.next (below_alloc w8 _)⟩
  · rw [← hz]
    exact box_at w8 _
  · exact (Um.MIs.made w6).same ((Below.heap_alloc _ _ _ (by omega)).trans (hm.trans (box_at w6 _).symm))
theorem st_b2 {w6 w8 : World} {q g x y z j : Nat} {cv : Int} (hh : w8.heap = (w6.drew.drewN q).heap) (hb : Below w6.heap.size w6 w8) :
    Value.pointer (some ⟨w8.heap.size + 1, 0, none⟩) = Value.pointer (some ⟨w6.heap.size + 1, 0, none⟩) ∧ StIs (w6.heap.size + 1) ((w8.alloc (.map #[] 0)).alloc (.cells #[.pointer (some ⟨g, 0, none⟩), .int .i64 (x : Int), .int .i64 (y : Int), .int .i64 (z : Int), .int .i64 1, .int .i64 (1 + (y : Int)), .int .i64 (2 + (y : Int)), .int .i64 (2 + (y : Int) + ((z : Int) + 3) / 4), .int .i64 ((x : Int) - (2 + (y : Int) + ((z : Int) + 3) / 4)), .pointer (some ⟨j, 0, none⟩), .slice none 0 0, .map (some w8.heap.size), .slice none 0 0, .int .i64 cv] 107)) g x y z j (.slice none 0 0) w6.heap.size (.slice none 0 0) cv ∧
      Um.MIs w6.heap.size ((w8.alloc (.map #[] 0)).alloc (.cells #[.pointer (some ⟨g, 0, none⟩), .int .i64 (x : Int), .int .i64 (y : Int), .int .i64 (z : Int), .int .i64 1, .int .i64 (1 + (y : Int)), .int .i64 (2 + (y : Int)), .int .i64 (2 + (y : Int) + ((z : Int) + 3) / 4), .int .i64 ((x : Int) - (2 + (y : Int) + ((z : Int) + 3) / 4)), .pointer (some ⟨j, 0, none⟩), .slice none 0 0, .map (some w8.heap.size), .slice none 0 0, .int .i64 cv] 107)) 0 [] ∧ Below w6.heap.size w6 ((w8.alloc (.map #[] 0)).alloc (.cells #[.pointer (some ⟨g, 0, none⟩), .int .i64 (x : Int), .int .i64 (y : Int), .int .i64 (z : Int), .int .i64 1, .int .i64 (1 + (y : Int)), .int .i64 (2 + (y : Int)), .int .i64 (2 + (y : Int) + ((z : Int) + 3) / 4), .int .i64 ((x : Int) - (2 + (y : Int) + ((z : Int) + 3) / 4)), .pointer (some ⟨j, 0, none⟩), .slice none 0 0, .map (some w8.heap.size), .slice none 0 0, .int .i64 cv] 107)) := by
  have hz : w8.heap.size = w6.heap.size := by rw [hh]; rfl
  have hz2 : (w8.alloc (.map #[] 0)).heap.size = w6.heap.size + 1 := by rw [← hz]; simp
  refine ⟨by rw [hz], ?_, ?_, (hb.next (below_alloc w8 _)).next (below_alloc _ _)⟩
  · rw [← hz2, ← hz]
    exact box_at _ _
  · have hk := Um.MIs.made w8
    rw [hz] at hk
    exact hk.same (Below.heap_alloc _ _ _ (by omega))
end Go.Proofs.YtopebghandojbaaGreat
