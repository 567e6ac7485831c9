import Derived.Test.YtopebghandojbaaGreatJh
import Derived.Test.YtopebghandojbaaGreatTk
namespace Go.Proofs.YtopebghandojbaaGreat
open Go.RowKit Go.Maps
set_option maxRecDepth 100000 in
theorem jcount (g : Nat) (r : Option Nat) (P : Int) (T F S : Nat) (l : List Int) (hP : 0 < P) (w : World) (h : JS g r w P T F S l) : Calls Tryz.prog 102 #[.pointer (some ⟨g, 0, none⟩)] w fun e w' => e = .returned (.tuple #[.int .i64 l.length, .int .i64 S]) ∧ ∃ q, w' = w.drewN q := by
  obtain ⟨sv, hr, h1, h2⟩ := h
  obtain ⟨ao, cap, rfl, hlc, hcm⟩ := h2.len
  exact count_any g P T F S ao l.length cap hP w h1
set_option maxRecDepth 100000 in
theorem jnext (g : Nat) (r : Option Nat) (P : Int) (T F S : Nat) (l : List Int) (hP : 0 < P) (hl : l.length ≤ 300) (hF : F ≤ 1099511628000) (w : World) (h : JS g r w P T F S l) : Calls Tryz.prog 54 #[.pointer (some ⟨g, 0, none⟩)] w fun e w' => e = .returned (.int .i64 ((F : Int) + l.length)) ∧ ∃ q, w' = w.drewN q := by
  obtain ⟨sv, hr, h1, h2⟩ := h
  obtain ⟨ao, cap, rfl, hlc, hcm⟩ := h2.len
  exact next_any g P T F S ao l.length cap hl (by omega) (by omega) hP w h1
set_option maxRecDepth 100000 in
theorem jfree (g : Nat) (r : Option Nat) (P : Int) (T F S : Nat) (l : List Int) (hP : 0 < P) (hP2 : P ≤ 300) (hn : ∀ x ∈ l, 0 ≤ x) (hs : sumI l ≤ P) (w : World) (h : JS g r w P T F S l) : Calls Tryz.prog 64 #[.pointer (some ⟨g, 0, none⟩)] w fun e w' => e = .returned (.int .i64 (P - sumI l)) ∧ ∃ q, w' = w.drewN q := by
  obtain ⟨sv, hr, h1, h2⟩ := h
  exact free_any g P T F S sv l hn hs hP hP2 w h1 h2.lie
set_option maxRecDepth 100000 in
theorem jheader (g : Nat) (r : Option Nat) (P : Int) (T F S : Nat) (l : List Int) (hP : 0 < P) (hT : T < 65536) (hF : F + S ≤ 9223372036854775807) (w : World) (h : JS g r w P T F S l) : Calls Tryz.prog 45 #[.pointer (some ⟨g, 0, none⟩)] w fun e w' => e = .returned (.string (hdB T F (F + S))) ∧ Below w.heap.size w w' := by
  obtain ⟨sv, hr, h1, h2⟩ := h
  exact header_any g P T F S sv hP hT hF w h1
set_option maxRecDepth 100000 in
theorem JS.drew {g : Nat} {r : Option Nat} {w : World} {P : Int} {T F S : Nat} {l : List Int} (h : JS g r w P T F S l) (q : Nat) : JS g r (w.drewN q) P T F S l := h
set_option maxRecDepth 100000 in
theorem JFr.drew {g : Nat} {r : Option Nat} {w w' : World} (h : JFr g r w w') (q : Nat) : JFr g r w (w'.drewN q) := ⟨h.os, h.tape, h.output, h.size, h.block⟩
set_option maxRecDepth 100000 in
theorem CLie.one (w : World) (b : Int) (d : ByteArray) : CLie (w.alloc (.cells #[.int .i64 b, .string d] 94)) (.slice (some ⟨w.heap.size, 0, none⟩) 1 1) [⟨b, d⟩] := by
  refine ⟨_, _, rfl, Nat.le_refl _, by decide, fun i hi => ⟨w.heap.size, 0, rfl, by simp, ?_⟩⟩
  match i, hi with
  | 0, _ => exact two_cells (box_at w _)
set_option maxRecDepth 100000 in
theorem cell_of {w : World} {g : Nat} {cs : Array Value} {t : TypeId} (hh : w.heap[g]? = some (.cells cs t (0, 0))) (i : Nat) : w.cell? ⟨g, i, none⟩ = cs[i]? := by simp [World.cell?, hh]
end Go.Proofs.YtopebghandojbaaGreat
