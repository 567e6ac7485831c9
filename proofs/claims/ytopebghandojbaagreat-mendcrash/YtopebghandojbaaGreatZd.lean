import Derived.Test.YtopebghandojbaaGreatZc
import Derived.Test.YtopebghandojbaaGreatZm
namespace Go.Proofs.YtopebghandojbaaGreat
open Go.RowKit Go.Maps

/-- a store's own block: its device, its shape, its regions, its journal, its acts, its map, its changes under way, its count -/
def stC (g x y z j : Nat) (av : Value) (m : Nat) (uv : Value) (c : Int) : Array Value :=
  #[.pointer (some ⟨g, 0, none⟩), .int .i64 (x : Int), .int .i64 (y : Int), .int .i64 (z : Int), .int .i64 1, .int .i64 (1 + (y : Int)), .int .i64 (2 + (y : Int)), .int .i64 (2 + (y : Int) + ((z : Int) + 3) / 4), .int .i64 ((x : Int) - (2 + (y : Int) + ((z : Int) + 3) / 4)), .pointer (some ⟨j, 0, none⟩), av, .map (some m), uv, .int .i64 c]
def StIs (s : Nat) (w : World) (g x y z j : Nat) (av : Value) (m : Nat) (uv : Value) (c : Int) : Prop := w.heap[s]? = some (.cells (stC g x y z j av m uv c) 107 (0, 0))
theorem StIs.cell {s : Nat} {w : World} {g x y z j : Nat} {av : Value} {m : Nat} {uv : Value} {c : Int} (h : StIs s w g x y z j av m uv c) (i : Nat) : w.cell? ⟨s, i, none⟩ = (stC g x y z j av m uv c)[i]? := by
  unfold StIs at h; simp [World.cell?, h]
theorem StIs.free {s : Nat} {w : World} {g x y z j : Nat} {av : Value} {m : Nat} {uv : Value} {c : Int} (h : StIs s w g x y z j av m uv c) (i : Nat) : w.frozen? ⟨s, i, none⟩ = false := by
  unfold StIs at h; simp [World.frozen?, h]
theorem StIs.lt {s : Nat} {w : World} {g x y z j : Nat} {av : Value} {m : Nat} {uv : Value} {c : Int} (h : StIs s w g x y z j av m uv c) : s < w.heap.size := lt_of_block h
theorem StIs.below {s : Nat} {w w' : World} {g x y z j : Nat} {av : Value} {m : Nat} {uv : Value} {c : Int} (h : StIs s w g x y z j av m uv c) (k : Below w.heap.size w w') : StIs s w' g x y z j av m uv c := (k.block s h.lt).trans h
theorem StIs.only {s : Nat} {w w' : World} {g x y z j : Nat} {av : Value} {m : Nat} {uv : Value} {c : Int} {fp : List Nat} (h : StIs s w g x y z j av m uv c) (k : Dv.Only fp w w') (hs : s ∉ fp) : StIs s w' g x y z j av m uv c := (k.block s h.lt hs).trans h
theorem StIs.set {s : Nat} {w : World} {g x y z j : Nat} {av : Value} {m : Nat} {uv : Value} {c : Int} (h : StIs s w g x y z j av m uv c) (i : Nat) (v : Value) : (w.setCell ⟨s, i, none⟩ v).heap[s]? = some (.cells ((stC g x y z j av m uv c).set! i v) 107 (0, 0)) := cells_set h v
theorem StIs.acts {s : Nat} {w : World} {g x y z j : Nat} {av : Value} {m : Nat} {uv : Value} {c : Int} (h : StIs s w g x y z j av m uv c) (v : Value) : StIs s (w.setCell ⟨s, 10, none⟩ v) g x y z j v m uv c := h.set 10 v
theorem StIs.under {s : Nat} {w : World} {g x y z j : Nat} {av : Value} {m : Nat} {uv : Value} {c : Int} (h : StIs s w g x y z j av m uv c) (v : Value) : StIs s (w.setCell ⟨s, 12, none⟩ v) g x y z j av m v c := h.set 12 v
theorem StIs.count {s : Nat} {w : World} {g x y z j : Nat} {av : Value} {m : Nat} {uv : Value} {c : Int} (h : StIs s w g x y z j av m uv c) (v : Int) : StIs s (w.setCell ⟨s, 13, none⟩ (.int .i64 v)) g x y z j av m uv v := h.set 13 (.int .i64 v)
set_option maxRecDepth 100000 in
theorem snone_nil (w : World) : Calls Tryz.prog 62 #[.pointer none] w fun e w' => e = .returned (.bool true) ∧ w' = w := by
  go_enter Tryz.func62, Tryz.ntmps62
  go_wp2
  go_ret
  exact ⟨rfl, rfl⟩
set_option maxRecDepth 100000 in
theorem snone_any {s : Nat} {g x y z j : Nat} {av : Value} {m : Nat} {uv : Value} {c : Int} (w : World) (h : StIs s w g x y z j av m uv c) : Calls Tryz.prog 62 #[.pointer (some ⟨s, 0, none⟩)] w fun e w' => e = .returned (.bool false) ∧ w' = w := by
  have c0 := h.cell 0
  simp only [stC, List.getElem?_toArray, List.getElem?_cons_zero] at c0
  clear h
  go_enter Tryz.func62, Tryz.ntmps62
  go_wp2
  go_ret
  exact ⟨rfl, rfl⟩
set_option maxRecDepth 100000 in
theorem busy_nil (w : World) : Calls Tryz.prog 21 #[.pointer none] w fun e w' => e = .returned (.bool false) ∧ w' = w := by
  go_enter Tryz.func21, Tryz.ntmps21
  go_wp2_with (first | (go_at_call 62; refine (snone_nil _).mono ?_; rintro e w1 ⟨rfl, hw⟩; have hw := hw.symm; subst hw))
  go_ret
  exact ⟨rfl, rfl⟩
set_option maxRecDepth 100000 in
theorem busy_any {s : Nat} {g x y z j : Nat} {ao : Option Addr} {n cap : Nat} {m : Nat} {uv : Value} {c : Int} (w : World) (h : StIs s w g x y z j (.slice ao n cap) m uv c) : Calls Tryz.prog 21 #[.pointer (some ⟨s, 0, none⟩)] w fun e w' => e = .returned (.bool (decide (0 < n))) ∧ w' = w := by
  have HN := hid (snone_any w h)
  have c10 : w.cell? ⟨s, 10, none⟩ = some (.slice ao n cap) := (h.cell 10).trans rfl
  clear h
  go_enter Tryz.func21, Tryz.ntmps21
  go_wp2_with (first | (go_at_call 62; refine HN.out.mono ?_; rintro e w1 ⟨rfl, hw⟩; have hw := hw.symm; subst hw))
  go_ret
  refine ⟨?_, rfl⟩
  by_cases h0 : 0 < n
  · simp [h0]
  · simp [h0]
set_option maxRecDepth 100000 in
theorem lay_none {s : Nat} {g x y z j : Nat} {av : Value} {m : Nat} {uv : Value} {c : Int} {r : Option Nat} {P : Int} {T F : Nat} {l : List Int} (hP : 0 < P) (w : World) (h : StIs s w g x y z j av m uv c) (hj : JS j r w P T F 0 l) : Calls Tryz.prog 56 #[.pointer (some ⟨s, 0, none⟩)] w fun e w' => e = .returned (.tuple #[]) ∧ ∃ q, w' = w.drewN q := by
  have c9 : w.cell? ⟨s, 9, none⟩ = some (.pointer (some ⟨j, 0, none⟩)) := (h.cell 9).trans rfl
  have HC := hid (jcount j r P T F 0 l hP w hj)
  clear h hj
  go_enter Tryz.func56, Tryz.ntmps56
  go_wp2_with (first | (go_at_call 102; refine HC.out.mono ?_; rintro e w1 ⟨rfl, q, hw⟩; have hw := hw.symm; subst hw))
  (try simp only [Exit.inBlock, Exit.then]); refine bodyPost_ret (results_none rfl _ _ _) rfl ?_
  exact ⟨rfl, q, rfl⟩
end Go.Proofs.YtopebghandojbaaGreat
