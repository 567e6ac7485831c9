import Derived.Test.YtfjoajcfpldniaaAr
import Derived.Shelf.SlicesQ.Load
namespace Go.Proofs.Ytfjoajcfpldniaa
open Go.RowKit Go.Maps

theorem load53 {w : World} {a : Nat} {cur : Array Value} (h : w.heap[a]? = some (.cells cur 53 (0, 0))) (hs : cur.size = 1024) : Sem.run Try.prog (loadCellsFrom ⟨a, 0, none⟩ 0 1024 #[]) w = .ok cur w := by
  have := run_loadCellsFrom_list Try.prog w ⟨a, 0, none⟩ cur.toList 1024 (by rw [Array.length_toList]; exact hs) (fun j v hj => by
    have e : (⟨a, 0, none⟩ : Addr).add j = ⟨a, j, none⟩ := by unfold Addr.add; split <;> simp_all
    rw [e, cell_of h]
    rw [Array.getElem?_toList] at hj
    exact hj)
  simpa using this
theorem load53_at {w : World} {a : Nat} {cur : Array Value} (h : w.heap[a]? = some (.cells cur 53 (0, 0))) (hs : cur.size = 1024) : (Instr.loadAt 53 (.pointer (some ⟨a, 0, none⟩))).run Try.prog w = .ok (.agg cur) w := by
  have h1 := load53 h hs
  have h2 : (Instr.sureAddr (.pointer (some ⟨a, 0, none⟩))).run Try.prog w = .ok ⟨a, 0, none⟩ w := by simp [Instr.sureAddr]
  simp only [Instr.loadAt, Sem.run_bind, h2, Result.andThen_ok, loadVar, Try.isAgg53, if_true, Try.sizeOf53, loadCells, h1, Sem.run_pure]
theorem eq53 {cur : Array Value} (hc : ∀ i, i < 1024 → ∃ s, cur[i]? = some (.string s)) (D : Nat) (hD : ∀ s (w : World), (Op.equalIn D 9 (.string s) (.string s)).run Try.prog w = .ok true w) (w : World) : (Op.equalIn (D + 1) 53 (.agg cur) (.agg cur)).run Try.prog w = .ok true w := by
  have hp : ∀ i, i < 1024 → ∃ s, ∀ w : World, (part 9 cur (i * 1)).run Try.prog w = .ok (.string s) w := by
    intro i hi
    obtain ⟨s, hs⟩ := hc i hi
    refine ⟨s, fun w => ?_⟩
    unfold part
    rw [Nat.mul_one]
    simp [Try.isAgg9, hs]
  simp only [Op.equalIn, Sem.run_bind, run_underlying Try.underlying53, Result.andThen_ok, Try.sizeOf9]
  rw [Std.Legacy.Range.forIn_eq_forIn_range']
  have key : ∀ (ks : List Nat), (∀ i ∈ ks, i < 1024) → ∀ w : World, (Sem.run Try.prog (forIn ks ((none : Option Bool), ()) fun i __s => do
      let x ← part 9 cur (i * 1)
      let y ← part 9 cur (i * 1)
      let r ← Op.equalIn D 9 x y
      if (!r) = true then pure (ForInStep.done (some false, ())) else pure (ForInStep.yield (none, ()))) w) = .ok (none, ()) w := by
    intro ks
    induction ks with
    | nil => intro _ w; simp
    | cons i ks ih =>
      intro h w
      obtain ⟨s, hs⟩ := hp i (h i (by simp))
      rw [List.forIn_cons]
      simp only [Sem.run_bind, hs, Result.andThen_ok, hD, Bool.not_true, Bool.false_eq_true, if_false, Sem.run_pure]
      exact ih (fun x hx => h x (by simp [hx])) w
  rw [key _ (fun i hi => by
    have h1 := List.mem_range'.1 hi
    obtain ⟨j, hj, rfl⟩ := h1
    have hz : ([:1024] : Std.Legacy.Range).size = 1024 := by decide
    rw [hz] at hj
    show 0 + 1 * j < 1024
    omega) w]
  simp
theorem eq53_go {cur : Array Value} (hc : ∀ i, i < 1024 → ∃ s, cur[i]? = some (.string s)) (w : World) : (Op.equalIn 10000 53 (.agg cur) (.agg cur)).run Try.prog w = .ok true w :=
  eq53 hc 9999 (fun s w => by rw [run_equalIn_string w 9998 9 s s Try.underlying9]; simp) w
end Go.Proofs.Ytfjoajcfpldniaa
