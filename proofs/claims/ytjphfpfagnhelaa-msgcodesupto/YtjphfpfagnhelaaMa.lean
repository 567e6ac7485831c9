import Derived.Test.YtjphfpfagnhelaaWr
import Derived.Defers
import Derived.Recover
import Derived.Laws.Pointers
namespace Go.Proofs.Ytjphfpfagnhelaa
open Go.RowKit Go.Maps

/-- what gives up -/
def brk (e : Int) : PanicEntry := { v := .iface 68 (.agg #[.int .i64 e]), recovered := false }
theorem need_ok (e : Int) (w : World) : Calls Try.prog 32 #[.bool true, .int .i64 e] w fun x w' => x = .returned (.tuple #[]) ∧ w' = w := by
  have hnot : ∀ (x : Bool) (w : World), (Op.unary .not (.bool x)).run Try.prog w = .ok (.bool (!x)) w := fun _ _ => rfl
  go_enter Try.func32, Try.ntmps32
  go_wp2
  first | go_end0 | refine bodyPost_ret (results_none rfl _ _ _) rfl ?_
  exact ⟨rfl, rfl⟩
theorem need_no (e : Int) (w : World) : Calls Try.prog 32 #[.bool false, .int .i64 e] w fun x w' => x = .panicked [brk e] ∧ w' = w := by
  have hnot : ∀ (x : Bool) (w : World), (Op.unary .not (.bool x)).run Try.prog w = .ok (.bool (!x)) w := fun _ _ => rfl
  go_enter Try.func32, Try.ntmps32
  go_wp2
  exact ⟨rfl, rfl, rfl⟩

theorem catch_idle (p : Addr) (w : World) :
    CallsD Try.prog 31 #[.pointer (some p)] .returning w fun e u' w' => e = .returned (.tuple #[]) ∧ u' = .returning ∧ w' = w := by
  refine callsD_of_wpS Try.func31 rfl fun c₀ cs hu => ?_
  apply wpS_seq
  apply wpS_region
  simp [wpOpsS, go_sem, recoverD, hu, Try.ntmps31, Exit.thenS]
  refine wpS_of_wp ?_
  simp only [Array.replicate, List.replicate]
  simp
  go_wp2
  cases c₀
  simp_all [bodyPostS, results, Try.results31]
set_option maxRecDepth 100000 in
theorem catch_panicking (g : Nat) (x e : Int) (older : List PanicEntry) (w : World) (hc : w.cell? ⟨g, 0, none⟩ = some (.int .i64 x)) (hz : w.frozen? ⟨g, 0, none⟩ = false) (hp : g < w.heap.size) :
    CallsD Try.prog 31 #[.pointer (some ⟨g, 0, none⟩)] (.panicking (brk e :: older)) w fun r u' w' =>
      r = .returned (.tuple #[]) ∧ u' = .panicking ({ brk e with recovered := true } :: older) ∧ w' = (w.setCell ⟨g, 0, none⟩ (.int .i64 e)).alloc (.cells #[.int .i64 e] 68) := by
  have hnot : ∀ (x : Bool) (w : World), (Op.unary .not (.bool x)).run Try.prog w = .ok (.bool (!x)) w := fun _ _ => rfl
  have hta : ∀ (e : Int) (w : World), (Instr.typeAssert (.iface 68 (.agg #[.int .i64 e])) 20 68 true).run Try.prog w = .ok (.tuple #[.agg #[.int .i64 e], .bool true]) w := fun _ _ => by rfl
  have hc2 : ∀ o, (w.alloc o).cell? ⟨g, 0, none⟩ = some (.int .i64 x) := fun o => by rw [World.cell?_alloc_past _ _ _ hp]; exact hc
  have hz2 : ∀ o, (w.alloc o).frozen? ⟨g, 0, none⟩ = false := fun o => by
    rw [← hz]; unfold World.frozen?
    simp only [show (w.alloc o).heap[g]? = w.heap[g]? from by show (w.heap.push o)[g]? = _; rw [Array.getElem?_push, if_neg (by omega)]]
  refine callsD_of_wpS Try.func31 rfl fun c₀ cs hu => ?_
  apply wpS_seq
  apply wpS_region
  simp [wpOpsS, go_sem, recoverD, hu, Try.ntmps31, Exit.thenS, brk]
  refine wpS_of_wp ?_
  simp only [Array.replicate, List.replicate]
  simp
  go_wp2
  simp [bodyPostS, results, Try.results31]
theorem attempt_ok {K : Nat} {caps : Array Value} {w : World} {Q : World → Prop} (hk : ∀ w, (callFunc K caps).run Try.prog w = .ok (.enter K caps) w) (h : Calls Try.prog K caps (w.alloc (.cells #[.int .i64 0] 25)) fun x w' => x = .returned (.tuple #[]) ∧ w'.heap[w.heap.size]? = some (.cells #[.int .i64 0] 25 (0, 0)) ∧ Q w') :
    Calls Try.prog 16 #[.func (.func K) #[] caps] w fun x w'' => x = .returned (.int .i64 0) ∧ ∃ w', Q w' ∧ w'' = w'.setCell ⟨w.heap.size, 0, none⟩ (.int .i64 0) := by
  have hmf : ∀ (fn : Fn) (first cap : Array Value) (w : World), (Instr.makeFunc fn first cap).run Try.prog w = .ok (.func fn first cap) w := fun _ _ _ _ => rfl
  go_enter_defers Try.func16, Try.ntmps16
  go_wp2
  refine h.mono ?_
  rintro x w' ⟨rfl, hb, hq⟩
  have c0 : w'.cell? ⟨w.heap.size, 0, none⟩ = some (.int .i64 0) := by simp [World.cell?, hb]
  have z0 : w'.frozen? ⟨w.heap.size, 0, none⟩ = false := by simp [World.frozen?, hb]
  clear h
  go_wp2
  refine leaves_cons (f := 31) (args := #[.pointer (some ⟨w.heap.size, 0, none⟩)]) (by simp) (by simp [go_sem]) ?_
  refine (catch_idle ⟨w.heap.size, 0, none⟩ _).mono ?_
  rintro e u' w'' ⟨rfl, rfl, rfl⟩
  have c1 : (w'.setCell ⟨w.heap.size, 0, none⟩ (.int .i64 0)).cell? ⟨w.heap.size, 0, none⟩ = some (.int .i64 0) := World.cell?_setCell_same _ _ _ c0
  simp [Leaves, settle, results, Try.results16, go_sem, c1]
  exact ⟨_, hq, rfl⟩
theorem attempt_no {K : Nat} {caps : Array Value} {w : World} {Q : World → Prop} {e : Int} (hk : ∀ w, (callFunc K caps).run Try.prog w = .ok (.enter K caps) w) (h : Calls Try.prog K caps (w.alloc (.cells #[.int .i64 0] 25)) fun x w' => x = .panicked [brk e] ∧ w'.heap[w.heap.size]? = some (.cells #[.int .i64 0] 25 (0, 0)) ∧ Q w') :
    Calls Try.prog 16 #[.func (.func K) #[] caps] w fun x w'' => x = .returned (.int .i64 e) ∧ ∃ w', Q w' ∧ w'' = (w'.setCell ⟨w.heap.size, 0, none⟩ (.int .i64 e)).alloc (.cells #[.int .i64 e] 68) := by
  have hmf : ∀ (fn : Fn) (first cap : Array Value) (w : World), (Instr.makeFunc fn first cap).run Try.prog w = .ok (.func fn first cap) w := fun _ _ _ _ => rfl
  go_enter_defers Try.func16, Try.ntmps16
  go_wp2
  refine h.mono ?_
  rintro x w' ⟨rfl, hb, hq⟩
  have c0 : w'.cell? ⟨w.heap.size, 0, none⟩ = some (.int .i64 0) := by simp [World.cell?, hb]
  have z0 : w'.frozen? ⟨w.heap.size, 0, none⟩ = false := by simp [World.frozen?, hb]
  have l0 : w.heap.size < w'.heap.size := lt_of_block hb
  clear h
  go_wp2
  refine leaves_cons (f := 31) (args := #[.pointer (some ⟨w.heap.size, 0, none⟩)]) (by simp) (by simp [go_sem]) ?_
  refine (catch_panicking w.heap.size 0 e [] _ c0 z0 l0).mono ?_
  rintro e' u' w'' ⟨rfl, rfl, rfl⟩
  have c1 : ((w'.setCell ⟨w.heap.size, 0, none⟩ (.int .i64 e)).alloc (.cells #[.int .i64 e] 68)).cell? ⟨w.heap.size, 0, none⟩ = some (.int .i64 e) := by
    rw [World.cell?_alloc_past _ _ _ (by show w.heap.size < (w'.heap.modify _ _).size; rw [Array.size_modify]; exact l0)]
    exact World.cell?_setCell_same _ _ _ c0
  simp [Leaves, settle, results, Try.results16, go_sem, c1]
  exact ⟨_, hq, rfl⟩
end Go.Proofs.Ytjphfpfagnhelaa
