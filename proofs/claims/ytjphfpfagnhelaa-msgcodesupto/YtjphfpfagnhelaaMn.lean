import Derived.Test.YtjphfpfagnhelaaMm
import Derived.Test.YtjphfpfagnhelaaFd
namespace Go.Proofs.Ytjphfpfagnhelaa
open Go.RowKit Go.Maps Go.Shelf

/-- a message of the reference in memory -/
def NBox (q : Nat) (w : World) (K V N A C : Int) (sl : Value) : Prop := w.heap[q]? = some (.cells #[.int .i64 K, .int .i64 V, .int .i64 N, .int .i64 A, .int .i64 C, sl] 30 (0, 0))
theorem NBox.cells {q : Nat} {w : World} {K V N A C : Int} {sl : Value} (h : NBox q w K V N A C sl) : w.cell? ⟨q, 0, none⟩ = some (.int .i64 K) ∧ w.cell? ⟨q, 1, none⟩ = some (.int .i64 V) ∧ w.cell? ⟨q, 2, none⟩ = some (.int .i64 N) ∧ w.cell? ⟨q, 3, none⟩ = some (.int .i64 A) ∧ w.cell? ⟨q, 4, none⟩ = some (.int .i64 C) ∧ w.cell? ⟨q, 5, none⟩ = some sl :=
  ⟨cell_at h, cell_at h, cell_at h, cell_at h, cell_at h, cell_at h⟩
theorem load30 {q : Nat} {w : World} {K V N A C : Int} {sl : Value} (h : NBox q w K V N A C sl) : (loadVar 30 ⟨q, 0, none⟩).run Try.prog w = .ok (.agg #[.int .i64 K, .int .i64 V, .int .i64 N, .int .i64 A, .int .i64 C, sl]) w := by
  obtain ⟨c0, c1, c2, c3, c4, c5⟩ := h.cells
  have a30 := Try.isAgg30
  have z30 := Try.sizeOf30
  go_simp
theorem store30 {q : Nat} {w : World} {K V N A C : Int} {sl : Value} {K' V' N' A' C' : Int} {sl' : Value} (h : NBox q w K V N A C sl) (hs1 : sl'.oneCell' = true) : ∃ w', (Instr.storeAt 30 (.pointer (some ⟨q, 0, none⟩)) (.agg #[.int .i64 K', .int .i64 V', .int .i64 N', .int .i64 A', .int .i64 C', sl'])).run Try.prog w = .ok () w' ∧ NBox q w' K' V' N' A' C' sl' ∧ Kept w.heap.size q w w' := by
  have hs := run_storeCells_at Try.prog q 0 30 [.int .i64 K', .int .i64 V', .int .i64 N', .int .i64 A', .int .i64 C', sl'] 0 _ w h (by simp) (by intro v hv; simp at hv; rcases hv with rfl | rfl | rfl | rfl | rfl | rfl <;> first | rfl | exact hs1)
  simp only [List.take_zero, List.nil_append, Nat.zero_add, List.length_cons, List.length_nil] at hs
  rw [List.drop_of_length_le (by simp), List.append_nil] at hs
  refine ⟨w.setRow q [.int .i64 K', .int .i64 V', .int .i64 N', .int .i64 A', .int .i64 C', sl'].toArray, ?_, ?_, ?_⟩
  rotate_left
  · exact setRow_heap w q _ [.int .i64 K', .int .i64 V', .int .i64 N', .int .i64 A', .int .i64 C', sl'].toArray 30 (0, 0) h
  · refine ⟨rfl, rfl, rfl, ?_, fun j _ hj => ?_⟩
    · show w.heap.size ≤ (w.heap.modify q _).size
      rw [Array.size_modify]
      exact Nat.le_refl _
    · show (w.heap.modify q _)[j]? = _
      rw [Array.getElem?_modify, if_neg (fun e => hj e.symm)]
  · have z30 := Try.sizeOf30
    have h2 : (Instr.sureAddr (.pointer (some ⟨q, 0, none⟩))).run Try.prog w = .ok ⟨q, 0, none⟩ w := by simp [Instr.sureAddr]
    simp only [Instr.storeAt, Sem.run_bind, h2, Result.andThen_ok, storeVar, z30, Value.cells]
    simp only [List.size_toArray, List.length_cons, List.length_nil, ne_eq, not_true_eq_false, if_false]
    exact hs

theorem at_store30 {ops : Array Oper} {rest : List Oper} {p x : Operand} {ty : TypeId} {pos : String} {aft : Array Edge} {a : Act} {Q : Exit → Act → World → Prop} {w : World} (q : Nat) {K V N A C : Int} {sl : Value} (K' V' N' A' C' : Int) (sl' : Value) (hp : a.eval p = .pointer (some ⟨q, 0, none⟩)) (hx : a.eval x = .agg #[.int .i64 K', .int .i64 V', .int .i64 N', .int .i64 A', .int .i64 C', sl']) (hb : NBox q w K V N A C sl) (hs : sl'.oneCell' = true)
    (hK : ∀ w', NBox q w' K' V' N' A' C' sl' → Kept w.heap.size q w w' → wpList Try.prog ops Q rest a w') :
    wpList Try.prog ops Q ({ dst := none, op := Op.store 30 p x, type := ty, pos := pos, after := aft, guard := none } :: rest) a w := by
  refine wpList_plain rfl fun K1 hK1 => ?_
  obtain ⟨w', hrun, r1, r2⟩ := store30 (K' := K') (V' := V') (N' := N') (A' := A') (C' := C') hb hs
  unfold Oper.wp
  simp [execOp, hp, hx, hrun, Result.andThen]
  exact hK1 _ _ (hK w' r1 r2)
theorem ret9 {a : Act} {w : World} {R : Nat} {K V N A C : Int} {sl : Value} {post : Ending → World → Prop} (hb : NBox R w K V N A C sl) (h2 : a.tmps.getD 2 undef = .pointer (some ⟨R, 0, none⟩)) (hd : a.defers = []) (hp : post (.returned (.agg #[.int .i64 K, .int .i64 V, .int .i64 N, .int .i64 A, .int .i64 C, sl])) w) : bodyPost Try.prog Try.f9 post .ret a w := by
  refine bodyPost_ret (v := .agg #[.int .i64 K, .int .i64 V, .int .i64 N, .int .i64 A, .int .i64 C, sl]) ?_ hd hp
  simp only [results, show Try.f9.results = #[.cell 2 30] from rfl]
  rw [Array.getD_eq_getD_getElem?] at h2
  simp [h2, asAddr, load30 hb]
set_option maxRecDepth 100000 in
set_option maxHeartbeats 1000000 in
theorem ref_any {w : World} (m : Mg) (h : ELie w m.sl m.es) : Calls Try.prog 9 #[m.v] w fun e w' => e = .returned m.v ∧ Below w.heap.size w w' := by
  obtain ⟨K, V, N, A, C, sl, es⟩ := m
  obtain ⟨sa, sn, sc, hsl⟩ : ∃ a n c, sl = .slice a n c := by obtain ⟨a, c, e, _⟩ := h; exact ⟨a, _, c, e⟩
  subst hsl
  simp only [Mg.v]
  have HN : Hid (NBox (w.heap.size + 1) ((w.alloc (.cells #[.int .i64 K, .int .i64 V, .int .i64 N, .int .i64 A, .int .i64 C, .slice sa sn sc] 24)).alloc (.cells #[.int .i64 0, .int .i64 0, .int .i64 0, .int .i64 0, .int .i64 0, .slice none 0 0] 30)) 0 0 0 0 0 (.slice none 0 0)) := hid (two_new w _ _).1.2
  have HB := hid (two_new w (.cells #[.int .i64 K, .int .i64 V, .int .i64 N, .int .i64 A, .int .i64 C, .slice sa sn sc] 24) (.cells #[.int .i64 0, .int .i64 0, .int .i64 0, .int .i64 0, .int .i64 0, .slice none 0 0] 30)).2
  clear h
  go_enter Try.func9, Try.ntmps9
  go_wp2_with (refine at_store30 (w.heap.size + 1) _ _ _ _ _ _ rfl rfl HN.out rfl ?_; intro w9 m9 k9)
  exact ret9 m9 rfl rfl ⟨rfl, HB.out.2.trans (k9.below HB.out.2.size (by omega))⟩
set_option maxRecDepth 100000 in
set_option maxHeartbeats 2000000 in
theorem same_yes {w : World} (K V N A C : Int) {sl su : Value} {es : List Ent} (h1 : ELie w sl es) (h2 : ELie w su es) : Calls Try.prog 14 #[.agg #[.int .i64 K, .int .i64 V, .int .i64 N, .int .i64 A, .int .i64 C, sl], .agg #[.int .i64 K, .int .i64 V, .int .i64 N, .int .i64 A, .int .i64 C, su]] w fun e w' => e = .returned (.bool true) ∧ Below w.heap.size w w' := by
  have HE : Hid (∀ w', Below w.heap.size w w' → Calls Try.prog 30 #[sl, su] w' fun e w'' => e = .returned (.bool true) ∧ ∃ q, w'' = w'.drewN q) := hid (fun w' hb => by
    have := entries_any (h1.below hb) (h2.below hb)
    rw [decide_eq_true rfl] at this
    exact this)
  have HB := fun o1 o2 => (two_new w o1 o2).2.2
  obtain ⟨sa, sn, sc, hsl⟩ : ∃ a n c, sl = .slice a n c := by obtain ⟨a, c, e, _⟩ := h1; exact ⟨a, _, c, e⟩
  obtain ⟨ua, un, uc, hsu⟩ : ∃ a n c, su = .slice a n c := by obtain ⟨a, c, e, _⟩ := h2; exact ⟨a, _, c, e⟩
  subst hsl
  subst hsu
  have HBB := hid HB
  clear HB h1 h2
  go_enter Try.func14, Try.ntmps14
  go_wp2_with (go_at_call 30; refine (HE.out _ (HBB.out _ _)).mono ?_; rintro e w1 ⟨rfl, q1, rfl⟩)
  go_ret
  exact ⟨rfl, below_dN (HBB.out _ _) _⟩
/-- the message of speaks -/
def m0 : Mg := ⟨3, 2, 0, 0, 0, .slice none 0 0, []⟩
theorem m0_L : mL m0 = [3, 2, 0, 0, 0, 0] := by
  show numL [3, 2, 0, 0, 0, 0] ++ encs [] = _
  simp [numL, encs, uEnc_lo]
theorem m0_E : mE m0 = 0 := by
  unfold mE
  rw [if_pos (by decide), if_pos (show m0.es.all rgt = true from rfl), m0_L, if_pos (by decide)]
theorem m0_S : mS m0 = Cd.sealL [3, 2, 0, 0, 0, 0] := by unfold mS; rw [if_pos m0_E, m0_L]
theorem m0_ok (w : World) : MOk w m0 := ⟨ELie.nil w, fun y hy => by simp [m0] at hy, by simp [m0]⟩
set_option maxRecDepth 100000 in
set_option maxHeartbeats 2000000 in
theorem speaks_any (w : World) : Calls Try.prog 15 #[] w fun e w' => e = .returned (.bool true) ∧ Below w.heap.size w w' := by
  have h1 := enc_any m0 (m0_ok w)
  have h2 := fun w => decode_back m0 (m0_ok w).ok m0_E w
  obtain ⟨z, hz⟩ : ∃ z, z = st (mS m0) := ⟨_, rfl⟩
  rw [← hz, m0_E] at h1
  rw [← hz] at h2
  have hsz : z.size = 10 := by rw [hz, st_size, m0_S, Cd.sealL_len]; rfl
  have hsl : ∀ w, (Instr.slice 9 (.string z) none (some (.int .i64 6)) none).run Try.prog w = .ok (.string ⟨#[3, 2, 0, 0, 0, 0]⟩) w := fun w => by
    have := run_slice_string_h w 9 z Try.underlying9 .i64 6 (by omega) (by omega)
    rw [this]
    have e : z.extract 0 6 = st [3, 2, 0, 0, 0, 0] := by
      rw [← st_toList (z.extract 0 6), Cd.ext_head, hz, st_list, m0_S]
      rfl
    rw [show (6 : Int).toNat = 6 from rfl, e]
    rfl
  simp only [Mg.v, m0] at h1 h2
  have H1 := hid h1
  have H2 := hid h2
  clear h1 h2 hz
  go_enter Try.func15, Try.ntmps15
  go_wp2_with (first | (go_at_call 7; refine H1.out.mono ?_; rintro e w1 ⟨rfl, b1⟩; have B1 := hid b1; clear b1) | (go_at_call 10; refine (H2.out _).mono ?_; rintro e w2 ⟨⟨sl, rfl, hl⟩, b2⟩; obtain ⟨sa, sn, sc, hsl2⟩ : ∃ a n c, sl = .slice a n c := (by obtain ⟨a, c, e, _⟩ := hl; exact ⟨a, _, c, e⟩); subst hsl2; have B2 := hid b2; clear b2 hl))
  go_ret
  exact ⟨rfl, (B1.out.next B2.out).next (below_alloc _ _)⟩
end Go.Proofs.Ytjphfpfagnhelaa
