import Derived.Test.YtjphfpfagnhelaaMf
namespace Go.Proofs.Ytjphfpfagnhelaa
open Go.RowKit Go.Maps Go.Shelf

/-- the numbers of a message's bytes, the bytes without their sum, what Encode tells -/
def mNums (m : Mg) : List Nat := [m.K.toNat, m.V.toNat, m.N.toNat, m.A.toNat, m.C.toNat, m.es.length]
def mL (m : Mg) : List UInt8 := numL (mNums m) ++ encs m.es
def mE (m : Mg) : Int := if (hdB m.K m.V m.N m.A m.C && !fallsB m.es) = true then (if m.es.all rgt = true then (if (mL m).length + 4 ≤ 60000 then 0 else 2) else 4) else 4
def mS (m : Mg) : List UInt8 := if mE m = 0 then Cd.sealL (mL m) else []
/-- a message that lies in memory, of no more than two million entries -/
structure MOk (w : World) (m : Mg) : Prop where
  lie : ELie w m.sl m.es
  ok : ∀ y ∈ m.es, y.Ok
  few : m.es.length ≤ 2000000
theorem MOk.below {w w' : World} {m : Mg} (h : MOk w m) (k : Below w.heap.size w w') : MOk w' m := ⟨h.lie.below k, h.ok, h.few⟩
theorem hdB_parts {K V N A C : Int} (h : hdB K V N A C = true) : (1 ≤ K ∧ K ≤ 7) ∧ (0 ≤ V ∧ V ≤ 1099511627776) ∧ (0 ≤ N ∧ N ≤ 1099511627776) ∧ (0 ≤ A ∧ A ≤ 1099511627776) ∧ (0 ≤ C ∧ C ≤ 1099511627776) := by
  unfold hdB nB at h
  simp only [Bool.and_eq_true, decide_eq_true_eq] at h
  omega
theorem mE_cases (m : Mg) : ((hdB m.K m.V m.N m.A m.C && !fallsB m.es) = false ∧ mE m = 4) ∨ ((hdB m.K m.V m.N m.A m.C && !fallsB m.es) = true ∧ m.es.all rgt = false ∧ mE m = 4) ∨ ((hdB m.K m.V m.N m.A m.C && !fallsB m.es) = true ∧ m.es.all rgt = true ∧ 60000 < (mL m).length + 4 ∧ mE m = 2) ∨ ((hdB m.K m.V m.N m.A m.C && !fallsB m.es) = true ∧ m.es.all rgt = true ∧ (mL m).length + 4 ≤ 60000 ∧ mE m = 0) := by
  unfold mE
  cases h1 : (hdB m.K m.V m.N m.A m.C && !fallsB m.es) with
  | false => exact .inl ⟨rfl, by simp⟩
  | true =>
    cases h2 : m.es.all rgt with
    | false => exact .inr (.inl ⟨rfl, rfl, by simp⟩)
    | true =>
      by_cases h3 : (mL m).length + 4 ≤ 60000
      · exact .inr (.inr (.inr ⟨rfl, rfl, h3, by simp [h3]⟩))
      · exact .inr (.inr (.inl ⟨rfl, rfl, by omega, by simp [h3]⟩))
theorem write_any {w : World} (m : Mg) (h : MOk w m) : Calls Try.prog 18 #[m.v] w fun e w' => (mE m = 0 → e = .returned (.string (st (mS m)))) ∧ (mE m ≠ 0 → e = .panicked [brk (mE m)]) ∧ Below w.heap.size w w' := by
  rcases mE_cases m with ⟨h1, e1⟩ | h1
  · refine (write_bad m h.lie h1).mono ?_
    rintro e w' ⟨rfl, b⟩
    exact ⟨fun k => by omega, fun _ => by rw [e1], b⟩
  · have hh : (hdB m.K m.V m.N m.A m.C && !fallsB m.es) = true := by rcases h1 with h1 | h1 | h1 <;> exact h1.1
    obtain ⟨⟨k1, k2⟩, ⟨v1, v2⟩, ⟨n1, n2⟩, ⟨a1, a2⟩, ⟨c1, c2⟩⟩ := hdB_parts (by rw [Bool.and_eq_true] at hh; exact hh.1)
    have eK : ((m.K.toNat : Nat) : Int) = m.K := by omega
    have eV : ((m.V.toNat : Nat) : Int) = m.V := by omega
    have eN : ((m.N.toNat : Nat) : Int) = m.N := by omega
    have eA : ((m.A.toNat : Nat) : Int) = m.A := by omega
    have eC : ((m.C.toNat : Nat) : Int) = m.C := by omega
    have hw := write_go m.K.toNat m.V.toNat m.N.toNat m.A.toNat m.C.toNat m.es.length m.sl m.es h.lie h.ok h.few rfl (by omega) (by omega) (by omega) (by omega) (by omega) (by rw [eK, eV, eN, eA, eC]; exact hh)
    rw [eK, eV, eN, eA, eC] at hw
    have hlen : (mL m).length = (numL [m.K.toNat, m.V.toNat, m.N.toNat, m.A.toNat, m.C.toNat, m.es.length]).length + (encs m.es).length := by unfold mL mNums; rw [List.length_append]
    refine hw.mono ?_
    rintro e w' ⟨p1, p2, p3, b⟩
    rcases h1 with ⟨_, h2, e1⟩ | ⟨_, h2, h3, e1⟩ | ⟨_, h2, h3, e1⟩
    · exact ⟨fun k => by omega, fun _ => by rw [p1 h2, e1], b⟩
    · exact ⟨fun k => by omega, fun _ => by rw [p2 h2 (by omega), e1], b⟩
    · refine ⟨fun _ => ?_, fun k => by omega, b⟩
      rw [p3 h2 (by omega)]
      unfold mS
      rw [if_pos e1]
      rfl
theorem calls17 (a : Array Value) (w : World) : (callFunc 17 a).run Try.prog w = .ok (.enter 17 a) w := by simp [go_sem]
theorem mg_sl {w : World} {m : Mg} (h : MOk w m) : ∃ a n c, m.sl = .slice a n c := by obtain ⟨a, c, e, _⟩ := h.lie; exact ⟨a, _, c, e⟩
set_option maxRecDepth 100000 in
theorem enc1_ok {w : World} {b1 b2 : Nat} {m : Mg} (h : MOk w m) (h1 : MBox b1 w m.K m.V m.N m.A m.C m.sl) (h2 : w.heap[b2]? = some (.cells #[.string ⟨#[]⟩] 9 (0, 0))) (he : mE m = 0) :
    Calls Try.prog 17 #[.pointer (some ⟨b1, 0, none⟩), .pointer (some ⟨b2, 0, none⟩)] w fun e w' => e = .returned (.tuple #[]) ∧ ∃ w1, Below w.heap.size w w1 ∧ w' = w1.setCell ⟨b2, 0, none⟩ (.string (st (mS m))) := by
  have HE := hid (write_any m h)
  obtain ⟨sa, sn, sc, hsl⟩ := mg_sl h
  have HA := hid he
  have H2 := hid h2
  have HB := hid (lt_of_block h2)
  clear he h2 h
  obtain ⟨z, hz⟩ : ∃ z, z = st (mS m) := ⟨_, rfl⟩
  rw [← hz] at HE ⊢
  clear hz
  obtain ⟨er, her⟩ : ∃ er, er = mE m := ⟨_, rfl⟩
  rw [← her] at HE HA
  clear her
  obtain ⟨K, V, N, A, C, sl, es⟩ := m
  simp only [] at hsl h1
  subst hsl
  obtain ⟨c0, c1, c2, c3, c4, c5⟩ := h1.cells
  simp only [Mg.v] at HE
  clear h1
  go_enter Try.func17, Try.ntmps17
  go_wp2_with (go_at_call 18; fail)
  refine HE.out.mono ?_
  rintro e w1 ⟨k1, _, b1⟩
  obtain rfl := k1 HA.out
  have d2 : w1.heap[b2]? = some (.cells #[.string ⟨#[]⟩] 9 (0, 0)) := (b1.block b2 HB.out).trans H2.out
  have d0 : w1.cell? ⟨b2, 0, none⟩ = some (.string ⟨#[]⟩) := cell_at d2
  have z0 : w1.frozen? ⟨b2, 0, none⟩ = false := free_at d2 0
  clear k1 d2
  go_wp2
  go_end0
  exact ⟨rfl, w1, b1, rfl⟩
set_option maxRecDepth 100000 in
theorem enc1_no {w : World} {b1 : Nat} {p : Value} {m : Mg} (h : MOk w m) (h1 : MBox b1 w m.K m.V m.N m.A m.C m.sl) (he : mE m ≠ 0) :
    Calls Try.prog 17 #[.pointer (some ⟨b1, 0, none⟩), p] w fun e w' => e = .panicked [brk (mE m)] ∧ Below w.heap.size w w' := by
  have HE := hid (write_any m h)
  obtain ⟨sa, sn, sc, hsl⟩ := mg_sl h
  have HA := hid he
  clear he h
  obtain ⟨z, hz⟩ : ∃ z, z = st (mS m) := ⟨_, rfl⟩
  rw [← hz] at HE
  clear hz
  obtain ⟨er, her⟩ : ∃ er, er = mE m := ⟨_, rfl⟩
  rw [← her] at HE HA ⊢
  clear her
  obtain ⟨K, V, N, A, C, sl, es⟩ := m
  simp only [] at hsl h1
  subst hsl
  obtain ⟨c0, c1, c2, c3, c4, c5⟩ := h1.cells
  simp only [Mg.v] at HE
  clear h1
  go_enter Try.func17, Try.ntmps17
  go_wp2_with (go_at_call 18; fail)
  refine HE.out.mono ?_
  rintro e w1 ⟨_, k1, b1⟩
  obtain rfl := k1 HA.out
  clear k1
  go_wp2
  exact ⟨rfl, rfl, b1⟩
set_option maxRecDepth 100000 in
set_option maxHeartbeats 1000000 in
theorem enc_any {w : World} (m : Mg) (h : MOk w m) : Calls Try.prog 7 #[m.v] w fun e w' => e = .returned (.tuple #[.string (st (mS m)), .int .i64 (mE m)]) ∧ Below w.heap.size w w' := by
  have hmf : ∀ (fn : Fn) (first cap : Array Value) (w : World), (Instr.makeFunc fn first cap).run Try.prog w = .ok (.func fn first cap) w := fun _ _ _ _ => rfl
  have HV := hid h
  obtain ⟨sa, sn, sc, hsl⟩ := mg_sl h
  have HT := hid (two_new w (.cells #[.int .i64 m.K, .int .i64 m.V, .int .i64 m.N, .int .i64 m.A, .int .i64 m.C, m.sl] 24) (.cells #[.string ⟨#[]⟩] 9))
  have HK : Hid (Calls Try.prog 16 #[.func (.func 17) #[] #[.pointer (some ⟨w.heap.size, 0, none⟩), .pointer (some ⟨w.heap.size + 1, 0, none⟩)]] ((w.alloc (.cells #[.int .i64 m.K, .int .i64 m.V, .int .i64 m.N, .int .i64 m.A, .int .i64 m.C, m.sl] 24)).alloc (.cells #[.string ⟨#[]⟩] 9)) fun x w'' => x = .returned (.int .i64 (mE m)) ∧ w''.heap[w.heap.size + 1]? = some (.cells #[.string (st (mS m))] 9 (0, 0)) ∧ Below w.heap.size w w'') := hid (by
    obtain ⟨⟨t1, t2⟩, t3, t4⟩ := HT.out
    obtain ⟨W, hW⟩ : ∃ W, W = (w.alloc (.cells #[.int .i64 m.K, .int .i64 m.V, .int .i64 m.N, .int .i64 m.A, .int .i64 m.C, m.sl] 24)).alloc (.cells #[.string ⟨#[]⟩] 9) := ⟨_, rfl⟩
    rw [← hW] at t1 t2 t3 t4 ⊢
    have lv : MOk (W.alloc (.cells #[.int .i64 0] 25)) m := (HV.out.below t4).below (below_alloc _ _)
    have u1 : MBox w.heap.size (W.alloc (.cells #[.int .i64 0] 25)) m.K m.V m.N m.A m.C m.sl := (alloc_past _ _ (by omega)).trans t1
    have u2 : (W.alloc (.cells #[.int .i64 0] 25)).heap[w.heap.size + 1]? = some (.cells #[.string ⟨#[]⟩] 9 (0, 0)) := (alloc_past _ _ (by omega)).trans t2
    by_cases ha : mE m = 0
    · have e2 : mE m = 0 := ha
      rw [e2]
      refine att_ok t4 (by omega) (by omega) (calls17 _) ((enc1_ok lv u1 u2 ha).mono ?_)
      rintro e w' ⟨rfl, w1, b1, rfl⟩
      rw [alloc_size] at b1
      refine ⟨rfl, ?_, (Kept.of_below b1).setCell 0 _⟩
      exact set_at ((b1.block _ (by omega)).trans u2) 0 _
    · have e2 : mS m = [] := by unfold mS; rw [if_neg ha]
      rw [e2]
      refine att_no t4 (by omega) t2 (calls17 _) ((enc1_no lv u1 ha).mono ?_)
      rintro e w' ⟨rfl, b1⟩
      rw [alloc_size] at b1
      exact ⟨rfl, b1⟩)
  obtain ⟨K, V, N, A, C, sl, es⟩ := m
  simp only [] at hsl HK
  subst hsl
  simp only [Mg.v]
  clear h HT HV
  go_enter Try.func7, Try.ntmps7
  go_wp2_with (go_at_call 16; refine HK.out.mono ?_; rintro e w1 ⟨rfl, k1, b1⟩; have c1 := cell_at (i := 0) k1; have HB1 := hid b1; clear k1 b1; simp at c1)
  go_ret2
  exact ⟨rfl, HB1.out⟩
end Go.Proofs.Ytjphfpfagnhelaa
