import Derived.Test.YtjphfpfagnhelaaMo
namespace Go.Proofs.Ytjphfpfagnhelaa
open Go.RowKit Go.Maps Go.Shelf

theorem drew_below (w : World) : Below w.heap.size w w.drew := ⟨rfl, rfl, rfl, Nat.le_refl _, fun _ _ => rfl⟩
theorem mE_sl (m : Mg) (v : Value) : mE ⟨m.K, m.V, m.N, m.A, m.C, v, m.es⟩ = mE m ∧ mS ⟨m.K, m.V, m.N, m.A, m.C, v, m.es⟩ = mS m := ⟨rfl, rfl⟩
set_option maxRecDepth 100000 in
set_option maxHeartbeats 4000000 in
theorem back_en {w : World} (m : Mg) (h : MOk w m) (s : ByteArray) (er : Int) (hE2 : er ≠ 0) (hm2 : ∀ w, Calls Try.prog 10 #[.string s] w fun e w' => e = .returned (.tuple #[zeroV, .int .i64 er]) ∧ Below w.heap.size w w') (he : mE m ≠ 0) : Calls Try.prog 4 #[m.v, .string s] w fun e w' => e = .returned (.bool true) ∧ Below w.heap.size w w' := by
  have HSP := hid speaks_any
  have HEN := hid (fun w' (hb : Below w.heap.size w w') => enc_any m (h.below hb))
  obtain ⟨sa, sn, sc, hsl⟩ := mg_sl h
  have hmv : m.v = .agg #[.int .i64 m.K, .int .i64 m.V, .int .i64 m.N, .int .i64 m.A, .int .i64 m.C, .slice sa sn sc] := by unfold Mg.v; rw [hsl]
  rw [hmv] at HEN ⊢
  obtain ⟨EM, hEM⟩ : ∃ E, E = mE m := ⟨_, rfl⟩
  obtain ⟨SM, hSM⟩ : ∃ S, S = st (mS m) := ⟨_, rfl⟩
  rw [← hEM, ← hSM] at HEN
  have hd2 := fun w' => hm2 w'
  unfold zeroV at hd2
  have HD2 := hid hd2
  have x9 : (er != 0) = true := by simp [hE2]
  have HSM2 := hid (fun w' => same_yes (w := w') 0 0 0 0 0 (ELie.nil w') (ELie.nil w'))
  clear hd2 hm2 hE2
  have x0 : (EM == 0) = false := by rw [hEM]; simp [he]
  clear he hmv hsl h hEM hSM
  obtain ⟨K, V, N, A, C, sl, es⟩ := m
  simp only [] at HEN ⊢
  have bcur : Hid (Below w.heap.size w (w.alloc (.cells #[.int .i64 K, .int .i64 V, .int .i64 N, .int .i64 A, .int .i64 C, .slice sa sn sc] 24))) := hid (below_alloc w _)
  have mb : Hid (MBox w.heap.size (w.alloc (.cells #[.int .i64 K, .int .i64 V, .int .i64 N, .int .i64 A, .int .i64 C, .slice sa sn sc] 24)) K V N A C (.slice sa sn sc)) := hid (box_at _ _)
  go_enter Try.func4, Try.ntmps4
  go_wp2_with (first | (go_at_call 7; (with_reducible refine (HEN.out _ bcur.out).mono ?_); rintro e wa ⟨rfl, b1⟩; have bn := hid (bcur.out.next b1); have mn := hid ((b1.block _ (lt_of_block mb.out)).trans mb.out); clear bcur mb b1 HEN; have bcur := bn; have mb := mn; clear bn mn) | (go_at_call 15; refine (HSP.out _).mono ?_; rintro e wg ⟨rfl, b1⟩; have HF := hid (bcur.out.next b1)) | (go_at_call 10; (with_reducible refine (HD2.out _).mono ?_); rintro e wq ⟨rfl, b1⟩; have bn := hid ((bcur.out.next b1).next (below_alloc wq (.cells #[.int .i64 0, .int .i64 0, .int .i64 0, .int .i64 0, .int .i64 0, .slice none 0 0] 24))); clear bcur b1; have bcur := bn; clear bn) | (go_at_call 14; (with_reducible refine (HSM2.out _).mono ?_); rintro e wr ⟨rfl, b1⟩; have bn := hid (bcur.out.next b1); clear bcur b1; have bcur := bn; clear bn))
  go_ret
  exact ⟨rfl, HF.out⟩
set_option maxRecDepth 100000 in
set_option maxHeartbeats 4000000 in
theorem back_ey {w : World} (m : Mg) (h : MOk w m) (s : ByteArray) (m2 : Mg) (hE2 : mE m2 = 0) (hs2 : s = st (mS m2)) (hm2 : ∀ y ∈ m2.es, y.Ok) (hl2 : m2.es.length ≤ 2000000) (he : mE m ≠ 0) : Calls Try.prog 4 #[m.v, .string s] w fun e w' => e = .returned (.bool true) ∧ Below w.heap.size w w' := by
  have HSP := hid speaks_any
  have HEN := hid (fun w' (hb : Below w.heap.size w w') => enc_any m (h.below hb))
  obtain ⟨sa, sn, sc, hsl⟩ := mg_sl h
  have hmv : m.v = .agg #[.int .i64 m.K, .int .i64 m.V, .int .i64 m.N, .int .i64 m.A, .int .i64 m.C, .slice sa sn sc] := by unfold Mg.v; rw [hsl]
  rw [hmv] at HEN ⊢
  obtain ⟨EM, hEM⟩ : ∃ E, E = mE m := ⟨_, rfl⟩
  obtain ⟨SM, hSM⟩ : ∃ S, S = st (mS m) := ⟨_, rfl⟩
  rw [← hEM, ← hSM] at HEN
  have HD2 := hid (fun w' => decode_back m2 hm2 hE2 w')
  have HE2 := hid (fun w' v (hl : ELie w' v m2.es) => enc_any (w := w') ⟨m2.K, m2.V, m2.N, m2.A, m2.C, v, m2.es⟩ ⟨hl, hm2, hl2⟩)
  simp only [(mE_sl m2 _).1, (mE_sl m2 _).2, Mg.v, hE2] at HE2
  rw [← hs2] at HD2 HE2
  clear hs2 hm2 hE2 hl2
  obtain ⟨K2, V2, N2, A2, C2, sl2, es2⟩ := m2
  simp only [] at HD2 HE2
  have x0 : (EM == 0) = false := by rw [hEM]; simp [he]
  clear he hmv hsl h hEM hSM
  obtain ⟨K, V, N, A, C, sl, es⟩ := m
  simp only [] at HEN ⊢
  have bcur : Hid (Below w.heap.size w (w.alloc (.cells #[.int .i64 K, .int .i64 V, .int .i64 N, .int .i64 A, .int .i64 C, .slice sa sn sc] 24))) := hid (below_alloc w _)
  have mb : Hid (MBox w.heap.size (w.alloc (.cells #[.int .i64 K, .int .i64 V, .int .i64 N, .int .i64 A, .int .i64 C, .slice sa sn sc] 24)) K V N A C (.slice sa sn sc)) := hid (box_at _ _)
  go_enter Try.func4, Try.ntmps4
  go_wp2_with (first | (go_at_call 7; (with_reducible refine (HEN.out _ bcur.out).mono ?_); rintro e wa ⟨rfl, b1⟩; have bn := hid (bcur.out.next b1); have mn := hid ((b1.block _ (lt_of_block mb.out)).trans mb.out); clear bcur mb b1 HEN; have bcur := bn; have mb := mn; clear bn mn) | (go_at_call 15; refine (HSP.out _).mono ?_; rintro e wg ⟨rfl, b1⟩; have HF := hid (bcur.out.next b1)) | (go_at_call 10; (with_reducible refine (HD2.out _).mono ?_); rintro e wq ⟨⟨sl3, rfl, hl3⟩, b1⟩; obtain ⟨ya, yn, yc, hy⟩ : ∃ a n c, sl3 = .slice a n c := (by obtain ⟨a, c, e, _⟩ := hl3; exact ⟨a, _, c, e⟩); subst hy; have hl4 := hid (hl3.below (below_alloc wq (.cells #[.int .i64 K2, .int .i64 V2, .int .i64 N2, .int .i64 A2, .int .i64 C2, .slice ya yn yc] 24))); have bn := hid ((bcur.out.next b1).next (below_alloc wq (.cells #[.int .i64 K2, .int .i64 V2, .int .i64 N2, .int .i64 A2, .int .i64 C2, .slice ya yn yc] 24))); clear bcur b1 hl3; have bcur := bn; clear bn) | (go_at_call 7; (with_reducible refine (HE2.out _ _ hl4.out).mono ?_); rintro e wr ⟨rfl, b1⟩; have bn := hid (bcur.out.next b1); clear bcur b1 hl4; have bcur := bn; clear bn))
  go_ret
  exact ⟨rfl, HF.out⟩
set_option maxRecDepth 100000 in
set_option maxHeartbeats 4000000 in
theorem back_yn {w : World} (m : Mg) (h : MOk w m) (s : ByteArray) (er : Int) (hE2 : er ≠ 0) (hm2 : ∀ w, Calls Try.prog 10 #[.string s] w fun e w' => e = .returned (.tuple #[zeroV, .int .i64 er]) ∧ Below w.heap.size w w') (he : mE m = 0) : Calls Try.prog 4 #[m.v, .string s] w fun e w' => e = .returned (.bool true) ∧ Below w.heap.size w w' := by
  have HSP := hid speaks_any
  have HEN := hid (fun w' (hb : Below w.heap.size w w') => enc_any m (h.below hb))
  have HDB := hid (fun w' => decode_back m h.ok he w')
  have HLI := hid h
  obtain ⟨sa, sn, sc, hsl⟩ := mg_sl h
  have hmv : m.v = .agg #[.int .i64 m.K, .int .i64 m.V, .int .i64 m.N, .int .i64 m.A, .int .i64 m.C, .slice sa sn sc] := by unfold Mg.v; rw [hsl]
  rw [hmv] at HEN ⊢
  obtain ⟨EM, hEM⟩ : ∃ E, E = mE m := ⟨_, rfl⟩
  obtain ⟨SM, hSM⟩ : ∃ S, S = st (mS m) := ⟨_, rfl⟩
  rw [← hEM, ← hSM] at HEN
  have hd2 := fun w' => hm2 w'
  unfold zeroV at hd2
  have HD2 := hid hd2
  have x9 : (er != 0) = true := by simp [hE2]
  have HSM2 := hid (fun w' => same_yes (w := w') 0 0 0 0 0 (ELie.nil w') (ELie.nil w'))
  clear hd2 hm2 hE2
  rw [← hEM] at he
  rw [← hSM] at HDB
  subst he
  have HLI2 : Hid (ELie w (.slice sa sn sc) m.es) := hid (by have := HLI.out.lie; rw [hsl] at this; exact this)
  clear hmv hsl h hEM hSM HLI
  obtain ⟨K, V, N, A, C, sl, es⟩ := m
  simp only [] at HEN HDB HLI2 ⊢
  have bcur : Hid (Below w.heap.size w (w.alloc (.cells #[.int .i64 K, .int .i64 V, .int .i64 N, .int .i64 A, .int .i64 C, .slice sa sn sc] 24))) := hid (below_alloc w _)
  have mb : Hid (MBox w.heap.size (w.alloc (.cells #[.int .i64 K, .int .i64 V, .int .i64 N, .int .i64 A, .int .i64 C, .slice sa sn sc] 24)) K V N A C (.slice sa sn sc)) := hid (box_at _ _)
  go_enter Try.func4, Try.ntmps4
  go_upto_region 4 with (first | (go_at_call 7; (with_reducible refine (HEN.out _ bcur.out).mono ?_); rintro e wa ⟨rfl, b1⟩; have bn := hid (bcur.out.next b1); have mn := hid ((b1.block _ (lt_of_block mb.out)).trans mb.out); clear bcur mb b1 HEN; have bcur := bn; have mb := mn; clear bn mn) | (go_at_call 10; (with_reducible refine (HDB.out _).mono ?_); rintro e wb ⟨⟨slx, rfl, hlx⟩, b1⟩; obtain ⟨ua, un, uc, hu⟩ : ∃ a n c, slx = .slice a n c := (by obtain ⟨a, c, e, _⟩ := hlx; exact ⟨a, _, c, e⟩); subst hu; have bn := hid (bcur.out.next b1); have mn := hid ((b1.block _ (lt_of_block mb.out)).trans mb.out); have hlx2 := hid hlx; clear bcur mb b1 hlx HDB; have bcur := bn; have mb := mn; clear bn mn))
  have mX : MBox wb.heap.size (wb.alloc (.cells #[.int .i64 K, .int .i64 V, .int .i64 N, .int .i64 A, .int .i64 C, .slice ua un uc] 24)) K V N A C (.slice ua un uc) := box_at _ _
  have lX : ELie (wb.alloc (.cells #[.int .i64 K, .int .i64 V, .int .i64 N, .int .i64 A, .int .i64 C, .slice ua un uc] 24)) (.slice ua un uc) es := hlx2.out.below (below_alloc _ _)
  have lM : ELie (wb.alloc (.cells #[.int .i64 K, .int .i64 V, .int .i64 N, .int .i64 A, .int .i64 C, .slice ua un uc] 24)) (.slice sa sn sc) es := HLI2.out.below (bcur.out.next (below_alloc _ _))
  have mM : MBox w.heap.size (wb.alloc (.cells #[.int .i64 K, .int .i64 V, .int .i64 N, .int .i64 A, .int .i64 C, .slice ua un uc] 24)) K V N A C (.slice sa sn sc) := (alloc_past _ _ (lt_of_block mb.out)).trans mb.out
  have bM : Below w.heap.size w (wb.alloc (.cells #[.int .i64 K, .int .i64 V, .int .i64 N, .int .i64 A, .int .i64 C, .slice ua un uc] 24)) := bcur.out.next (below_alloc _ _)
  obtain ⟨X, hX⟩ : ∃ X, X = wb.heap.size := ⟨_, rfl⟩
  rw [← hX] at mX ⊢
  obtain ⟨W, hW⟩ : ∃ W, W = wb.alloc (.cells #[.int .i64 K, .int .i64 V, .int .i64 N, .int .i64 A, .int .i64 C, .slice ua un uc] 24) := ⟨_, rfl⟩
  rw [← hW] at mX lX lM mM bM ⊢
  clear hW hX bcur mb hlx2 HLI2
  have HKP : Hid (∀ w', Below W.heap.size W w' → (fun w' => w'.cell? ⟨X, 0, none⟩ = some (.int .i64 K) ∧ w'.cell? ⟨X, 1, none⟩ = some (.int .i64 V) ∧ w'.cell? ⟨X, 2, none⟩ = some (.int .i64 N) ∧ w'.cell? ⟨X, 3, none⟩ = some (.int .i64 A) ∧ w'.cell? ⟨X, 4, none⟩ = some (.int .i64 C) ∧ w'.cell? ⟨X, 5, none⟩ = some (.slice ua un uc) ∧ w'.cell? ⟨w.heap.size, 0, none⟩ = some (.int .i64 K) ∧ w'.cell? ⟨w.heap.size, 1, none⟩ = some (.int .i64 V) ∧ w'.cell? ⟨w.heap.size, 2, none⟩ = some (.int .i64 N) ∧ w'.cell? ⟨w.heap.size, 3, none⟩ = some (.int .i64 A) ∧ w'.cell? ⟨w.heap.size, 4, none⟩ = some (.int .i64 C) ∧ w'.cell? ⟨w.heap.size, 5, none⟩ = some (.slice sa sn sc)) w') := hid (fun w' hb => by
    obtain ⟨a0, a1, a2, a3, a4, a5⟩ := MBox.cells ((hb.block _ (lt_of_block mX)).trans mX)
    obtain ⟨e0, e1, e2, e3, e4, e5⟩ := MBox.cells ((hb.block _ (lt_of_block mM)).trans mM)
    exact ⟨a0, a1, a2, a3, a4, a5, e0, e1, e2, e3, e4, e5⟩)
  have HRF : Hid (∀ w', Below W.heap.size W w' → Calls Try.prog 9 #[.agg #[.int .i64 K, .int .i64 V, .int .i64 N, .int .i64 A, .int .i64 C, .slice sa sn sc]] w' fun e w'' => e = .returned (.agg #[.int .i64 K, .int .i64 V, .int .i64 N, .int .i64 A, .int .i64 C, .slice sa sn sc]) ∧ Below w'.heap.size w' w'') := hid (fun w' hb => ref_any ⟨K, V, N, A, C, .slice sa sn sc, es⟩ (lM.below hb))
  have HSM : Hid (∀ w', Below W.heap.size W w' → Calls Try.prog 14 #[.agg #[.int .i64 K, .int .i64 V, .int .i64 N, .int .i64 A, .int .i64 C, .slice ua un uc], .agg #[.int .i64 K, .int .i64 V, .int .i64 N, .int .i64 A, .int .i64 C, .slice sa sn sc]] w' fun e w'' => e = .returned (.bool true) ∧ Below w'.heap.size w' w'') := hid (fun w' hb => same_yes K V N A C (lX.below hb) (lM.below hb))
  have BM := hid bM
  have hnot : ∀ (x : Bool) (w : World), (Op.unary .not (.bool x)).run Try.prog w = .ok (.bool (!x)) w := fun _ _ => rfl
  have k0 := HKP.out _ (drew_below W)
  clear mX lX lM mM bM
  go_region_held3 (fun w' => w'.cell? ⟨X, 0, none⟩ = some (.int .i64 K) ∧ w'.cell? ⟨X, 1, none⟩ = some (.int .i64 V) ∧ w'.cell? ⟨X, 2, none⟩ = some (.int .i64 N) ∧ w'.cell? ⟨X, 3, none⟩ = some (.int .i64 A) ∧ w'.cell? ⟨X, 4, none⟩ = some (.int .i64 C) ∧ w'.cell? ⟨X, 5, none⟩ = some (.slice ua un uc) ∧ w'.cell? ⟨w.heap.size, 0, none⟩ = some (.int .i64 K) ∧ w'.cell? ⟨w.heap.size, 1, none⟩ = some (.int .i64 V) ∧ w'.cell? ⟨w.heap.size, 2, none⟩ = some (.int .i64 N) ∧ w'.cell? ⟨w.heap.size, 3, none⟩ = some (.int .i64 A) ∧ w'.cell? ⟨w.heap.size, 4, none⟩ = some (.int .i64 C) ∧ w'.cell? ⟨w.heap.size, 5, none⟩ = some (.slice sa sn sc)) (first | exact k0 | exact k1 | exact k2 | go_keep) (first | (go_at_call 9; refine (HRF.out _ (drew_below W)).mono ?_; rintro e w5 ⟨rfl, b5⟩; have B5 := hid ((drew_below W).next b5); have k1 := HKP.out _ B5.out; clear b5) | (go_at_call 14; refine (HSM.out _ B5.out).mono ?_; rintro e w6 ⟨rfl, b6⟩; have B6 := hid (B5.out.next b6); have k2 := HKP.out _ B6.out; clear b6))
  all_goals (
    have bcur : Hid (Below w.heap.size w w6) := hid (BM.out.next B6.out)
    clear k0 k1 k2 B5 B6 HKP HRF HSM BM
    go_wp2_with (first | (go_at_call 15; refine (HSP.out _).mono ?_; rintro e wg ⟨rfl, b1⟩; have HF := hid (bcur.out.next b1)) | (go_at_call 10; (with_reducible refine (HD2.out _).mono ?_); rintro e wq ⟨rfl, b1⟩; have bn := hid ((bcur.out.next b1).next (below_alloc wq (.cells #[.int .i64 0, .int .i64 0, .int .i64 0, .int .i64 0, .int .i64 0, .slice none 0 0] 24))); clear bcur b1; have bcur := bn; clear bn) | (go_at_call 14; (with_reducible refine (HSM2.out _).mono ?_); rintro e wr ⟨rfl, b1⟩; have bn := hid (bcur.out.next b1); clear bcur b1; have bcur := bn; clear bn))
    go_ret
    exact ⟨rfl, HF.out⟩)
set_option maxRecDepth 100000 in
set_option maxHeartbeats 4000000 in
theorem back_yy {w : World} (m : Mg) (h : MOk w m) (s : ByteArray) (m2 : Mg) (hE2 : mE m2 = 0) (hs2 : s = st (mS m2)) (hm2 : ∀ y ∈ m2.es, y.Ok) (hl2 : m2.es.length ≤ 2000000) (he : mE m = 0) : Calls Try.prog 4 #[m.v, .string s] w fun e w' => e = .returned (.bool true) ∧ Below w.heap.size w w' := by
  have HSP := hid speaks_any
  have HEN := hid (fun w' (hb : Below w.heap.size w w') => enc_any m (h.below hb))
  have HDB := hid (fun w' => decode_back m h.ok he w')
  have HLI := hid h
  obtain ⟨sa, sn, sc, hsl⟩ := mg_sl h
  have hmv : m.v = .agg #[.int .i64 m.K, .int .i64 m.V, .int .i64 m.N, .int .i64 m.A, .int .i64 m.C, .slice sa sn sc] := by unfold Mg.v; rw [hsl]
  rw [hmv] at HEN ⊢
  obtain ⟨EM, hEM⟩ : ∃ E, E = mE m := ⟨_, rfl⟩
  obtain ⟨SM, hSM⟩ : ∃ S, S = st (mS m) := ⟨_, rfl⟩
  rw [← hEM, ← hSM] at HEN
  have HD2 := hid (fun w' => decode_back m2 hm2 hE2 w')
  have HE2 := hid (fun w' v (hl : ELie w' v m2.es) => enc_any (w := w') ⟨m2.K, m2.V, m2.N, m2.A, m2.C, v, m2.es⟩ ⟨hl, hm2, hl2⟩)
  simp only [(mE_sl m2 _).1, (mE_sl m2 _).2, Mg.v, hE2] at HE2
  rw [← hs2] at HD2 HE2
  clear hs2 hm2 hE2 hl2
  obtain ⟨K2, V2, N2, A2, C2, sl2, es2⟩ := m2
  simp only [] at HD2 HE2
  rw [← hEM] at he
  rw [← hSM] at HDB
  subst he
  have HLI2 : Hid (ELie w (.slice sa sn sc) m.es) := hid (by have := HLI.out.lie; rw [hsl] at this; exact this)
  clear hmv hsl h hEM hSM HLI
  obtain ⟨K, V, N, A, C, sl, es⟩ := m
  simp only [] at HEN HDB HLI2 ⊢
  have bcur : Hid (Below w.heap.size w (w.alloc (.cells #[.int .i64 K, .int .i64 V, .int .i64 N, .int .i64 A, .int .i64 C, .slice sa sn sc] 24))) := hid (below_alloc w _)
  have mb : Hid (MBox w.heap.size (w.alloc (.cells #[.int .i64 K, .int .i64 V, .int .i64 N, .int .i64 A, .int .i64 C, .slice sa sn sc] 24)) K V N A C (.slice sa sn sc)) := hid (box_at _ _)
  go_enter Try.func4, Try.ntmps4
  go_upto_region 4 with (first | (go_at_call 7; (with_reducible refine (HEN.out _ bcur.out).mono ?_); rintro e wa ⟨rfl, b1⟩; have bn := hid (bcur.out.next b1); have mn := hid ((b1.block _ (lt_of_block mb.out)).trans mb.out); clear bcur mb b1 HEN; have bcur := bn; have mb := mn; clear bn mn) | (go_at_call 10; (with_reducible refine (HDB.out _).mono ?_); rintro e wb ⟨⟨slx, rfl, hlx⟩, b1⟩; obtain ⟨ua, un, uc, hu⟩ : ∃ a n c, slx = .slice a n c := (by obtain ⟨a, c, e, _⟩ := hlx; exact ⟨a, _, c, e⟩); subst hu; have bn := hid (bcur.out.next b1); have mn := hid ((b1.block _ (lt_of_block mb.out)).trans mb.out); have hlx2 := hid hlx; clear bcur mb b1 hlx HDB; have bcur := bn; have mb := mn; clear bn mn))
  have mX : MBox wb.heap.size (wb.alloc (.cells #[.int .i64 K, .int .i64 V, .int .i64 N, .int .i64 A, .int .i64 C, .slice ua un uc] 24)) K V N A C (.slice ua un uc) := box_at _ _
  have lX : ELie (wb.alloc (.cells #[.int .i64 K, .int .i64 V, .int .i64 N, .int .i64 A, .int .i64 C, .slice ua un uc] 24)) (.slice ua un uc) es := hlx2.out.below (below_alloc _ _)
  have lM : ELie (wb.alloc (.cells #[.int .i64 K, .int .i64 V, .int .i64 N, .int .i64 A, .int .i64 C, .slice ua un uc] 24)) (.slice sa sn sc) es := HLI2.out.below (bcur.out.next (below_alloc _ _))
  have mM : MBox w.heap.size (wb.alloc (.cells #[.int .i64 K, .int .i64 V, .int .i64 N, .int .i64 A, .int .i64 C, .slice ua un uc] 24)) K V N A C (.slice sa sn sc) := (alloc_past _ _ (lt_of_block mb.out)).trans mb.out
  have bM : Below w.heap.size w (wb.alloc (.cells #[.int .i64 K, .int .i64 V, .int .i64 N, .int .i64 A, .int .i64 C, .slice ua un uc] 24)) := bcur.out.next (below_alloc _ _)
  obtain ⟨X, hX⟩ : ∃ X, X = wb.heap.size := ⟨_, rfl⟩
  rw [← hX] at mX ⊢
  obtain ⟨W, hW⟩ : ∃ W, W = wb.alloc (.cells #[.int .i64 K, .int .i64 V, .int .i64 N, .int .i64 A, .int .i64 C, .slice ua un uc] 24) := ⟨_, rfl⟩
  rw [← hW] at mX lX lM mM bM ⊢
  clear hW hX bcur mb hlx2 HLI2
  have HKP : Hid (∀ w', Below W.heap.size W w' → (fun w' => w'.cell? ⟨X, 0, none⟩ = some (.int .i64 K) ∧ w'.cell? ⟨X, 1, none⟩ = some (.int .i64 V) ∧ w'.cell? ⟨X, 2, none⟩ = some (.int .i64 N) ∧ w'.cell? ⟨X, 3, none⟩ = some (.int .i64 A) ∧ w'.cell? ⟨X, 4, none⟩ = some (.int .i64 C) ∧ w'.cell? ⟨X, 5, none⟩ = some (.slice ua un uc) ∧ w'.cell? ⟨w.heap.size, 0, none⟩ = some (.int .i64 K) ∧ w'.cell? ⟨w.heap.size, 1, none⟩ = some (.int .i64 V) ∧ w'.cell? ⟨w.heap.size, 2, none⟩ = some (.int .i64 N) ∧ w'.cell? ⟨w.heap.size, 3, none⟩ = some (.int .i64 A) ∧ w'.cell? ⟨w.heap.size, 4, none⟩ = some (.int .i64 C) ∧ w'.cell? ⟨w.heap.size, 5, none⟩ = some (.slice sa sn sc)) w') := hid (fun w' hb => by
    obtain ⟨a0, a1, a2, a3, a4, a5⟩ := MBox.cells ((hb.block _ (lt_of_block mX)).trans mX)
    obtain ⟨e0, e1, e2, e3, e4, e5⟩ := MBox.cells ((hb.block _ (lt_of_block mM)).trans mM)
    exact ⟨a0, a1, a2, a3, a4, a5, e0, e1, e2, e3, e4, e5⟩)
  have HRF : Hid (∀ w', Below W.heap.size W w' → Calls Try.prog 9 #[.agg #[.int .i64 K, .int .i64 V, .int .i64 N, .int .i64 A, .int .i64 C, .slice sa sn sc]] w' fun e w'' => e = .returned (.agg #[.int .i64 K, .int .i64 V, .int .i64 N, .int .i64 A, .int .i64 C, .slice sa sn sc]) ∧ Below w'.heap.size w' w'') := hid (fun w' hb => ref_any ⟨K, V, N, A, C, .slice sa sn sc, es⟩ (lM.below hb))
  have HSM : Hid (∀ w', Below W.heap.size W w' → Calls Try.prog 14 #[.agg #[.int .i64 K, .int .i64 V, .int .i64 N, .int .i64 A, .int .i64 C, .slice ua un uc], .agg #[.int .i64 K, .int .i64 V, .int .i64 N, .int .i64 A, .int .i64 C, .slice sa sn sc]] w' fun e w'' => e = .returned (.bool true) ∧ Below w'.heap.size w' w'') := hid (fun w' hb => same_yes K V N A C (lX.below hb) (lM.below hb))
  have BM := hid bM
  have hnot : ∀ (x : Bool) (w : World), (Op.unary .not (.bool x)).run Try.prog w = .ok (.bool (!x)) w := fun _ _ => rfl
  have k0 := HKP.out _ (drew_below W)
  clear mX lX lM mM bM
  go_region_held3 (fun w' => w'.cell? ⟨X, 0, none⟩ = some (.int .i64 K) ∧ w'.cell? ⟨X, 1, none⟩ = some (.int .i64 V) ∧ w'.cell? ⟨X, 2, none⟩ = some (.int .i64 N) ∧ w'.cell? ⟨X, 3, none⟩ = some (.int .i64 A) ∧ w'.cell? ⟨X, 4, none⟩ = some (.int .i64 C) ∧ w'.cell? ⟨X, 5, none⟩ = some (.slice ua un uc) ∧ w'.cell? ⟨w.heap.size, 0, none⟩ = some (.int .i64 K) ∧ w'.cell? ⟨w.heap.size, 1, none⟩ = some (.int .i64 V) ∧ w'.cell? ⟨w.heap.size, 2, none⟩ = some (.int .i64 N) ∧ w'.cell? ⟨w.heap.size, 3, none⟩ = some (.int .i64 A) ∧ w'.cell? ⟨w.heap.size, 4, none⟩ = some (.int .i64 C) ∧ w'.cell? ⟨w.heap.size, 5, none⟩ = some (.slice sa sn sc)) (first | exact k0 | exact k1 | exact k2 | go_keep) (first | (go_at_call 9; refine (HRF.out _ (drew_below W)).mono ?_; rintro e w5 ⟨rfl, b5⟩; have B5 := hid ((drew_below W).next b5); have k1 := HKP.out _ B5.out; clear b5) | (go_at_call 14; refine (HSM.out _ B5.out).mono ?_; rintro e w6 ⟨rfl, b6⟩; have B6 := hid (B5.out.next b6); have k2 := HKP.out _ B6.out; clear b6))
  all_goals (
    have bcur : Hid (Below w.heap.size w w6) := hid (BM.out.next B6.out)
    clear k0 k1 k2 B5 B6 HKP HRF HSM BM
    go_wp2_with (first | (go_at_call 15; refine (HSP.out _).mono ?_; rintro e wg ⟨rfl, b1⟩; have HF := hid (bcur.out.next b1)) | (go_at_call 10; (with_reducible refine (HD2.out _).mono ?_); rintro e wq ⟨⟨sl3, rfl, hl3⟩, b1⟩; obtain ⟨ya, yn, yc, hy⟩ : ∃ a n c, sl3 = .slice a n c := (by obtain ⟨a, c, e, _⟩ := hl3; exact ⟨a, _, c, e⟩); subst hy; have hl4 := hid (hl3.below (below_alloc wq (.cells #[.int .i64 K2, .int .i64 V2, .int .i64 N2, .int .i64 A2, .int .i64 C2, .slice ya yn yc] 24))); have bn := hid ((bcur.out.next b1).next (below_alloc wq (.cells #[.int .i64 K2, .int .i64 V2, .int .i64 N2, .int .i64 A2, .int .i64 C2, .slice ya yn yc] 24))); clear bcur b1 hl3; have bcur := bn; clear bn) | (go_at_call 7; (with_reducible refine (HE2.out _ _ hl4.out).mono ?_); rintro e wr ⟨rfl, b1⟩; have bn := hid (bcur.out.next b1); clear bcur b1 hl4; have bcur := bn; clear bn))
    go_ret
    exact ⟨rfl, HF.out⟩)
theorem back_walk {w : World} (m : Mg) (h : MOk w m) (s : ByteArray) : Calls Try.prog 4 #[m.v, .string s] w fun e w' => e = .returned (.bool true) ∧ Below w.heap.size w w' := by
  rcases decode_all s with ⟨m2, h1, h2, h3, h4⟩ | ⟨er, h1, h2⟩
  · by_cases he : mE m = 0
    · exact back_yy m h s m2 h1 h2 h3 h4 he
    · exact back_ey m h s m2 h1 h2 h3 h4 he
  · by_cases he : mE m = 0
    · exact back_yn m h s er h1 h2 he
    · exact back_en m h s er h1 h2 he
end Go.Proofs.Ytjphfpfagnhelaa
