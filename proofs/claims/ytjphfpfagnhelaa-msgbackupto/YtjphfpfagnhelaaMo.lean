import Derived.Test.YtjphfpfagnhelaaMn
namespace Go.Proofs.Ytjphfpfagnhelaa
open Go.RowKit Go.Maps Go.Shelf

theorem elem22 : Try.prog.elem 22 = 54 := by kernel_rfl
theorem und22 : Try.prog.underlying 22 = some (.slice (Try.prog.elem 22)) := by rw [elem22]; exact Try.underlying22
theorem slice_head {w : World} {ao : Option Addr} {n cap : Nat} {l : List Ent} (h : ELie w (.slice ao n cap) l) (k : Nat) (hk : k ≤ l.length) : ∃ v, (∀ w, (Instr.slice 22 (.slice ao n cap) none (some (.int .i64 (k : Int))) none).run Try.prog w = .ok v w) ∧ ELie w v (l.take k) := by
  obtain ⟨ao', cap', e, h1, h2, h3⟩ := h
  cases e
  refine ⟨sliced ao 0 k cap 9, fun w => ?_, ?_⟩
  · rw [run_slice_h w 22 ao l.length cap und22 .i64 (k : Int) (by omega) (by omega), Int.toNat_natCast, elem22, Try.sizeOf54]
    rfl
  · have hl : (l.take k).length = k := by rw [List.length_take]; omega
    unfold sliced
    refine ⟨_, cap, by rw [hl, Nat.sub_zero, Nat.sub_zero], by omega, h2, fun i hi => ?_⟩
    rw [hl] at hi
    obtain ⟨gb, off, e1, hg, c⟩ := h3 i (by omega)
    refine ⟨gb, off, ?_, hg, by rw [List.getElem_take]; exact c⟩
    rw [e1]
    split
    · rfl
    · simp [add_at]
theorem slice_tail {w : World} {ao : Option Addr} {n cap : Nat} {l : List Ent} (h : ELie w (.slice ao n cap) l) (k : Nat) (hk : k ≤ l.length) : ∃ v, (∀ w, (Instr.slice 22 (.slice ao n cap) (some (.int .i64 (k : Int))) none none).run Try.prog w = .ok v w) ∧ ELie w v (l.drop k) := by
  obtain ⟨ao', cap', e, h1, h2, h3⟩ := h
  cases e
  refine ⟨sliced ao k l.length cap 9, fun w => ?_, ?_⟩
  · rw [run_slice_l w 22 ao l.length cap und22 .i64 (k : Int) (by omega) (by omega), Int.toNat_natCast, elem22, Try.sizeOf54]
    rfl
  · have hl : (l.drop k).length = l.length - k := by rw [List.length_drop]
    unfold sliced
    refine ⟨_, cap - k, by rw [hl], by omega, by omega, fun i hi => ?_⟩
    rw [hl] at hi
    obtain ⟨gb, off, e1, hg, c⟩ := h3 (k + i) (by omega)
    refine ⟨gb, off + k * 9, ?_, hg, ?_⟩
    · rw [e1, if_neg (by omega)]
      simp [add_at]
    · rw [List.getElem_drop, show off + k * 9 + i * 9 = off + (k + i) * 9 by omega]
      exact c
theorem szE_parts {l : List Ent} (h : szE l = 0) : l.all rgt = true ∧ szN l = ((encs l).length : Nat) := by
  unfold szE at h
  unfold szN
  cases ha : l.all rgt with
  | true => exact ⟨rfl, by simp⟩
  | false => rw [ha] at h; simp at h
theorem sz_split (l : List Ent) (k : Nat) (h : szE l = 0) : szE (l.take k) = 0 ∧ szE (l.drop k) = 0 ∧ szN (l.take k) + szN (l.drop k) = szN l := by
  obtain ⟨ha, hn⟩ := szE_parts h
  have e : l.all rgt = ((l.take k).all rgt && (l.drop k).all rgt) := by rw [← List.all_append, List.take_append_drop]
  rw [ha] at e
  have e1 : (l.take k).all rgt = true := by cases h1 : (l.take k).all rgt with | true => rfl | false => rw [h1] at e; cases e
  have e2 : (l.drop k).all rgt = true := by cases h1 : (l.drop k).all rgt with | true => rfl | false => rw [h1, Bool.and_false] at e; cases e
  refine ⟨by unfold szE; rw [e1]; rfl, by unfold szE; rw [e2]; rfl, ?_⟩
  unfold szN
  rw [e1, e2, ha]
  simp only [if_true]
  have := congrArg List.length (congrArg encs (List.take_append_drop k l))
  rw [encs_append, List.length_append] at this
  omega
theorem size_lens (m : Mg) (h1 : szE m.es = 0) (h2 : mE m = 0) (hok : ∀ y ∈ m.es, y.Ok) (b : Mg) (hb : b = { m with sl := .slice none 0 0, es := [] }) (h3 : mE b = 0) :
    ((mS b).length : Int) ≤ ((mS m).length : Int) - szN m.es ∧ ((mS m).length : Int) - szN m.es ≤ ((mS b).length : Int) + 2 := by
  obtain ⟨ha, hn⟩ := szE_parts h1
  have e1 : mS m = Cd.sealL (mL m) := by unfold mS; rw [if_pos h2]
  have e2 : mS b = Cd.sealL (mL b) := by unfold mS; rw [if_pos h3]
  have hl : (mL m).length + 4 ≤ 60000 := by
    rcases mE_cases m with h | h | h | h
    · omega
    · omega
    · omega
    · exact h.2.2.1
  have hm := encs_many m.es ha hok
  have f1 : (mL m).length = (uEnc m.K.toNat).length + ((uEnc m.V.toNat).length + ((uEnc m.N.toNat).length + ((uEnc m.A.toNat).length + ((uEnc m.C.toNat).length + (uEnc m.es.length).length)))) + (encs m.es).length := by
    unfold mL mNums numL
    simp only [List.flatMap_cons, List.flatMap_nil, List.length_append, List.length_nil]
    omega
  have f2 : (mL b).length = (uEnc m.K.toNat).length + ((uEnc m.V.toNat).length + ((uEnc m.N.toNat).length + ((uEnc m.A.toNat).length + ((uEnc m.C.toNat).length + 1)))) := by
    subst hb
    unfold mL mNums numL encs
    simp only [List.flatMap_cons, List.flatMap_nil, List.length_append, List.length_nil, uEnc_lo (show 0 < 128 by decide), List.length_singleton]
    omega
  have g := uEnc_len 2 m.es.length (by omega)
  rw [e1, e2, Cd.sealL_len, Cd.sealL_len, hn]
  omega
set_option maxRecDepth 100000 in
set_option maxHeartbeats 4000000 in
theorem size_go {w : World} (m : Mg) (h : MOk w m) (n0 : Int) (n : Nat) (hn : n ≤ m.es.length) (hsel : ((n0 < 0 ∨ (m.es.length : Int) < n0) ∧ n = m.es.length) ∨ (0 ≤ n0 ∧ n0 ≤ (m.es.length : Int) ∧ n0 = (n : Int))) : Calls Try.prog 6 #[m.v, .int .i64 n0] w fun e w' => e = .returned (.bool true) ∧ Below w.heap.size w w' := by
  have HSP := hid speaks_any
  have HSZ := hid (fun w' (hb : Below w.heap.size w w') => size_any (h.lie.below hb) h.ok h.few)
  have HOK := hid h
  have HEN := hid (fun w' (hb : Below w.heap.size w w') => enc_any m (h.below hb))
  obtain ⟨bm, hbm⟩ : ∃ b : Mg, b = { m with sl := .slice none 0 0, es := [] } := ⟨_, rfl⟩
  have HEB := hid (fun w' => enc_any (w := w') bm (by subst hbm; exact ⟨ELie.nil _, fun y hy => by simp at hy, by simp⟩))
  obtain ⟨sa, sn, sc, hsl⟩ := mg_sl h
  have hlie := h.lie
  have hlen : sn = m.es.length := by
    rw [hsl] at hlie
    obtain ⟨a, c, e, _⟩ := hlie
    cases e
    rfl
  rw [hsl] at hlie
  obtain ⟨v1, s1, l1⟩ := slice_head hlie n hn
  obtain ⟨v2, s2, l2⟩ := slice_tail hlie n hn
  have HS1 := hid (fun w' (hb : Below w.heap.size w w') => size_any (l1.below hb) (fun y hy => h.ok y (List.mem_of_mem_take hy)) (by have := h.few; rw [List.length_take]; omega))
  have HS2 := hid (fun w' (hb : Below w.heap.size w w') => size_any (l2.below hb) (fun y hy => h.ok y (List.mem_of_mem_drop hy)) (by have := h.few; rw [List.length_drop]; omega))
  obtain ⟨v1a, v1n, v1c, hv1⟩ : ∃ a n c, v1 = .slice a n c := by obtain ⟨a, c, e, _⟩ := l1; exact ⟨a, _, c, e⟩
  obtain ⟨v2a, v2n, v2c, hv2⟩ : ∃ a n c, v2 = .slice a n c := by obtain ⟨a, c, e, _⟩ := l2; exact ⟨a, _, c, e⟩
  subst hv1
  subst hv2
  have hfew := h.few
  have HSPL := hid (sz_split m.es n)
  have HLEN := hid (fun a b c => size_lens m a b h.ok bm hbm c)
  have hmv : m.v = .agg #[.int .i64 m.K, .int .i64 m.V, .int .i64 m.N, .int .i64 m.A, .int .i64 m.C, .slice sa sn sc] := by unfold Mg.v; rw [hsl]
  have hbv : bm.v = .agg #[.int .i64 m.K, .int .i64 m.V, .int .i64 m.N, .int .i64 m.A, .int .i64 m.C, .slice none 0 0] := by rw [hbm]; rfl
  rw [hmv] at HEN ⊢
  rw [hbv] at HEB
  rw [hsl] at HSZ
  have HML := hid (show (mS m).length ≤ 60000 from by
    unfold mS
    split
    · rename_i h2
      rcases mE_cases m with h | h | h | h
      · omega
      · omega
      · omega
      · rw [Cd.sealL_len]; exact h.2.2.1
    · simp)
  have HMB := hid (show (mS bm).length ≤ 60000 from by
    unfold mS
    split
    · rename_i h2
      rcases mE_cases bm with h | h | h | h
      · omega
      · omega
      · omega
      · rw [Cd.sealL_len]; exact h.2.2.1
    · simp)
  have HSB := hid (show szN m.es ≤ 12378 * 2000000 ∧ 0 ≤ szN m.es from by
    unfold szN
    split
    · rename_i h2
      have := encs_len m.es h2 h.ok
      omega
    · omega)
  obtain ⟨E, hE⟩ : ∃ E, E = szE m.es := ⟨_, rfl⟩
  obtain ⟨Z, hZ⟩ : ∃ Z, Z = szN m.es := ⟨_, rfl⟩
  obtain ⟨E1, hE1⟩ : ∃ E, E = szE (m.es.take n) := ⟨_, rfl⟩
  obtain ⟨Z1, hZ1⟩ : ∃ Z, Z = szN (m.es.take n) := ⟨_, rfl⟩
  obtain ⟨E2, hE2⟩ : ∃ E, E = szE (m.es.drop n) := ⟨_, rfl⟩
  obtain ⟨Z2, hZ2⟩ : ∃ Z, Z = szN (m.es.drop n) := ⟨_, rfl⟩
  obtain ⟨EM, hEM⟩ : ∃ E, E = mE m := ⟨_, rfl⟩
  obtain ⟨EB, hEB⟩ : ∃ E, E = mE bm := ⟨_, rfl⟩
  obtain ⟨SM, hSM⟩ : ∃ S, S = st (mS m) := ⟨_, rfl⟩
  obtain ⟨SB, hSB⟩ : ∃ S, S = st (mS bm) := ⟨_, rfl⟩
  have szM : SM.size = (mS m).length := by rw [hSM, st_size]
  have szB : SB.size = (mS bm).length := by rw [hSB, st_size]
  have HZ0 : Hid (E ≠ 0 → Z = 0) := hid (by
    rw [hE, hZ]
    unfold szE szN
    intro h
    split
    · rename_i h2; rw [h2] at h; simp at h
    · rfl)
  rw [← hE, ← hZ, ← hE1, ← hE2, ← hZ1, ← hZ2] at HSPL
  rw [← hE, ← hZ, ← hEM, ← hEB, ← szM, ← szB] at HLEN
  rw [← szM] at HML
  rw [← szB] at HMB
  rw [← hZ] at HSB
  rw [← hE, ← hZ] at HSZ
  rw [← hE1, ← hZ1] at HS1
  rw [← hE2, ← hZ2] at HS2
  rw [← hEM, ← hSM] at HEN
  rw [← hEB, ← hSB] at HEB
  rw [← hlen] at hn hsel hfew
  clear hE hZ hE1 hZ1 hE2 hZ2 hEM hEB hSM hSB szM szB hmv hbv hbm l1 l2 hlie hlen hsl HOK h
  obtain ⟨K, V, N, A, C, sl, es⟩ := m
  simp only [] at HEN HEB HSZ HS1 HS2 ⊢
  have bcur : Hid (Below w.heap.size w (w.alloc (.cells #[.int .i64 K, .int .i64 V, .int .i64 N, .int .i64 A, .int .i64 C, .slice sa sn sc] 24))) := hid (below_alloc w _)
  have mb : Hid (MBox w.heap.size (w.alloc (.cells #[.int .i64 K, .int .i64 V, .int .i64 N, .int .i64 A, .int .i64 C, .slice sa sn sc] 24)) K V N A C (.slice sa sn sc)) := hid (box_at _ _)
  by_cases hE : E = 0
  case neg =>
    have x0 : (E != 0) = true := by simp [hE]
    have hz := HZ0.out hE
    subst hz
    clear HSPL HLEN HML HMB HSB HZ0 hE
    go_enter Try.func6, Try.ntmps6
    go_wp2_with (first | (go_at_call 12; (with_reducible refine (HSZ.out _ bcur.out).mono ?_); rintro e wa ⟨rfl, b1⟩; have bn := hid (bcur.out.next b1); have mn := hid ((b1.block _ (lt_of_block mb.out)).trans mb.out); clear bcur mb b1; have bcur := bn; have mb := mn; clear bn mn; obtain ⟨ca0, ca1, ca2, ca3, ca4, ca5⟩ := MBox.cells mb.out; clear HSZ) | (go_at_call 12; (with_reducible refine (HS1.out _ bcur.out).mono ?_); rintro e wb ⟨rfl, b1⟩; have bn := hid (bcur.out.next b1); have mn := hid ((b1.block _ (lt_of_block mb.out)).trans mb.out); clear bcur mb b1; have bcur := bn; have mb := mn; clear bn mn; obtain ⟨cb0, cb1, cb2, cb3, cb4, cb5⟩ := MBox.cells mb.out; clear HS1) | (go_at_call 12; (with_reducible refine (HS2.out _ bcur.out).mono ?_); rintro e wc ⟨rfl, b1⟩; have bn := hid (bcur.out.next b1); have mn := hid ((b1.block _ (lt_of_block mb.out)).trans mb.out); clear bcur mb b1; have bcur := bn; have mb := mn; clear bn mn; obtain ⟨cc0, cc1, cc2, cc3, cc4, cc5⟩ := MBox.cells mb.out; clear HS2) | (go_at_call 7; (with_reducible refine (HEN.out _ bcur.out).mono ?_); rintro e wd ⟨rfl, b1⟩; have bn := hid (bcur.out.next b1); have mn := hid ((b1.block _ (lt_of_block mb.out)).trans mb.out); clear bcur mb b1; have bcur := bn; have mb := mn; clear bn mn; obtain ⟨cd0, cd1, cd2, cd3, cd4, cd5⟩ := MBox.cells mb.out; clear HEN) | (go_at_call 7; (with_reducible refine (HEB.out _).mono ?_); rintro e wf ⟨rfl, b1⟩; have bn := hid ((bcur.out.next (below_alloc _ _)).next b1); clear bcur b1; have bcur := bn; clear bn) | (go_at_call 15; refine (HSP.out _).mono ?_; rintro e wg ⟨rfl, b1⟩; have HF := hid (bcur.out.next b1)))
    go_ret
    exact ⟨rfl, HF.out⟩
  subst hE
  obtain ⟨q1, q2, q3⟩ := HSPL.out rfl
  subst q1
  subst q2
  have hwz : IntKind.i64.wrap Z = Z := by have := HSB.out; rw [IntKind.wrap_i64]; omega
  clear HSPL
  rcases hsel with ⟨h1 | h1, h2⟩ | ⟨h1, h2, h3⟩
  · subst h2
    by_cases hEM : EM = 0
    case neg =>
      have x1 : (EM != 0) = true := by simp [hEM]
      clear HLEN HML HMB HSB HZ0
      go_enter Try.func6, Try.ntmps6
      go_wp2_with (first | (go_at_call 12; (with_reducible refine (HSZ.out _ bcur.out).mono ?_); rintro e wa ⟨rfl, b1⟩; have bn := hid (bcur.out.next b1); have mn := hid ((b1.block _ (lt_of_block mb.out)).trans mb.out); clear bcur mb b1; have bcur := bn; have mb := mn; clear bn mn; obtain ⟨ca0, ca1, ca2, ca3, ca4, ca5⟩ := MBox.cells mb.out; clear HSZ) | (go_at_call 12; (with_reducible refine (HS1.out _ bcur.out).mono ?_); rintro e wb ⟨rfl, b1⟩; have bn := hid (bcur.out.next b1); have mn := hid ((b1.block _ (lt_of_block mb.out)).trans mb.out); clear bcur mb b1; have bcur := bn; have mb := mn; clear bn mn; obtain ⟨cb0, cb1, cb2, cb3, cb4, cb5⟩ := MBox.cells mb.out; clear HS1) | (go_at_call 12; (with_reducible refine (HS2.out _ bcur.out).mono ?_); rintro e wc ⟨rfl, b1⟩; have bn := hid (bcur.out.next b1); have mn := hid ((b1.block _ (lt_of_block mb.out)).trans mb.out); clear bcur mb b1; have bcur := bn; have mb := mn; clear bn mn; obtain ⟨cc0, cc1, cc2, cc3, cc4, cc5⟩ := MBox.cells mb.out; clear HS2) | (go_at_call 7; (with_reducible refine (HEN.out _ bcur.out).mono ?_); rintro e wd ⟨rfl, b1⟩; have bn := hid (bcur.out.next b1); have mn := hid ((b1.block _ (lt_of_block mb.out)).trans mb.out); clear bcur mb b1; have bcur := bn; have mb := mn; clear bn mn; obtain ⟨cd0, cd1, cd2, cd3, cd4, cd5⟩ := MBox.cells mb.out; clear HEN) | (go_at_call 7; (with_reducible refine (HEB.out _).mono ?_); rintro e wf ⟨rfl, b1⟩; have bn := hid ((bcur.out.next (below_alloc _ _)).next b1); clear bcur b1; have bcur := bn; clear bn) | (go_at_call 15; refine (HSP.out _).mono ?_; rintro e wg ⟨rfl, b1⟩; have HF := hid (bcur.out.next b1)))
      go_ret
      exact ⟨rfl, HF.out⟩
    by_cases hEB : EB = 0
    case neg =>
      subst hEM
      have x2 : (EB != 0) = true := by simp [hEB]
      clear HLEN HML HMB HSB HZ0
      go_enter Try.func6, Try.ntmps6
      go_wp2_with (first | (go_at_call 12; (with_reducible refine (HSZ.out _ bcur.out).mono ?_); rintro e wa ⟨rfl, b1⟩; have bn := hid (bcur.out.next b1); have mn := hid ((b1.block _ (lt_of_block mb.out)).trans mb.out); clear bcur mb b1; have bcur := bn; have mb := mn; clear bn mn; obtain ⟨ca0, ca1, ca2, ca3, ca4, ca5⟩ := MBox.cells mb.out; clear HSZ) | (go_at_call 12; (with_reducible refine (HS1.out _ bcur.out).mono ?_); rintro e wb ⟨rfl, b1⟩; have bn := hid (bcur.out.next b1); have mn := hid ((b1.block _ (lt_of_block mb.out)).trans mb.out); clear bcur mb b1; have bcur := bn; have mb := mn; clear bn mn; obtain ⟨cb0, cb1, cb2, cb3, cb4, cb5⟩ := MBox.cells mb.out; clear HS1) | (go_at_call 12; (with_reducible refine (HS2.out _ bcur.out).mono ?_); rintro e wc ⟨rfl, b1⟩; have bn := hid (bcur.out.next b1); have mn := hid ((b1.block _ (lt_of_block mb.out)).trans mb.out); clear bcur mb b1; have bcur := bn; have mb := mn; clear bn mn; obtain ⟨cc0, cc1, cc2, cc3, cc4, cc5⟩ := MBox.cells mb.out; clear HS2) | (go_at_call 7; (with_reducible refine (HEN.out _ bcur.out).mono ?_); rintro e wd ⟨rfl, b1⟩; have bn := hid (bcur.out.next b1); have mn := hid ((b1.block _ (lt_of_block mb.out)).trans mb.out); clear bcur mb b1; have bcur := bn; have mb := mn; clear bn mn; obtain ⟨cd0, cd1, cd2, cd3, cd4, cd5⟩ := MBox.cells mb.out; clear HEN) | (go_at_call 7; (with_reducible refine (HEB.out _).mono ?_); rintro e wf ⟨rfl, b1⟩; have bn := hid ((bcur.out.next (below_alloc _ _)).next b1); clear bcur b1; have bcur := bn; clear bn) | (go_at_call 15; refine (HSP.out _).mono ?_; rintro e wg ⟨rfl, b1⟩; have HF := hid (bcur.out.next b1)))
      go_ret
      exact ⟨rfl, HF.out⟩
    subst hEM
    subst hEB
    obtain ⟨g1, g2⟩ := HLEN.out rfl rfl rfl
    have y1 : IntKind.i64.wrap ((SM.size : Int) - Z) = (SM.size : Int) - Z := by have := HML.out; have := HSB.out; rw [IntKind.wrap_i64]; omega
    have y2 : IntKind.i64.wrap ((SB.size : Int) + 2) = (SB.size : Int) + 2 := by have := HMB.out; rw [IntKind.wrap_i64]; omega
    clear HLEN HML HMB HSB HZ0
    go_enter Try.func6, Try.ntmps6
    go_wp2_with (first | (go_at_call 12; (with_reducible refine (HSZ.out _ bcur.out).mono ?_); rintro e wa ⟨rfl, b1⟩; have bn := hid (bcur.out.next b1); have mn := hid ((b1.block _ (lt_of_block mb.out)).trans mb.out); clear bcur mb b1; have bcur := bn; have mb := mn; clear bn mn; obtain ⟨ca0, ca1, ca2, ca3, ca4, ca5⟩ := MBox.cells mb.out; clear HSZ) | (go_at_call 12; (with_reducible refine (HS1.out _ bcur.out).mono ?_); rintro e wb ⟨rfl, b1⟩; have bn := hid (bcur.out.next b1); have mn := hid ((b1.block _ (lt_of_block mb.out)).trans mb.out); clear bcur mb b1; have bcur := bn; have mb := mn; clear bn mn; obtain ⟨cb0, cb1, cb2, cb3, cb4, cb5⟩ := MBox.cells mb.out; clear HS1) | (go_at_call 12; (with_reducible refine (HS2.out _ bcur.out).mono ?_); rintro e wc ⟨rfl, b1⟩; have bn := hid (bcur.out.next b1); have mn := hid ((b1.block _ (lt_of_block mb.out)).trans mb.out); clear bcur mb b1; have bcur := bn; have mb := mn; clear bn mn; obtain ⟨cc0, cc1, cc2, cc3, cc4, cc5⟩ := MBox.cells mb.out; clear HS2) | (go_at_call 7; (with_reducible refine (HEN.out _ bcur.out).mono ?_); rintro e wd ⟨rfl, b1⟩; have bn := hid (bcur.out.next b1); have mn := hid ((b1.block _ (lt_of_block mb.out)).trans mb.out); clear bcur mb b1; have bcur := bn; have mb := mn; clear bn mn; obtain ⟨cd0, cd1, cd2, cd3, cd4, cd5⟩ := MBox.cells mb.out; clear HEN) | (go_at_call 7; (with_reducible refine (HEB.out _).mono ?_); rintro e wf ⟨rfl, b1⟩; have bn := hid ((bcur.out.next (below_alloc _ _)).next b1); clear bcur b1; have bcur := bn; clear bn) | (go_at_call 15; refine (HSP.out _).mono ?_; rintro e wg ⟨rfl, b1⟩; have HF := hid (bcur.out.next b1)))
    go_ret
    exact ⟨rfl, HF.out⟩
  · subst h2
    have x3 : ¬ n0 < 0 := by omega
    by_cases hEM : EM = 0
    case neg =>
      have x1 : (EM != 0) = true := by simp [hEM]
      clear HLEN HML HMB HSB HZ0
      go_enter Try.func6, Try.ntmps6
      go_wp2_with (first | (go_at_call 12; (with_reducible refine (HSZ.out _ bcur.out).mono ?_); rintro e wa ⟨rfl, b1⟩; have bn := hid (bcur.out.next b1); have mn := hid ((b1.block _ (lt_of_block mb.out)).trans mb.out); clear bcur mb b1; have bcur := bn; have mb := mn; clear bn mn; obtain ⟨ca0, ca1, ca2, ca3, ca4, ca5⟩ := MBox.cells mb.out; clear HSZ) | (go_at_call 12; (with_reducible refine (HS1.out _ bcur.out).mono ?_); rintro e wb ⟨rfl, b1⟩; have bn := hid (bcur.out.next b1); have mn := hid ((b1.block _ (lt_of_block mb.out)).trans mb.out); clear bcur mb b1; have bcur := bn; have mb := mn; clear bn mn; obtain ⟨cb0, cb1, cb2, cb3, cb4, cb5⟩ := MBox.cells mb.out; clear HS1) | (go_at_call 12; (with_reducible refine (HS2.out _ bcur.out).mono ?_); rintro e wc ⟨rfl, b1⟩; have bn := hid (bcur.out.next b1); have mn := hid ((b1.block _ (lt_of_block mb.out)).trans mb.out); clear bcur mb b1; have bcur := bn; have mb := mn; clear bn mn; obtain ⟨cc0, cc1, cc2, cc3, cc4, cc5⟩ := MBox.cells mb.out; clear HS2) | (go_at_call 7; (with_reducible refine (HEN.out _ bcur.out).mono ?_); rintro e wd ⟨rfl, b1⟩; have bn := hid (bcur.out.next b1); have mn := hid ((b1.block _ (lt_of_block mb.out)).trans mb.out); clear bcur mb b1; have bcur := bn; have mb := mn; clear bn mn; obtain ⟨cd0, cd1, cd2, cd3, cd4, cd5⟩ := MBox.cells mb.out; clear HEN) | (go_at_call 7; (with_reducible refine (HEB.out _).mono ?_); rintro e wf ⟨rfl, b1⟩; have bn := hid ((bcur.out.next (below_alloc _ _)).next b1); clear bcur b1; have bcur := bn; clear bn) | (go_at_call 15; refine (HSP.out _).mono ?_; rintro e wg ⟨rfl, b1⟩; have HF := hid (bcur.out.next b1)))
      go_ret
      exact ⟨rfl, HF.out⟩
    by_cases hEB : EB = 0
    case neg =>
      subst hEM
      have x2 : (EB != 0) = true := by simp [hEB]
      clear HLEN HML HMB HSB HZ0
      go_enter Try.func6, Try.ntmps6
      go_wp2_with (first | (go_at_call 12; (with_reducible refine (HSZ.out _ bcur.out).mono ?_); rintro e wa ⟨rfl, b1⟩; have bn := hid (bcur.out.next b1); have mn := hid ((b1.block _ (lt_of_block mb.out)).trans mb.out); clear bcur mb b1; have bcur := bn; have mb := mn; clear bn mn; obtain ⟨ca0, ca1, ca2, ca3, ca4, ca5⟩ := MBox.cells mb.out; clear HSZ) | (go_at_call 12; (with_reducible refine (HS1.out _ bcur.out).mono ?_); rintro e wb ⟨rfl, b1⟩; have bn := hid (bcur.out.next b1); have mn := hid ((b1.block _ (lt_of_block mb.out)).trans mb.out); clear bcur mb b1; have bcur := bn; have mb := mn; clear bn mn; obtain ⟨cb0, cb1, cb2, cb3, cb4, cb5⟩ := MBox.cells mb.out; clear HS1) | (go_at_call 12; (with_reducible refine (HS2.out _ bcur.out).mono ?_); rintro e wc ⟨rfl, b1⟩; have bn := hid (bcur.out.next b1); have mn := hid ((b1.block _ (lt_of_block mb.out)).trans mb.out); clear bcur mb b1; have bcur := bn; have mb := mn; clear bn mn; obtain ⟨cc0, cc1, cc2, cc3, cc4, cc5⟩ := MBox.cells mb.out; clear HS2) | (go_at_call 7; (with_reducible refine (HEN.out _ bcur.out).mono ?_); rintro e wd ⟨rfl, b1⟩; have bn := hid (bcur.out.next b1); have mn := hid ((b1.block _ (lt_of_block mb.out)).trans mb.out); clear bcur mb b1; have bcur := bn; have mb := mn; clear bn mn; obtain ⟨cd0, cd1, cd2, cd3, cd4, cd5⟩ := MBox.cells mb.out; clear HEN) | (go_at_call 7; (with_reducible refine (HEB.out _).mono ?_); rintro e wf ⟨rfl, b1⟩; have bn := hid ((bcur.out.next (below_alloc _ _)).next b1); clear bcur b1; have bcur := bn; clear bn) | (go_at_call 15; refine (HSP.out _).mono ?_; rintro e wg ⟨rfl, b1⟩; have HF := hid (bcur.out.next b1)))
      go_ret
      exact ⟨rfl, HF.out⟩
    subst hEM
    subst hEB
    obtain ⟨g1, g2⟩ := HLEN.out rfl rfl rfl
    have y1 : IntKind.i64.wrap ((SM.size : Int) - Z) = (SM.size : Int) - Z := by have := HML.out; have := HSB.out; rw [IntKind.wrap_i64]; omega
    have y2 : IntKind.i64.wrap ((SB.size : Int) + 2) = (SB.size : Int) + 2 := by have := HMB.out; rw [IntKind.wrap_i64]; omega
    clear HLEN HML HMB HSB HZ0
    go_enter Try.func6, Try.ntmps6
    go_wp2_with (first | (go_at_call 12; (with_reducible refine (HSZ.out _ bcur.out).mono ?_); rintro e wa ⟨rfl, b1⟩; have bn := hid (bcur.out.next b1); have mn := hid ((b1.block _ (lt_of_block mb.out)).trans mb.out); clear bcur mb b1; have bcur := bn; have mb := mn; clear bn mn; obtain ⟨ca0, ca1, ca2, ca3, ca4, ca5⟩ := MBox.cells mb.out; clear HSZ) | (go_at_call 12; (with_reducible refine (HS1.out _ bcur.out).mono ?_); rintro e wb ⟨rfl, b1⟩; have bn := hid (bcur.out.next b1); have mn := hid ((b1.block _ (lt_of_block mb.out)).trans mb.out); clear bcur mb b1; have bcur := bn; have mb := mn; clear bn mn; obtain ⟨cb0, cb1, cb2, cb3, cb4, cb5⟩ := MBox.cells mb.out; clear HS1) | (go_at_call 12; (with_reducible refine (HS2.out _ bcur.out).mono ?_); rintro e wc ⟨rfl, b1⟩; have bn := hid (bcur.out.next b1); have mn := hid ((b1.block _ (lt_of_block mb.out)).trans mb.out); clear bcur mb b1; have bcur := bn; have mb := mn; clear bn mn; obtain ⟨cc0, cc1, cc2, cc3, cc4, cc5⟩ := MBox.cells mb.out; clear HS2) | (go_at_call 7; (with_reducible refine (HEN.out _ bcur.out).mono ?_); rintro e wd ⟨rfl, b1⟩; have bn := hid (bcur.out.next b1); have mn := hid ((b1.block _ (lt_of_block mb.out)).trans mb.out); clear bcur mb b1; have bcur := bn; have mb := mn; clear bn mn; obtain ⟨cd0, cd1, cd2, cd3, cd4, cd5⟩ := MBox.cells mb.out; clear HEN) | (go_at_call 7; (with_reducible refine (HEB.out _).mono ?_); rintro e wf ⟨rfl, b1⟩; have bn := hid ((bcur.out.next (below_alloc _ _)).next b1); clear bcur b1; have bcur := bn; clear bn) | (go_at_call 15; refine (HSP.out _).mono ?_; rintro e wg ⟨rfl, b1⟩; have HF := hid (bcur.out.next b1)))
    go_ret
    exact ⟨rfl, HF.out⟩
  · subst h3
    have x3 : ¬ (n : Int) < 0 := by omega
    have x4 : ¬ (sn : Int) < (n : Int) := by omega
    by_cases hEM : EM = 0
    case neg =>
      have x1 : (EM != 0) = true := by simp [hEM]
      clear HLEN HML HMB HSB HZ0
      go_enter Try.func6, Try.ntmps6
      go_wp2_with (first | (go_at_call 12; (with_reducible refine (HSZ.out _ bcur.out).mono ?_); rintro e wa ⟨rfl, b1⟩; have bn := hid (bcur.out.next b1); have mn := hid ((b1.block _ (lt_of_block mb.out)).trans mb.out); clear bcur mb b1; have bcur := bn; have mb := mn; clear bn mn; obtain ⟨ca0, ca1, ca2, ca3, ca4, ca5⟩ := MBox.cells mb.out; clear HSZ) | (go_at_call 12; (with_reducible refine (HS1.out _ bcur.out).mono ?_); rintro e wb ⟨rfl, b1⟩; have bn := hid (bcur.out.next b1); have mn := hid ((b1.block _ (lt_of_block mb.out)).trans mb.out); clear bcur mb b1; have bcur := bn; have mb := mn; clear bn mn; obtain ⟨cb0, cb1, cb2, cb3, cb4, cb5⟩ := MBox.cells mb.out; clear HS1) | (go_at_call 12; (with_reducible refine (HS2.out _ bcur.out).mono ?_); rintro e wc ⟨rfl, b1⟩; have bn := hid (bcur.out.next b1); have mn := hid ((b1.block _ (lt_of_block mb.out)).trans mb.out); clear bcur mb b1; have bcur := bn; have mb := mn; clear bn mn; obtain ⟨cc0, cc1, cc2, cc3, cc4, cc5⟩ := MBox.cells mb.out; clear HS2) | (go_at_call 7; (with_reducible refine (HEN.out _ bcur.out).mono ?_); rintro e wd ⟨rfl, b1⟩; have bn := hid (bcur.out.next b1); have mn := hid ((b1.block _ (lt_of_block mb.out)).trans mb.out); clear bcur mb b1; have bcur := bn; have mb := mn; clear bn mn; obtain ⟨cd0, cd1, cd2, cd3, cd4, cd5⟩ := MBox.cells mb.out; clear HEN) | (go_at_call 7; (with_reducible refine (HEB.out _).mono ?_); rintro e wf ⟨rfl, b1⟩; have bn := hid ((bcur.out.next (below_alloc _ _)).next b1); clear bcur b1; have bcur := bn; clear bn) | (go_at_call 15; refine (HSP.out _).mono ?_; rintro e wg ⟨rfl, b1⟩; have HF := hid (bcur.out.next b1)))
      go_ret
      exact ⟨rfl, HF.out⟩
    by_cases hEB : EB = 0
    case neg =>
      subst hEM
      have x2 : (EB != 0) = true := by simp [hEB]
      clear HLEN HML HMB HSB HZ0
      go_enter Try.func6, Try.ntmps6
      go_wp2_with (first | (go_at_call 12; (with_reducible refine (HSZ.out _ bcur.out).mono ?_); rintro e wa ⟨rfl, b1⟩; have bn := hid (bcur.out.next b1); have mn := hid ((b1.block _ (lt_of_block mb.out)).trans mb.out); clear bcur mb b1; have bcur := bn; have mb := mn; clear bn mn; obtain ⟨ca0, ca1, ca2, ca3, ca4, ca5⟩ := MBox.cells mb.out; clear HSZ) | (go_at_call 12; (with_reducible refine (HS1.out _ bcur.out).mono ?_); rintro e wb ⟨rfl, b1⟩; have bn := hid (bcur.out.next b1); have mn := hid ((b1.block _ (lt_of_block mb.out)).trans mb.out); clear bcur mb b1; have bcur := bn; have mb := mn; clear bn mn; obtain ⟨cb0, cb1, cb2, cb3, cb4, cb5⟩ := MBox.cells mb.out; clear HS1) | (go_at_call 12; (with_reducible refine (HS2.out _ bcur.out).mono ?_); rintro e wc ⟨rfl, b1⟩; have bn := hid (bcur.out.next b1); have mn := hid ((b1.block _ (lt_of_block mb.out)).trans mb.out); clear bcur mb b1; have bcur := bn; have mb := mn; clear bn mn; obtain ⟨cc0, cc1, cc2, cc3, cc4, cc5⟩ := MBox.cells mb.out; clear HS2) | (go_at_call 7; (with_reducible refine (HEN.out _ bcur.out).mono ?_); rintro e wd ⟨rfl, b1⟩; have bn := hid (bcur.out.next b1); have mn := hid ((b1.block _ (lt_of_block mb.out)).trans mb.out); clear bcur mb b1; have bcur := bn; have mb := mn; clear bn mn; obtain ⟨cd0, cd1, cd2, cd3, cd4, cd5⟩ := MBox.cells mb.out; clear HEN) | (go_at_call 7; (with_reducible refine (HEB.out _).mono ?_); rintro e wf ⟨rfl, b1⟩; have bn := hid ((bcur.out.next (below_alloc _ _)).next b1); clear bcur b1; have bcur := bn; clear bn) | (go_at_call 15; refine (HSP.out _).mono ?_; rintro e wg ⟨rfl, b1⟩; have HF := hid (bcur.out.next b1)))
      go_ret
      exact ⟨rfl, HF.out⟩
    subst hEM
    subst hEB
    obtain ⟨g1, g2⟩ := HLEN.out rfl rfl rfl
    have y1 : IntKind.i64.wrap ((SM.size : Int) - Z) = (SM.size : Int) - Z := by have := HML.out; have := HSB.out; rw [IntKind.wrap_i64]; omega
    have y2 : IntKind.i64.wrap ((SB.size : Int) + 2) = (SB.size : Int) + 2 := by have := HMB.out; rw [IntKind.wrap_i64]; omega
    clear HLEN HML HMB HSB HZ0
    go_enter Try.func6, Try.ntmps6
    go_wp2_with (first | (go_at_call 12; (with_reducible refine (HSZ.out _ bcur.out).mono ?_); rintro e wa ⟨rfl, b1⟩; have bn := hid (bcur.out.next b1); have mn := hid ((b1.block _ (lt_of_block mb.out)).trans mb.out); clear bcur mb b1; have bcur := bn; have mb := mn; clear bn mn; obtain ⟨ca0, ca1, ca2, ca3, ca4, ca5⟩ := MBox.cells mb.out; clear HSZ) | (go_at_call 12; (with_reducible refine (HS1.out _ bcur.out).mono ?_); rintro e wb ⟨rfl, b1⟩; have bn := hid (bcur.out.next b1); have mn := hid ((b1.block _ (lt_of_block mb.out)).trans mb.out); clear bcur mb b1; have bcur := bn; have mb := mn; clear bn mn; obtain ⟨cb0, cb1, cb2, cb3, cb4, cb5⟩ := MBox.cells mb.out; clear HS1) | (go_at_call 12; (with_reducible refine (HS2.out _ bcur.out).mono ?_); rintro e wc ⟨rfl, b1⟩; have bn := hid (bcur.out.next b1); have mn := hid ((b1.block _ (lt_of_block mb.out)).trans mb.out); clear bcur mb b1; have bcur := bn; have mb := mn; clear bn mn; obtain ⟨cc0, cc1, cc2, cc3, cc4, cc5⟩ := MBox.cells mb.out; clear HS2) | (go_at_call 7; (with_reducible refine (HEN.out _ bcur.out).mono ?_); rintro e wd ⟨rfl, b1⟩; have bn := hid (bcur.out.next b1); have mn := hid ((b1.block _ (lt_of_block mb.out)).trans mb.out); clear bcur mb b1; have bcur := bn; have mb := mn; clear bn mn; obtain ⟨cd0, cd1, cd2, cd3, cd4, cd5⟩ := MBox.cells mb.out; clear HEN) | (go_at_call 7; (with_reducible refine (HEB.out _).mono ?_); rintro e wf ⟨rfl, b1⟩; have bn := hid ((bcur.out.next (below_alloc _ _)).next b1); clear bcur b1; have bcur := bn; clear bn) | (go_at_call 15; refine (HSP.out _).mono ?_; rintro e wg ⟨rfl, b1⟩; have HF := hid (bcur.out.next b1)))
    go_ret
    exact ⟨rfl, HF.out⟩
theorem size_walk {w : World} (m : Mg) (h : MOk w m) (n0 : Int) : Calls Try.prog 6 #[m.v, .int .i64 n0] w fun e w' => e = .returned (.bool true) ∧ Below w.heap.size w w' := by
  by_cases k : 0 ≤ n0 ∧ n0 ≤ (m.es.length : Int)
  · exact size_go m h n0 n0.toNat (by omega) (.inr ⟨k.1, k.2, by omega⟩)
  · exact size_go m h n0 m.es.length (Nat.le_refl _) (.inl ⟨by omega, rfl⟩)
end Go.Proofs.Ytjphfpfagnhelaa
