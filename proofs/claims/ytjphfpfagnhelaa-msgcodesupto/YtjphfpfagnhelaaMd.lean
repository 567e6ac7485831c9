import Derived.Test.YtjphfpfagnhelaaMc
import Derived.Test.YtjphfpfagnhelaaEh
namespace Go.Proofs.Ytjphfpfagnhelaa
open Go.RowKit Go.Maps Go.Shelf

/-- the bytes of entries, one behind the other -/
def encs (l : List Ent) : List UInt8 := l.flatMap encE
theorem encs_append (a b : List Ent) : encs (a ++ b) = encs a ++ encs b := by simp [encs]
theorem encs_cons (x : Ent) (l : List Ent) : encs (x :: l) = encE x ++ encs l := by simp [encs]
theorem txE_len (s : ByteArray) (h : s.size ≤ 4096) : (txE s).length ≤ 4106 ∧ 1 ≤ (txE s).length := by
  have := uEnc_len64 s.size (by omega)
  unfold txE
  rw [List.length_append]
  have e : s.data.toList.length = s.size := by rw [Array.length_toList]; rfl
  omega
theorem encE_len (x : Ent) (h : rgt x = true) (hx : x.Ok) : (encE x).length ≤ 12378 ∧ 9 ≤ (encE x).length := by
  obtain ⟨h1, h2, h3, h4, h5, h6⟩ := rgt_parts h
  have a1 := uEnc_len64 x.V.toNat (by omega)
  have a2 := uEnc_len64 x.C.toNat (by omega)
  have a3 := uEnc_len64 x.R.toNat (by omega)
  have a4 := uEnc_len64 _ (zig_lt _ hx.k)
  have a5 := uEnc_len64 _ (zig_lt _ hx.a)
  have a6 := uEnc_len64 _ (zig_lt _ hx.n)
  have a7 := txE_len _ h4
  have a8 := txE_len _ h5
  have a9 := txE_len _ h6
  unfold encE
  simp only [List.length_append]
  omega
theorem encs_len : ∀ l : List Ent, l.all rgt = true → (∀ y ∈ l, y.Ok) → (encs l).length ≤ 12378 * l.length
  | [], _, _ => by simp [encs]
  | x :: l, h, hk => by
    rw [List.all_cons, Bool.and_eq_true] at h
    have a := encE_len x h.1 (hk x List.mem_cons_self)
    have b := encs_len l h.2 fun y hy => hk y (List.mem_cons_of_mem _ hy)
    rw [encs_cons, List.length_append, List.length_cons]
    omega
theorem allT {l : List Ent} {j : Nat} (hj : j < l.length) (h : (l.take j).all rgt = true) (h2 : rgt l[j] = true) : (l.take (j + 1)).all rgt = true := by
  rw [List.take_succ_eq_append_getElem hj, List.all_append, h]
  simp [h2]
theorem allF {l : List Ent} {j : Nat} (hj : j < l.length) (h2 : rgt l[j] = false) : l.all rgt = false := by
  rw [List.all_eq_false]
  exact ⟨l[j], List.getElem_mem hj, by simp [h2]⟩
theorem encs_take {l : List Ent} {j : Nat} (hj : j < l.length) : encs (l.take (j + 1)) = encs (l.take j) ++ encE l[j] := by
  rw [List.take_succ_eq_append_getElem hj, encs_append]
  simp [encs]
set_option maxRecDepth 100000 in
set_option maxHeartbeats 2000000 in
theorem ents_any {w : World} {v : Value} {l : List Ent} (h : ELie w v l) (hok : ∀ y ∈ l, y.Ok) (hn : l.length ≤ 2000000) :
    Calls Try.prog 29 #[v] w fun e w' => (l.all rgt = true → e = .returned (.string (st (encs l)))) ∧ (l.all rgt = false → e = .panicked [brk 4]) ∧ Below w.heap.size w w' := by
  obtain ⟨ao, cap, rfl, hlc, hcm, hcell⟩ := h
  have HC := hid hcell
  unfold maxLen at hcm
  clear hcell
  obtain ⟨n, hnn⟩ : ∃ n, n = l.length := ⟨_, rfl⟩
  rw [← hnn] at hlc hn ⊢
  have HN := hid hnn
  have HOK := hid hok
  clear hnn hok
  have NO := hid need_ok
  have NN := hid need_no
  go_enter Try.func29, Try.ntmps29
  go_wp2
  go_loopw [11] (fun i wr => ∃ j : Nat, i = .int .i64 j ∧ j ≤ n ∧ Hid ((l.take j).all rgt = true) ∧ Hid (Lib.IsBuilder 92 5 w.heap.size w.heap.size (Lib.byteCells (encs (l.take j))) wr) ∧ Hid (Below w.heap.size w wr)) (fun i _ => n - (intOf i).toNat)
  case atStart =>
    refine ⟨0, rfl, Nat.zero_le _, hid rfl, hid (.inl ⟨Nat.le_refl _, .slice none 0 0, ?_, ⟨rfl, .inl ⟨rfl, rfl⟩⟩, by intro e; cases e⟩), hid (below_alloc _ _)⟩
    exact box_at _ _
  case round =>
    obtain ⟨j, rfl, hj, HT, HI, HB⟩ := hrel
    rename World => wr
    by_cases hlt : j < n
    · have hjl : j < l.length := by rw [← HN.out]; exact hlt
      obtain ⟨gb, off, ea, hgb, hat⟩ := HC.out j hjl
      subst ea
      have hat' := hat.same (HB.out.block gb hgb)
      obtain ⟨x, hx⟩ : ∃ x, x = l[j] := ⟨_, rfl⟩
      have HX := hid hx
      have hxo : x.Ok := by rw [hx]; exact HOK.out _ (List.getElem_mem hjl)
      rw [← hx] at hat'
      clear hat hx
      obtain ⟨c0, c1, c2, c3, c4, c5, c6, c7, c8⟩ := hat'
      cases hr : rgt x with
      | true =>
        have HE := hid (encode_ok x hr hxo)
        have HL := hid (encE_len x hr hxo)
        have HT2 := hid (allT hjl HT.out (by rw [← HX.out]; exact hr))
        have HF : Hid (encs (l.take (j + 1)) = encs (l.take j) ++ encE x) := hid (by rw [encs_take hjl, ← HX.out])
        have HLN : Hid ((encs (l.take j)).length ≤ 12378 * 2000000) := hid (by
          have := encs_len (l.take j) HT.out (fun y hy => HOK.out y (List.mem_of_mem_take hy))
          rw [List.length_take] at this
          omega)
        clear hr HX hxo
        obtain ⟨en, hen⟩ : ∃ en, en = encE x := ⟨_, rfl⟩
        rw [← hen] at HE HF HL
        clear hen
        obtain ⟨V, C, R, K, A, N, p, t, d⟩ := x
        simp only [Ent.v] at HE c0 c1 c2 c3 c4 c5 c6 c7 c8
        go_wp2_with (first | (go_at_call 52; refine (HE.out _).mono ?_; rintro e w1 ⟨rfl, b1⟩; have B1 := hid b1; clear b1) | (go_at_call 32; refine (NO.out _ _).mono ?_; rintro e w2 ⟨rfl, rfl⟩) | (go_at_call 53; fail))
        have b2 : Below wr.heap.size wr w2 := (below_alloc wr _).next B1.out
        have sz : (st en).size = en.length := st_size en
        have hI2 := IsB.below HI.out b2
        refine (wrs_any w.heap.size w.heap.size (encs (l.take j)) (st en) w2 hI2 (by have := HLN.out; have := HL.out; omega) (by have := HB.out.size; have := b2.size; omega)).mono ?_
        rintro e w3 ⟨rfl, hI3, b3⟩
        have HI3 : Hid (Lib.IsBuilder 92 5 w.heap.size w.heap.size (Lib.byteCells (encs (l.take (j + 1)))) w3) := hid (by rw [HF.out]; rw [st_list] at hI3; exact hI3)
        have HB3 : Hid (Below w.heap.size w w3) := hid ((HB.out.trans (b2.mono HB.out.size)).trans b3)
        clear hI3 b3 b2 hI2 B1 HI HB sz
        go_wp2
        go_roundw
        case rel => exact ⟨j + 1, by go_num, by omega, HT2, HI3, HB3⟩
        case measure => simp [intOf]; omega
      | false =>
        have HE := hid (encode_no x hr)
        have HT2 := hid (allF hjl (by rw [← HX.out]; exact hr))
        clear hr HX hxo
        obtain ⟨V, C, R, K, A, N, p, t, d⟩ := x
        simp only [Ent.v] at HE c0 c1 c2 c3 c4 c5 c6 c7 c8
        go_wp2_with (first | (go_at_call 52; refine (HE.out _).mono ?_; rintro e w1 ⟨rfl, b1⟩; have B1 := hid b1; clear b1) | (go_at_call 32; refine (NN.out _ _).mono ?_; rintro e w2 ⟨rfl, rfl⟩))
        refine ⟨rfl, fun e => ?_, fun _ => rfl, HB.out.trans (((below_alloc wr _).next B1.out).mono HB.out.size)⟩
        rw [HT2.out] at e
        cases e
    · have hjn : j = n := by omega
      have HL2 : Hid (l.take j = l) := hid (by rw [hjn, HN.out, List.take_length])
      clear hjn
      go_wp2_with (go_at_call 54; fail)
      refine (string_call w.heap.size w.heap.size (encs (l.take j)) wr HI.out HB.out.size).mono ?_
      rintro e w2 ⟨rfl, b2⟩
      go_wp2
      go_ret
      rw [HL2.out]
      refine ⟨fun _ => rfl, fun e => ?_, HB.out.trans b2⟩
      have := HT.out
      rw [HL2.out] at this
      rw [this] at e
      cases e
end Go.Proofs.Ytjphfpfagnhelaa
