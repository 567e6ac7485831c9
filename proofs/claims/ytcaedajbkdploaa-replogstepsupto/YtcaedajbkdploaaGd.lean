import Derived.Test.YtcaedajbkdploaaGc
namespace Go.Proofs.Ytcaedajbkdploaa
open Go.RowKit Go.Maps

/-- what Replace answers -/
def rpE (l : List Ent) (k : Int) (m : List Ent) : Int :=
  if k < 0 ∨ (l.length : Int) < k then 1 else if m.all rgt = false then 4 else if fallB (lastV (l.take k.toNat)) m then 7 else if (4096 : Int) - k < m.length then 5 else 0
def rpL (l : List Ent) (k : Int) (m : List Ent) : List Ent := if rpE l k m = 0 then l.take k.toNat ++ m else l
theorem replace_arg {p : Value} {w : World} {l : List Ent} (k : Int) (v : Value) (h : LN p w l) (hk : k < 0 ∨ (l.length : Int) < k) : Calls Try.prog 17 #[p, .int .i64 k, v] w fun e w' => e = .returned (.int .i64 1) ∧ w' = w := by
  have HL := hid (len_g h)
  clear h
  by_cases h0 : k < 0
  · clear hk
    go_enter Try.func17, Try.ntmps17
    go_wp2
    go_ret
    exact ⟨rfl, rfl⟩
  · have h1 : (l.length : Int) < k := by omega
    clear hk
    go_enter Try.func17, Try.ntmps17
    go_wp2_with (first | (go_at_call 21; refine (HL.out).mono ?_; rintro e w1 ⟨rfl, hw⟩; subst hw))
    go_ret
    exact ⟨rfl, rfl⟩
theorem replace_form {p : Value} {w : World} {l m : List Ent} (k : Nat) (v : Value) (h : LN p w l) (hm : ELie w v m) (hk : k ≤ l.length) (hr : m.all rgt = false) : Calls Try.prog 17 #[p, .int .i64 k, v] w fun e w' => e = .returned (.int .i64 4) ∧ Below w.heap.size w w' := by
  have HL := hid (len_g h)
  have HR := hid (allRight_any hm)
  rw [hr] at HR
  clear h hm hr
  have h1 : ¬ (l.length : Int) < k := by omega
  go_enter Try.func17, Try.ntmps17
  go_wp2_with (first
    | (go_at_call 21; refine (HL.out).mono ?_; rintro e w1 ⟨rfl, hw⟩; subst hw)
    | (go_at_call 44; refine (HR.out).mono ?_; rintro e w2 ⟨rfl, hb2⟩))
  go_ret
  exact ⟨rfl, hb2⟩
set_option maxRecDepth 100000 in
theorem replace_state {p : Value} {w : World} {l m : List Ent} (k : Nat) (v : Value) (h : LN p w l) (hm : ELie w v m) (hk : k ≤ l.length) (hr : m.all rgt = true) (hf : fallB (lastV (l.take k)) m = true) : Calls Try.prog 17 #[p, .int .i64 k, v] w fun e w' => e = .returned (.int .i64 7) ∧ Below w.heap.size w w' := by
  have HL := hid (len_g h)
  have HR := hid (allRight_any hm)
  rw [hr] at HR
  have HC := hid (fun w' (b : Below w.heap.size w w') => cut_g (h.below b) 0 k (Nat.zero_le _) hk)
  have HV := hid (fun w' u (hu : ELie w' u (l.take k)) => lastView_any hu)
  have HF := hid (fun q w' (b : Below w.heap.size w w') => fall_any q (hm.below b))
  obtain ⟨q, hq⟩ : ∃ q, q = lastV (l.take k) := ⟨_, rfl⟩
  rw [← hq] at HV hf
  have HF2 := hid (HF.out q)
  rw [hf] at HF2
  clear h hm hr hf HF hq
  simp only [List.drop_zero] at HC
  have h1 : ¬ (l.length : Int) < k := by omega
  go_enter Try.func17, Try.ntmps17
  go_wp2_with (first
    | (go_at_call 21; refine (HL.out).mono ?_; rintro e w1 ⟨rfl, hw⟩; subst hw)
    | (go_at_call 44; refine (HR.out).mono ?_; rintro e w2 ⟨rfl, hb2⟩; have HB2 := hid hb2; clear hb2)
    | (go_at_call 47; refine (HC.out _ HB2.out).mono ?_; rintro e w3 ⟨u3, rfl, hu3, hw⟩; subst hw)
    | (go_at_call 46; refine (HV.out _ _ hu3).mono ?_; rintro e w4 ⟨rfl, hw⟩; subst hw)
    | (go_at_call 45; refine (HF2.out _ HB2.out).mono ?_; rintro e w5 ⟨rfl, hb5⟩))
  go_ret
  exact ⟨rfl, HB2.out.next hb5⟩
set_option maxRecDepth 100000 in
theorem replace_nil_state {w : World} {m : List Ent} (v : Value) (hm : ELie w v m) (h0 : m ≠ []) (hr : m.all rgt = true) (hf : fallB 0 m = false) : Calls Try.prog 17 #[.pointer none, .int .i64 0, v] w fun e w' => e = .returned (.int .i64 7) ∧ Below w.heap.size w w' := by
  have HR := hid (allRight_any hm)
  rw [hr] at HR
  have HC := hid cut_nil
  have HV : Hid (∀ w, Calls Try.prog 46 #[.slice none 0 0] w fun e w' => e = .returned (.int .i64 0) ∧ w' = w) := hid fun w => lastView_any (ELie.nil w)
  have HF := hid (fun w' (b : Below w.heap.size w w') => fall_any 0 (hm.below b))
  rw [hf] at HF
  have hpos : 0 < m.length := List.length_pos_iff.2 h0
  obtain ⟨ao, cap, rfl, _, hcm, _⟩ := hm
  clear hr hf h0
  go_enter Try.func17, Try.ntmps17
  go_wp2_with (first
    | (go_at_call 21; refine (len_nil _).mono ?_; rintro e w1 ⟨rfl, hw⟩; subst hw)
    | (go_at_call 44; refine (HR.out).mono ?_; rintro e w2 ⟨rfl, hb2⟩; have HB2 := hid hb2; clear hb2)
    | (go_at_call 47; refine (HC.out _ _ _).mono ?_; rintro e w3 ⟨rfl, hw⟩; subst hw)
    | (go_at_call 46; refine (HV.out _).mono ?_; rintro e w4 ⟨rfl, hw⟩; subst hw)
    | (go_at_call 45; refine (HF.out _ HB2.out).mono ?_; rintro e w5 ⟨rfl, hb5⟩))
  go_ret
  exact ⟨rfl, HB2.out.next hb5⟩
set_option maxRecDepth 100000 in
theorem replace_nil_ok (w : World) : Calls Try.prog 17 #[.pointer none, .int .i64 0, .slice none 0 0] w fun e w' => e = .returned (.int .i64 0) ∧ Below w.heap.size w w' := by
  have hm := ELie.nil w
  have HR := hid (allRight_any hm)
  rw [show ([] : List Ent).all rgt = true from rfl] at HR
  have HC := hid cut_nil
  have HV : Hid (∀ w, Calls Try.prog 46 #[.slice none 0 0] w fun e w' => e = .returned (.int .i64 0) ∧ w' = w) := hid fun w => lastView_any (ELie.nil w)
  have HF : Hid (∀ w, Calls Try.prog 45 #[.int .i64 0, .slice none 0 0] w fun e w' => e = .returned (.bool false) ∧ Below w.heap.size w w') := hid (fun w => fall_any 0 (ELie.nil w))
  clear hm
  go_enter Try.func17, Try.ntmps17
  go_wp2_with (first
    | (go_at_call 21; refine (len_nil _).mono ?_; rintro e w1 ⟨rfl, hw⟩; subst hw)
    | (go_at_call 44; refine (HR.out).mono ?_; rintro e w2 ⟨rfl, hb2⟩; have HB2 := hid hb2; clear hb2)
    | (go_at_call 47; refine (HC.out _ _ _).mono ?_; rintro e w3 ⟨rfl, hw⟩; subst hw)
    | (go_at_call 46; refine (HV.out _).mono ?_; rintro e w4 ⟨rfl, hw⟩; subst hw)
    | (go_at_call 45; refine (HF.out _).mono ?_; rintro e w5 ⟨rfl, hb5⟩))
  go_ret
  exact ⟨rfl, HB2.out.next hb5⟩
theorem retG {fn : Func} (hf : fn.results = #[.cell 4 25, .tmp 5]) {a : Act} {w : World} {R : Nat} {m : Ent} {e : Int} {post : Ending → World → Prop} (hb : Box R w m) (h2 : a.tmps.getD 4 undef = .pointer (some ⟨R, 0, none⟩)) (h3 : a.tmps.getD 5 undef = .int .i64 e) (hd : a.defers = []) (hp : post (.returned (.tuple #[m.v, .int .i64 e])) w) : bodyPost Try.prog fn post .ret a w := by
  refine bodyPost_ret (v := .tuple #[m.v, .int .i64 e]) ?_ hd hp
  rw [results_cell_tmp (p := 4) (u := 5) (ty := 25) hf, h2, h3]
  simp [asAddr, Result.andThen, load25 hb]
theorem ret19 {a : Act} {w : World} {R : Nat} {m : Ent} {e : Int} {post : Ending → World → Prop} (hb : Box R w m) (h2 : a.tmps.getD 4 undef = .pointer (some ⟨R, 0, none⟩)) (h3 : a.tmps.getD 5 undef = .int .i64 e) (hd : a.defers = []) (hp : post (.returned (.tuple #[m.v, .int .i64 e])) w) : bodyPost Try.prog Try.f19 post .ret a w := retG rfl hb h2 h3 hd hp
theorem ret20 {a : Act} {w : World} {R : Nat} {m : Ent} {e : Int} {post : Ending → World → Prop} (hb : Box R w m) (h2 : a.tmps.getD 4 undef = .pointer (some ⟨R, 0, none⟩)) (h3 : a.tmps.getD 5 undef = .int .i64 e) (hd : a.defers = []) (hp : post (.returned (.tuple #[m.v, .int .i64 e])) w) : bodyPost Try.prog Try.f20 post .ret a w := retG rfl hb h2 h3 hd hp
set_option maxRecDepth 100000 in
set_option maxHeartbeats 1000000 in
theorem get_no {p : Value} {w : World} {l : List Ent} (n : Int) (h : LN p w l) (hn : n < 1 ∨ (l.length : Int) < n) : Calls Try.prog 19 #[p, .int .i64 n] w fun e w' => e = .returned (.tuple #[Ent.zero.v, .int .i64 6]) ∧ Below w.heap.size w w' := by
  have HB0 : Hid (Box w.heap.size (w.alloc (.cells #[.int .i64 0, .int .i64 0, .int .i64 0, .int .i64 0, .int .i64 0, .int .i64 0, .string ⟨#[]⟩, .string ⟨#[]⟩, .string ⟨#[]⟩] 25)) Ent.zero) := hid (box_at _ _)
  have HN := hid (fun w' (k : Below w.heap.size w w') => len_g (h.below k))
  clear h
  by_cases h1 : n < 1
  · clear hn
    go_enter Try.func19, Try.ntmps19
    go_wp2_with (first
      | ((with_reducible refine at_store25 w.heap.size Ent.zero Ent.zero ?_ ?_ HB0.out ?_); rfl; rfl; intro wr hBr hkr))
    exact ret19 hBr rfl rfl rfl ⟨rfl, (below_alloc w _).trans (hkr.below (by simp) (Nat.le_refl _))⟩
  · have h2 : (l.length : Int) < n := by omega
    clear hn
    go_enter Try.func19, Try.ntmps19
    go_wp2_with (first
      | (go_at_call 21; refine (HN.out _ (below_alloc w _)).mono ?_; rintro e w1 ⟨rfl, hw⟩; subst hw)
      | ((with_reducible refine at_store25 w.heap.size Ent.zero Ent.zero ?_ ?_ HB0.out ?_); rfl; rfl; intro wr hBr hkr))
    exact ret19 hBr rfl rfl rfl ⟨rfl, (below_alloc w _).trans (hkr.below (by simp) (Nat.le_refl _))⟩
set_option maxRecDepth 100000 in
set_option maxHeartbeats 1000000 in
theorem get_ok {B g : Nat} {w : World} {v : Value} {l : List Ent} (n : Nat) (h : LI 78 B g w v l) (hn : n < l.length) : Calls Try.prog 19 #[.pointer (some ⟨g, 0, none⟩), .int .i64 ((n : Int) + 1)] w fun e w' => e = .returned (.tuple #[l[n].v, .int .i64 0]) ∧ Below w.heap.size w w' := by
  have HB0 : Hid (Box w.heap.size (w.alloc (.cells #[.int .i64 0, .int .i64 0, .int .i64 0, .int .i64 0, .int .i64 0, .int .i64 0, .string ⟨#[]⟩, .string ⟨#[]⟩, .string ⟨#[]⟩] 25)) Ent.zero) := hid (box_at _ _)
  have h' := h.below (below_alloc w (.cells #[.int .i64 0, .int .i64 0, .int .i64 0, .int .i64 0, .int .i64 0, .int .i64 0, .string ⟨#[]⟩, .string ⟨#[]⟩, .string ⟨#[]⟩] 25))
  have hlen := h.len
  have HN := hid (len_any h')
  have c0 := h.c0
  have hgl := h.lt
  obtain ⟨ao, cap, rfl, hlc, hcm, hcell⟩ := h.row.lie
  unfold maxLen at hcm
  obtain ⟨gb, off, rfl, hgb, hat⟩ := hcell n hn
  obtain ⟨x, hx⟩ : ∃ x, x = l[n] := ⟨_, rfl⟩
  rw [← hx] at hat ⊢
  clear hx hcell h h'
  obtain ⟨V, C, R, K, A, N, p, t, d⟩ := x
  obtain ⟨d0, d1, d2, d3, d4, d5, d6, d7, d8⟩ := hat
  simp only [] at d0 d1 d2 d3 d4 d5 d6 d7 d8
  go_enter Try.func19, Try.ntmps19
  go_wp2_with (first
    | (go_at_call 21; refine (HN.out).mono ?_; rintro e w1 ⟨rfl, hw⟩; subst hw)
    | ((with_reducible refine at_store25 w.heap.size Ent.zero ⟨V, C, R, K, A, N, p, t, d⟩ ?_ ?_ HB0.out ?_); rfl; rfl; intro wr hBr hkr))
  exact ret19 hBr rfl rfl rfl ⟨rfl, (below_alloc w _).trans (hkr.below (by simp) (Nat.le_refl _))⟩
end Go.Proofs.Ytcaedajbkdploaa
