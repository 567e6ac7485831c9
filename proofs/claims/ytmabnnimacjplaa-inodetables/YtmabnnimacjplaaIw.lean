import Derived.Test.YtmabnnimacjplaaIu
namespace Go.Proofs.Ytmabnnimacjplaa
open Go.RowKit Go.Maps

/-- what the reference's Decode answers -/
def RDec : Prop := ∀ (y : ByteArray) (w : World), Calls Try.prog 12 #[.string y] w fun x w' => x = .returned (.tuple #[(decI y.data.toList).v, .int .i64 (decE y.data.toList)]) ∧ Below w.heap.size w w'
theorem eqOne (n : Ino) (w : World) : (Op.equalIn 10000 24 n.v n.v).run Try.prog w = .ok true w := by rw [eqI]; simp
theorem ret17 {a : Act} {w : World} {R : Nat} {m : Ino} {e : Int} {post : Ending → World → Prop} (hb : Box R w m) (h2 : a.tmps.getD 4 undef = .pointer (some ⟨R, 0, none⟩)) (h3 : a.tmps.getD 5 undef = .int .i64 e) (hd : a.defers = []) (hp : post (.returned (.tuple #[m.v, .int .i64 e])) w) : bodyPost Try.prog Try.f17 post .ret a w := by
  refine bodyPost_ret (v := .tuple #[m.v, .int .i64 e]) ?_ hd hp
  rw [results_cell_tmp (p := 4) (u := 5) (ty := 24) rfl, h2, h3]
  simp [asAddr, Result.andThen, load24 hb]
set_option maxRecDepth 100000 in
set_option maxHeartbeats 1000000 in
theorem rget_ok (b u : ByteArray) (n lo hi : Nat) (m : Ino) (x : Int) (hb : b.size = 128) (hu : b.extract lo hi = u) (h1 : IntKind.i64.wrap (32 * (n : Int)) = (lo : Int)) (h2 : IntKind.i64.wrap ((lo : Int) + 32) = (hi : Int)) (l1 : lo ≤ hi) (l2 : hi ≤ 128)
    (HC : ∀ w, Calls Try.prog 45 #[.string b, .int .i64 n, .int .i64 4] w fun e w' => e = .returned (.int .i64 0) ∧ w' = w) (HD : ∀ w, Calls Try.prog 12 #[.string u] w fun e w' => e = .returned (.tuple #[m.v, .int .i64 x]) ∧ Below w.heap.size w w') (w : World) :
    Calls Try.prog 17 #[.string b, .int .i64 n] w fun e w' => e = .returned (.tuple #[m.v, .int .i64 x]) ∧ Below w.heap.size w w' := by
  have l1' : (lo : Int) ≤ hi := by omega
  have l2' : (hi : Int) ≤ 128 := by omega
  have HB0 : Hid (Box w.heap.size (w.alloc (.cells #[.int .i64 0, .int .i64 0, .int .i64 0, .int .i64 0, .int .i64 0, .int .i64 0, .int .i64 0, .int .i64 0, .int .i64 0, .int .i64 0, .int .i64 0] 24)) Ino.zero) := box_at _ _
  replace HC := hid HC
  replace HD := hid HD
  rw [← hu] at HD
  clear hu
  go_enter Try.func17, Try.ntmps17
  go_wp2_with (first
    | (go_at_call 45; refine (HC.out _).mono ?_; rintro e w1 ⟨rfl, hw1⟩; rw [← hw1] at HB0; have HW : Hid (Below w.heap.size w w1) := (by rw [hw1]; exact below_alloc w _); clear hw1)
    | (go_at_call 12; refine (HD.out _).mono ?_; rintro e w3 ⟨rfl, hb3⟩; replace HB0 := hid (HB0.out.below hb3); replace HW := hid (HW.out.next hb3); clear hb3)
    | ((with_reducible refine at_store24 w.heap.size Ino.zero m ?_ ?_ HB0.out ?_); rfl; rfl; intro w4 hB4 hk4))
  exact ret17 hB4 rfl rfl rfl ⟨rfl, HW.out.trans (hk4.below HW.out.size (Nat.le_refl _))⟩
set_option maxRecDepth 100000 in
set_option maxHeartbeats 1000000 in
theorem rget_any (hD : RDec) (b : ByteArray) (k : Int) (w : World) : Calls Try.prog 17 #[.string b, .int .i64 k] w fun e w' => e = .returned (.tuple #[(getI b k).v, .int .i64 (getE b k)]) ∧ Below w.heap.size w w' := by
  have HC := hid (asked_any b k 4)
  by_cases h : parE b k 4 = 0
  · have e1 : getI b k = decI (b.extract (32 * k.toNat) (32 * k.toNat + 32)).data.toList := by unfold getI; rw [if_pos h]
    have e2 : getE b k = decE (b.extract (32 * k.toNat) (32 * k.toNat + 32)).data.toList := by unfold getE; rw [if_pos h]
    rw [e1, e2]
    rw [h] at HC
    obtain ⟨hb, n, rfl, hn⟩ := par_ok h
    exact rget_ok b _ n (32 * n) (32 * n + 32) _ _ hb rfl (by rw [IntKind.wrap_i64]; omega) (by rw [IntKind.wrap_i64]; omega) (by omega) (by omega) HC.out (hD (b.extract (32 * n) (32 * n + 32))) w
  · have e1 : getI b k = Ino.zero := by unfold getI; rw [if_neg h]
    have e2 : getE b k = parE b k 4 := by unfold getE; rw [if_neg h]
    rw [e1, e2]
    have HB0 : Hid (Box w.heap.size (w.alloc (.cells #[.int .i64 0, .int .i64 0, .int .i64 0, .int .i64 0, .int .i64 0, .int .i64 0, .int .i64 0, .int .i64 0, .int .i64 0, .int .i64 0, .int .i64 0] 24)) Ino.zero) := box_at _ _
    obtain ⟨e, he⟩ : ∃ e, e = parE b k 4 := ⟨_, rfl⟩
    rw [← he] at HC h ⊢
    clear he e1 e2 hD
    go_enter Try.func17, Try.ntmps17
    go_wp2_with (first
      | (go_at_call 45; refine (HC.out _).mono ?_; rintro e w1 ⟨rfl, hw1⟩; rw [← hw1] at HB0; have HW : Hid (Below w.heap.size w w1) := (by rw [hw1]; exact below_alloc w _); clear hw1)
      | ((with_reducible refine at_store24 w.heap.size Ino.zero Ino.zero ?_ ?_ HB0.out ?_); rfl; rfl; intro w4 hB4 hk4))
    exact ret17 hB4 rfl rfl rfl ⟨rfl, HW.out.trans (hk4.below HW.out.size (Nat.le_refl _))⟩
set_option maxRecDepth 100000 in
set_option maxHeartbeats 1000000 in
theorem rput_ok (b u : ByteArray) (i lo hi : Nat) (n : Ino) (hb : b.size = 128) (hu : u.size = 32) (h1 : IntKind.i64.wrap (32 * (i : Int)) = (lo : Int)) (h2 : IntKind.i64.wrap ((lo : Int) + 32) = (hi : Int)) (l1 : lo ≤ 128) (l2 : hi ≤ 128)
    (HC : ∀ w, Calls Try.prog 45 #[.string b, .int .i64 i, .int .i64 4] w fun e w' => e = .returned (.int .i64 0) ∧ w' = w) (HE : ∀ w, Calls Try.prog 10 #[n.v] w fun e w' => e = .returned (.tuple #[.string u, .int .i64 0]) ∧ Below w.heap.size w w') (w : World) :
    Calls Try.prog 19 #[.string b, .int .i64 i, n.v] w fun e w' => e = .returned (.tuple #[.string (b.extract 0 lo ++ u ++ b.extract hi 128), .int .i64 0]) ∧ Below w.heap.size w w' := by
  have l1' : (lo : Int) ≤ 128 := by omega
  have l2' : (hi : Int) ≤ 128 := by omega
  have z1 : (b.extract 0 lo).size = lo := by simp; omega
  have z2 : (b.extract hi 128).size = 128 - hi := by simp; omega
  replace HC := hid HC
  replace HE := hid HE
  obtain ⟨k, l, z, a, b1, c, d, e, f, s, t⟩ := n
  simp only [Ino.v] at HE ⊢
  go_enter Try.func19, Try.ntmps19
  go_wp2_with (first
    | (go_at_call 45; refine (HC.out _).mono ?_; rintro e w1 ⟨rfl, rfl⟩)
    | (go_at_call 10; refine (HE.out _).mono ?_; rintro e w2 ⟨rfl, hb2⟩))
  go_quiet ((fail))
  go_wp2
  go_ret2
  exact ⟨rfl, ((below_alloc _ _).next hb2).dN _⟩
set_option maxRecDepth 100000 in
set_option maxHeartbeats 1000000 in
theorem rput_any (b : ByteArray) (k : Int) (n : Ino) (w : World) : Calls Try.prog 19 #[.string b, .int .i64 k, n.v] w fun e w' => e = .returned (.tuple #[.string (putV b k n), .int .i64 (putE b k n)]) ∧ Below w.heap.size w w' := by
  have HC := hid (asked_any b k 4)
  have HE := hid (rencode_any n)
  have HV0 : Hid (putE b k n ≠ 0 → putV b k n = ByteArray.empty) := fun h => by unfold putV; rw [if_neg h]
  by_cases h : parE b k 4 = 0
  · rw [h] at HC
    have e1 : putE b k n = chkE n := by unfold putE; rw [if_pos h]
    by_cases h2 : chkE n = 0
    · have hr := chk_right h2
      obtain ⟨hb, i, rfl, hi⟩ := par_ok h
      have e4 : putV b i n = b.extract 0 (32 * i) ++ st (encL n) ++ b.extract (32 * i + 32) 128 := by
        unfold putV
        rw [if_pos (by rw [e1, h2])]
        rfl
      rw [e4, e1, h2]
      have e3 : encV n = st (encL n) := by unfold encV; rw [if_pos hr]
      rw [e3, h2] at HE
      exact rput_ok b (st (encL n)) i (32 * i) (32 * i + 32) n hb (by rw [st_size, encL_len]) (by rw [IntKind.wrap_i64]; omega) (by rw [IntKind.wrap_i64]; omega) (by omega) (by omega) HC.out HE.out w
    · rw [HV0.out (by rw [e1]; exact h2), e1]
      obtain ⟨x, hx⟩ : ∃ x, x = chkE n := ⟨_, rfl⟩
      obtain ⟨u, hu⟩ : ∃ x, x = encV n := ⟨_, rfl⟩
      rw [← hx] at HE h2 ⊢
      rw [← hu] at HE
      clear hx hu e1 h HV0
      obtain ⟨k, l, z, a, b1, c, d, e, f, s, t⟩ := n
      simp only [Ino.v] at HE ⊢
      go_enter Try.func19, Try.ntmps19
      go_wp2_with (first
        | (go_at_call 45; refine (HC.out _).mono ?_; rintro e w1 ⟨rfl, rfl⟩)
        | (go_at_call 10; refine (HE.out _).mono ?_; rintro e w2 ⟨rfl, hb2⟩))
      go_ret2
      exact ⟨rfl, (below_alloc _ _).next hb2⟩
  · have e1 : putE b k n = parE b k 4 := by unfold putE; rw [if_neg h]
    rw [e1] at HV0 ⊢
    rw [HV0.out h]
    obtain ⟨e, he⟩ : ∃ e, e = parE b k 4 := ⟨_, rfl⟩
    rw [← he] at HC h ⊢
    clear he e1 HV0 HE
    obtain ⟨k, l, z, a, b1, c, d, e, f, s, t⟩ := n
    simp only [Ino.v]
    go_enter Try.func19, Try.ntmps19
    go_wp2_with (first | (go_at_call 45; refine (HC.out _).mono ?_; rintro e w1 ⟨rfl, rfl⟩))
    go_ret2
    exact ⟨rfl, below_alloc _ _⟩
theorem box_new (w : World) (n : Ino) : Box w.heap.size (w.alloc (.cells #[.int .i64 n.k, .int .i64 n.l, .int .i64 n.z, .int .i64 n.a, .int .i64 n.b, .int .i64 n.c, .int .i64 n.d, .int .i64 n.e, .int .i64 n.f, .int .i64 n.s, .int .i64 n.t] 24)) n := box_at _ _
set_option maxRecDepth 100000 in
set_option maxHeartbeats 4000000 in
theorem tables_w (hD : RDec) (b : ByteArray) (k : Int) (n : Ino) (w : World) : Calls Try.prog 4 #[.string b, .int .i64 k, n.v] w fun x w' => x = .returned (.bool true) ∧ Below w.heap.size w w' := by
  have HG := hid (get_any b k)
  have HH := hid (rget_any hD b k)
  have HP := hid (put_any b k n)
  have HQ := hid (rput_any b k n)
  have HS := hid speaks_any
  clear hD
  obtain ⟨g, hg⟩ : ∃ g, g = getI b k := ⟨_, rfl⟩
  obtain ⟨x, hx⟩ : ∃ g, g = getE b k := ⟨_, rfl⟩
  obtain ⟨v, hv⟩ : ∃ g, g = putV b k n := ⟨_, rfl⟩
  obtain ⟨y, hy⟩ : ∃ g, g = putE b k n := ⟨_, rfl⟩
  rw [← hg, ← hx] at HG HH
  rw [← hv, ← hy] at HP HQ
  clear hg hx hv hy
  have heq := eqOne g
  obtain ⟨k0, l, z, a, b1, cc, d, e, f, s, t⟩ := n
  obtain ⟨gk, gl, gz, ga, gb, gc, gd, ge, gf, gs, gt⟩ := g
  simp only [Ino.v] at heq HG HH HP HQ ⊢
  have HN : Hid (Box w.heap.size (w.alloc (.cells #[.int .i64 k0, .int .i64 l, .int .i64 z, .int .i64 a, .int .i64 b1, .int .i64 cc, .int .i64 d, .int .i64 e, .int .i64 f, .int .i64 s, .int .i64 t] 24)) ⟨k0, l, z, a, b1, cc, d, e, f, s, t⟩) := box_at _ _
  have HW : Hid (Below w.heap.size w (w.alloc (.cells #[.int .i64 k0, .int .i64 l, .int .i64 z, .int .i64 a, .int .i64 b1, .int .i64 cc, .int .i64 d, .int .i64 e, .int .i64 f, .int .i64 s, .int .i64 t] 24))) := below_alloc _ _
  go_enter Try.func4, Try.ntmps4
  go_wp2_with (first
    | (go_at_call 16; refine (HG.out _).mono ?_; rintro x w1 ⟨rfl, hb1⟩; replace HN := hid (HN.out.below hb1); replace HW := hid (HW.out.next hb1); clear hb1)
    | (go_at_call 17; refine (HH.out _).mono ?_; rintro x w2 ⟨rfl, hb2⟩; have H7 := hid ((box_new w1 ⟨gk, gl, gz, ga, gb, gc, gd, ge, gf, gs, gt⟩).below hb2); replace HN := hid ((HN.out.below (below_alloc _ _)).below hb2); replace HW := hid ((HW.out.next (below_alloc _ _)).next hb2); clear hb2; obtain ⟨c0, c1, c2, c3, c4, c5, c6, c7, c8, c9, c10⟩ := HN.out.cells; have hlt := HN.out.lt)
    | (go_at_call 18; clear c0 c1 c2 c3 c4 c5 c6 c7 c8 c9 c10 hlt; refine (HP.out _).mono ?_; rintro x w3 ⟨rfl, hb3⟩; have H9 := hid ((box_new w2 ⟨gk, gl, gz, ga, gb, gc, gd, ge, gf, gs, gt⟩).below hb3); replace H7 := hid ((H7.out.below (below_alloc _ _)).below hb3); replace HN := hid ((HN.out.below (below_alloc _ _)).below hb3); replace HW := hid ((HW.out.next (below_alloc _ _)).next hb3); clear hb3; obtain ⟨c0, c1, c2, c3, c4, c5, c6, c7, c8, c9, c10⟩ := HN.out.cells)
    | (go_at_call 19; clear c0 c1 c2 c3 c4 c5 c6 c7 c8 c9 c10; refine (HQ.out _).mono ?_; rintro x w4 ⟨rfl, hb4⟩; replace H7 := hid (H7.out.below hb4); replace H9 := hid (H9.out.below hb4); replace HW := hid (HW.out.next hb4); clear hb4 HN; obtain ⟨c0, c1, c2, c3, c4, c5, c6, c7, c8, c9, c10⟩ := H7.out.cells; obtain ⟨e0, e1, e2, e3, e4, e5, e6, e7, e8, e9, e10⟩ := H9.out.cells)
    | (go_at_call 15; refine (HS.out _).mono ?_; rintro x w5 ⟨rfl, hb5⟩; replace HW := hid (HW.out.next hb5); clear hb5))
  go_ret
  exact ⟨rfl, HW.out⟩
end Go.Proofs.Ytmabnnimacjplaa
