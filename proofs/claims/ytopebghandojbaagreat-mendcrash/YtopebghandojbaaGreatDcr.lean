import Derived.Test.YtopebghandojbaaGreatDfl
import Derived.BigRegion
namespace Go.Proofs.YtopebghandojbaaGreat.Dv
open Go.RowKit Go.Maps

/-- a crash, from the i'th write on -/
def crashFrom (pk : Nat → Bool) : Nat → Nat → (Nat → Option ByteArray) → List (Nat × ByteArray) → Nat → Option ByteArray
  | _, _, f, [] => f
  | i, t, f, q :: Q => if pk i then crashFrom pk (i + 1) t (over f q.1 q.2 (cnt q.2)) Q else crashFrom pk (i + 1) 0 (over f q.1 q.2 (min t (cnt q.2))) Q

theorem crash_cons (pk : Nat → Bool) (i t : Nat) (f : Nat → Option ByteArray) (q : Nat × ByteArray) (Q : List (Nat × ByteArray)) :
    crashFrom pk i t f (q :: Q) = if pk i then crashFrom pk (i + 1) t (over f q.1 q.2 (cnt q.2)) Q else crashFrom pk (i + 1) 0 (over f q.1 q.2 (min t (cnt q.2))) Q := rfl
theorem crash_end (pk : Nat → Bool) (i t : Nat) (f : Nat → Option ByteArray) : crashFrom pk i t f [] = f := by cases i <;> rfl
theorem crash_arg (p pv : Value) (t : Int) (ht : ¬ (0 ≤ t ∧ t ≤ 1024)) (w : World) : Calls Tryz.prog 35 #[p, pv, .int .i64 t] w fun e w' => e = .returned (.int .i64 1) ∧ w' = w := by
  by_cases h1 : t < 0
  · go_enter Tryz.func35, Tryz.ntmps35
    go_wp2
    go_ret
    exact ⟨rfl, rfl⟩
  · have h2 : 1024 < t := by omega
    go_enter Tryz.func35, Tryz.ntmps35
    go_wp2
    go_ret
    exact ⟨rfl, rfl⟩
theorem crash_nil (pv : Value) (t : Int) (h1 : 0 ≤ t) (h2 : t ≤ 1024) (w : World) : Calls Tryz.prog 35 #[.pointer none, pv, .int .i64 t] w fun e w' => e = .returned (.int .i64 0) ∧ w' = w := by
  go_enter Tryz.func35, Tryz.ntmps35
  go_wp2
  go_ret
  exact ⟨rfl, rfl⟩
/-- the picks, as they are read -/
structure PIs (w : World) (pv : Value) (len : Nat) (pk : Nat → Bool) (fp : List Nat) : Prop where
  ex : ∃ ao pc, pv = .slice ao len pc ∧ ∀ i, i < len → ∃ pb off, ao = some ⟨pb, off, none⟩ ∧ pb ∉ fp ∧ pb < w.heap.size ∧ w.cell? ⟨pb, off + i, none⟩ = some (.bool (pk i))
  big : len ≤ maxLen
  rest : ∀ i, len ≤ i → pk i = false
theorem PIs.keep {w w' : World} {pv : Value} {len : Nat} {pk : Nat → Bool} {fp : List Nat} (h : PIs w pv len pk fp) (k : Only fp w w') : PIs w' pv len pk fp := by
  obtain ⟨⟨ao, pc, rfl, h4⟩, h5, h6⟩ := h
  refine ⟨⟨ao, pc, rfl, fun i hi => ?_⟩, h5, h6⟩
  obtain ⟨pb, off, e, h1, h2, h3⟩ := h4 i hi
  exact ⟨pb, off, e, h1, Nat.lt_of_lt_of_le h2 k.size, (World.cell?_of_block (k.block pb h2 h1)).trans h3⟩
theorem row_at {w : World} {base : Nat} {v : Value} {Q : List (Nat × ByteArray)} (h : w.ownsRow base 148 2 v Q.length (wc Q)) (j : Nat) (hj : j < Q.length) :
    ∃ b cap, v = .slice (some ⟨b, 0, none⟩) Q.length cap ∧ w.cell? ⟨b, j * 2, none⟩ = some (.int .i64 (Q[j].1 : Int)) ∧ w.cell? ⟨b, j * 2 + 1, none⟩ = some (.string Q[j].2) := by
  have hwc : ∀ (Q : List (Nat × ByteArray)) (j : Nat) (hj : j < Q.length), (wc Q)[j * 2]? = some (.int .i64 (Q[j].1 : Int)) ∧ (wc Q)[j * 2 + 1]? = some (.string Q[j].2) := by
    intro Q
    induction Q with
    | nil => intro j hj; simp at hj
    | cons q Q ih =>
      intro j hj
      have e : wc (q :: Q) = .int .i64 (q.1 : Int) :: .string q.2 :: wc Q := rfl
      rw [e]
      cases j with
      | zero => exact ⟨rfl, rfl⟩
      | succ j =>
        have := ih j (by simpa using hj)
        rw [show (j + 1) * 2 = j * 2 + 1 + 1 by omega, show j * 2 + 1 + 1 + 1 = (j * 2 + 1) + 1 + 1 by omega]
        simpa using this
  obtain ⟨h1, h2⟩ := hwc Q j hj
  obtain ⟨_, e | ⟨b, cap, cur, rfl, e3, e4, e5, e6, e7, e8⟩⟩ := h
  · omega
  · refine ⟨b, cap, rfl, ?_, ?_⟩
    · rw [← e8, List.getElem?_take_of_lt (by omega)] at h1
      simpa [World.cell?, e4] using h1
    · rw [← e8, List.getElem?_take_of_lt (by omega)] at h2
      simpa [World.cell?, e4] using h2
theorem drop_get {α : Type} (Q : List α) (j : Nat) (h : j < Q.length) : Q.drop j = Q[j] :: Q.drop (j + 1) := List.drop_eq_getElem_cons h

/-- a device, its parts named -/
structure DX (base g : Nat) (w : World) (N : Nat) (S : DS) (fp : List Nat) (bl bf : Nat) (wv : Value) : Prop where
  cell : w.heap[g]? = some (.cells #[.int .i64 (S.n : Int), .map (some bl), .map (some bf), wv] 138 (0, 0))
  ne : bl ≠ bf
  ML : MIs bl w N S.L
  MF : MIs bf w N (seen (fun _ => none) S.Q)
  row : w.ownsRow base 148 2 wv S.Q.length (wc S.Q)
  m1 : g ∈ fp
  m2 : bl ∈ fp
  m3 : bf ∈ fp
  m4 : ∀ b, wv.ownBlock = some b → b ∈ fp
  n1 : 1 ≤ S.n
  n2 : S.n ≤ 1024
  ok : ∀ q ∈ S.Q, q.1 + cnt q.2 ≤ S.n ∧ q.2.size ≤ 1000000
  lo : ∀ k ∈ fp, base ≤ k ∧ k < w.heap.size
theorem DX.dis {base g N : Nat} {w : World} {S : DS} {fp : List Nat} {bl bf : Nat} {wv : Value} (h : DX base g w N S fp bl bf wv) : DIs base g w N S fp :=
  ⟨⟨bl, bf, wv, h.cell, h.ne, h.ML, h.MF, h.row, h.m1, h.m2, h.m3, h.m4⟩, h.n1, h.n2, h.ok, h.lo⟩
theorem DX.below {base g N : Nat} {w w' : World} {S : DS} {fp : List Nat} {bl bf : Nat} {wv : Value} (h : DX base g w N S fp bl bf wv) (k : Below w.heap.size w w') : DX base g w' N S fp bl bf wv := by
  have hs := k.size
  refine ⟨(k.block g (lt_of_block h.cell)).trans h.cell, h.ne, h.ML.same (k.block bl h.ML.lt), h.MF.same (k.block bf h.MF.lt), row_same h.row (fun b hb => k.block b (h.row.lt b hb).2), h.m1, h.m2, h.m3, h.m4, h.n1, h.n2, h.ok, fun x hx => ?_⟩
  have := h.lo x hx
  omega
theorem DX.turn {base g N N' : Nat} {w w' : World} {S : DS} {fp : List Nat} {bl bf : Nat} {wv : Value} {L' : Nat → Option ByteArray} (h : DX base g w N S fp bl bf wv) (hM : MIs bl w' N' L') (hg : w.grownBy w' (some bl)) (hN : N ≤ N') : DX base g w' N' ⟨S.n, L', S.Q⟩ fp bl bf wv := by
  obtain ⟨esl, kl1, hml⟩ := h.ML.isMap
  have h1 := h.cell
  have hgl : g ≠ bl := fun e => by rw [e, hml] at h1; cases h1
  have hs := hg.size
  refine ⟨(hg.block g (lt_of_block h1) (fun e => hgl (Option.some.inj e))).trans h1, h.ne, hM, (h.MF.same (hg.block bf h.MF.lt (fun e => h.ne (Option.some.inj e).symm))).mono hN, row_same h.row (fun b hb => hg.block b (h.row.lt b hb).2 (fun e => row_ne_map h.row hml (by rw [← Option.some.inj e]; exact hb))), h.m1, h.m2, h.m3, h.m4, h.n1, h.n2, h.ok, fun k hk => ?_⟩
  have := h.lo k hk
  omega
/-- one write done, of a crash -/
theorem crash_step {base g N : Nat} {S : DS} {fp : List Nat} {bl bf : Nat} {wv : Value} {w wr w5 w6 : World} {N' : Nat} {f : Nat → Option ByteArray} (hD : DX base g wr N S fp bl bf wv) (hO : Only fp w wr) (hb5 : Below wr.heap.size wr w5) (hM6 : MIs bl w6 N' f) (hg6 : w5.grownBy w6 (some bl)) (hN : N ≤ N') :
    DX base g w6 N' ⟨S.n, f, S.Q⟩ fp bl bf wv ∧ Only fp w w6 :=
  ⟨(hD.below hb5).turn hM6 hg6 hN, (hO.trans (Only.of_below hb5) (fun _ hx => .inl hx)).trans (Only.of_grown hg6 hD.m2) (fun _ hx => .inl hx)⟩
theorem bel_ad {w w5 : World} {o : Obj} (h : Below ((w.alloc o).drew).heap.size (w.alloc o).drew w5) : Below w.heap.size w w5 := (below_alloc w o).next (undrew h)
theorem var_ad {w w5 : World} {o : Obj} (h : Below ((w.alloc o).drew).heap.size (w.alloc o).drew w5) : w5.heap[w.heap.size]? = some o :=
  (h.block w.heap.size (by show _ < (w.heap.push o).size; simp)).trans (by show (w.heap.push o)[w.heap.size]? = _; simp)
theorem below_drewn {B : Nat} {w w' : World} (h : Below B w w'.drew) : Below B w w' := ⟨h.os, h.tape, h.output, h.size, h.block⟩

set_option maxHeartbeats 8000000 in
set_option maxRecDepth 100000 in
theorem crash_any {base g N : Nat} {S : DS} {fp : List Nat} (pv : Value) (len : Nat) (pk : Nat → Bool) (t : Nat) (ht : t ≤ 1024) (hN : N ≤ 100000000) (hQ : S.Q.length ≤ 100000) (w : World) (h : DIs base g w N S fp) (hp : PIs w pv len pk fp) :
    Calls Tryz.prog 35 #[.pointer (some ⟨g, 0, none⟩), pv, .int .i64 t] w fun e w' => e = .returned (.int .i64 0) ∧ DIs base g w' (N + 1024 * S.Q.length) ⟨S.n, crashFrom pk 0 t S.L S.Q, []⟩ fp ∧ Only fp w w' := by
  have HH := hid h
  have HP := hid hp
  have hlm := hp.big
  unfold maxLen at hlm
  obtain ⟨⟨bl, bf, wv, h1, h2, h3, h4, h5, m1, m2, m3, m4⟩, n1, n2, hok, hlo⟩ := h
  obtain ⟨c0, c1, c2, c3⟩ := four_cells h1
  have HOK := hid hok
  have hlen : wv = .slice none 0 0 ∧ S.Q.length = 0 ∨ ∃ b cap, wv = .slice (some ⟨b, 0, none⟩) S.Q.length cap := by
    obtain ⟨_, e | ⟨b, cap, cur, e, _⟩⟩ := h5
    · exact .inl e
    · exact .inr ⟨b, cap, e⟩
  rcases hlen with ⟨rfl, hl0⟩ | ⟨b, cap, rfl⟩
  · have hQ0 : S.Q = [] := List.eq_nil_of_length_eq_zero hl0
    rw [hQ0]
    have HF := hid (forget_any w HH.out)
    clear h1 h3 h4 h5 m1 m2 m3 m4 hok hlo c0 c1 c2 hp
    go_enter Tryz.func35, Tryz.ntmps35
    go_wp2
    go_loopw [22] (fun i wr => i = .int .i64 0 ∧ wr = w) (fun _ _ => 0)
    case atStart => exact ⟨rfl, rfl⟩
    case round =>
      obtain ⟨rfl, hwr⟩ := hrel
      subst hwr
      go_wp2_with (first | (go_at_call 81; refine HF.out.mono ?_; rintro e w2 ⟨rfl, hD2, hO2⟩))
      go_ret
      exact ⟨rfl, hD2.mono (by omega), hO2⟩
  · have hD0 : DX base g w N S fp bl bf (.slice (some ⟨b, 0, none⟩) S.Q.length cap) := ⟨h1, h2, h3, h4, h5, m1, m2, m3, m4, n1, n2, hok, hlo⟩
    have HD0 := hid hD0
    have hpv : ∃ ao pc, pv = .slice ao len pc ∧ Hid (∀ i, i < len → ∃ pb off, ao = some ⟨pb, off, none⟩ ∧ pb ∉ fp ∧ pb < w.heap.size ∧ w.cell? ⟨pb, off + i, none⟩ = some (.bool (pk i))) := hp.ex
    obtain ⟨ao, pc, rfl, HPK⟩ := hpv
    have HREST := hid hp.rest
    have hbl2 : b ∈ fp := m4 b rfl
    clear h1 h3 h4 h5 m1 m2 m3 m4 hok hlo c0 c1 c2 hp hD0 HH HP
    go_enter Tryz.func35, Tryz.ntmps35
    go_wp2
    go_loopw [2, 22] (fun x i wr => ∃ (j tj : Nat) (f : Nat → Option ByteArray), x = .int .i64 tj ∧ i = .int .i64 j ∧ j ≤ S.Q.length ∧ tj ≤ 1024 ∧ DX base g wr (N + 1024 * j) ⟨S.n, f, S.Q⟩ fp bl bf (.slice (some ⟨b, 0, none⟩) S.Q.length cap) ∧ Only fp w wr ∧ crashFrom pk j tj f (S.Q.drop j) = crashFrom pk 0 t S.L S.Q) (fun _ i _ => S.Q.length - (intOf i).toNat)
    case atStart => exact ⟨0, t, S.L, rfl, rfl, Nat.zero_le _, ht, HD0.out, Only.refl _ _, rfl⟩
    case round =>
      obtain ⟨j, tj, f, rfl, rfl, hj, htj, hD, hO, hcr⟩ := hrel
      have HD := hid hD
      have HO := hid hO
      have HCR := hid hcr
      clear hD hO hcr c3
      by_cases hlt : j < S.Q.length
      · obtain ⟨b', cap', hv', r0, r1⟩ := row_at HD.out.row j hlt
        obtain ⟨rfl, rfl⟩ : b' = b ∧ cap' = cap := by
          simp at hv'; exact ⟨hv'.1.symm, hv'.2.symm⟩
        clear hv'
        have hbw := (HD.out.lo b' hbl2).2
        have hQj : S.Q.drop j = S.Q[j] :: S.Q.drop (j + 1) := drop_get _ _ hlt
        obtain ⟨hq1, hq2⟩ := HOK.out S.Q[j] (List.getElem_mem hlt)
        have hcr := HCR.out
        rw [hQj] at hcr
        obtain ⟨A, hA⟩ : ∃ A, A = S.Q[j].1 := ⟨_, rfl⟩
        obtain ⟨d, hd⟩ : ∃ d, d = S.Q[j].2 := ⟨_, rfl⟩
        rw [crash_cons] at hcr
        rw [← hA, ← hd] at hcr
        rw [← hA] at r0 hq1
        rw [← hd] at r1 hq1 hq2
        clear hA hd hQj HCR
        have HCR := hid hcr
        have HQ1 := hid hq1
        have hn2 := HD.out.n2
        have hc2 : cnt d ≤ 1024 := by have : S.n ≤ 1024 := hn2; omega
        have HS := hid (fun w => size_any A d (by omega) w)
        have HG := hid HD.out.cell
        have HML := hid HD.out.ML
        have HDO := hid (fun m (hm : m ≤ cnt d) (w' : World) h => do_any A d m bl (N + 1024 * j) f hm (by have : S.n ≤ 1024 := hn2; omega) (by omega) (by omega) w' h)
        have hgl := lt_of_block HG.out
        obtain ⟨k0, k1, k2, k3⟩ := four_cells HG.out
        have hsz1 : ∀ o, (wr.alloc o).heap.size = wr.heap.size + 1 := fun o => by simp
        have HSZ := hid hsz1
        clear hsz1 hcr hq1
        obtain ⟨c, hcc⟩ : ∃ c, c = cnt d := ⟨_, rfl⟩
        rw [← hcc] at HS hc2 HDO
        have HC := hid hcc
        clear hcc
        have HSTEP := hid (fun w5 w6 N' f' (hb5 : Below wr.heap.size wr w5) (hM6 : MIs bl w6 N' f') (hg6 : w5.grownBy w6 (some bl)) (hN : N + 1024 * j ≤ N') => crash_step HD.out HO.out hb5 hM6 hg6 hN)
        by_cases hpk : pk j = true
        · have hjl : j < len := by
            by_cases hx : j < len
            · exact hx
            · have := HREST.out j (by omega)
              rw [hpk] at this; cases this
          obtain ⟨pb, off, rfl, q1, q2, q3⟩ := HPK.out j hjl
          rw [hpk] at q3
          have q4 := (World.cell?_of_block (a := ⟨pb, off + j, none⟩) (HO.out.block pb q2 q1)).trans q3
          have q5 : pb < wr.heap.size := Nat.lt_of_lt_of_le q2 HO.out.size
          clear q3
          go_wp2
          go_cut [] (fun wx => DX base g wx (N + 1024 * (j + 1)) ⟨S.n, over f A d c, S.Q⟩ fp bl bf (.slice (some ⟨b', 0, none⟩) S.Q.length cap') ∧ Only fp w wx)
          case first =>
            go_region_with (first
              | (go_at_call 78; refine (HS.out _).mono ?_; rintro e w5 ⟨rfl, hb5⟩; have hb6 := bel_ad hb5; have hv5 := var_ad hb5; obtain ⟨p0, p1, p2, p3⟩ := four_cells ((hb6.block g hgl).trans HG.out); obtain ⟨u0, u1⟩ := two_cells hv5; have hM5 := hid (HML.out.same (hb6.block bl HML.out.lt)); clear hv5 hb5 p0 p2 p3)
              | (go_at_call 79; refine (HDO.out c (Nat.le_refl _) _ hM5.out).mono ?_; rintro e w6 ⟨rfl, hM6, hg6⟩))
            all_goals
              have hst := HSTEP.out _ _ _ _ hb6 (hM6.mono (show N + 1024 * j + c ≤ N + 1024 * (j + 1) by omega)) hg6 (by omega)
              clear hM6 hg6 hb6 hM5
              go_wp2
              go_meet
              exact hst
          case rest =>
            obtain ⟨hD7, hO7⟩ := hcut
            have hcr7 := HCR.out
            rw [if_pos hpk, ← HC.out] at hcr7
            have H7 := hid (And.intro hD7 (And.intro hO7 hcr7))
            clear hD7 hO7 hcr7
            go_wp2
            go_roundw
            case rel => exact ⟨j + 1, tj, _, by go_num, by go_num, by omega, htj, H7.out.1, H7.out.2.1, H7.out.2.2⟩
            case measure => simp [intOf]; omega
        · have hpf : pk j = false := by cases hx : pk j with | true => exact absurd hx hpk | false => rfl
          obtain ⟨mn, hmn0⟩ : ∃ mn, mn = min tj c := ⟨_, rfl⟩
          have hmn : (if c < tj then (c : Int) else (tj : Int)) = (mn : Int) := by rw [hmn0]; split <;> omega
          have hmc : mn ≤ c := by omega
          have HMN := hid hmn0
          clear hmn0
          go_upto_region 8 with fail
          go_cut [36] (fun s36 wx => s36 = .bool false ∧ wx = wr.alloc (.cells #[.int .i64 (A : Int), .string d] 148))
          case first =>
            by_cases hjl : j < len
            · obtain ⟨pb, off, rfl, q1, q2, q3⟩ := HPK.out j hjl
              rw [hpf] at q3
              have q4 := (World.cell?_of_block (a := ⟨pb, off + j, none⟩) (HO.out.block pb q2 q1)).trans q3
              have q5 : pb < wr.heap.size := Nat.lt_of_lt_of_le q2 HO.out.size
              clear q3
              go_wp2
              go_meet
              exact ⟨rfl, rfl⟩
            · go_wp2
              go_meet
              exact ⟨rfl, rfl⟩
          case rest =>
          obtain ⟨rfl, rfl⟩ := hcut
          go_wp2
          go_cut [] (fun wx => DX base g wx (N + 1024 * (j + 1)) ⟨S.n, over f A d mn, S.Q⟩ fp bl bf (.slice (some ⟨b', 0, none⟩) S.Q.length cap') ∧ Only fp w wx)
          case first =>
            go_region_with (first
              | (go_at_call 78; refine (HS.out _).mono ?_; rintro e w5 ⟨rfl, hb5⟩; have hb6 := bel_ad hb5; have hv5 := var_ad hb5; obtain ⟨p0, p1, p2, p3⟩ := four_cells ((hb6.block g hgl).trans HG.out); obtain ⟨u0, u1⟩ := two_cells hv5; have hM5 := hid (HML.out.same (hb6.block bl HML.out.lt)); clear hv5 hb5 p0 p2 p3)
              | (go_at_call 79; refine (HDO.out mn hmc _ hM5.out).mono ?_; rintro e w6 ⟨rfl, hM6, hg6⟩))
            all_goals
              have hst := HSTEP.out _ _ _ _ hb6 (hM6.mono (show N + 1024 * j + mn ≤ N + 1024 * (j + 1) by omega)) hg6 (by omega)
              clear hM6 hg6 hb6 hM5
              go_wp2
              go_meet
              exact hst
          case rest =>
            obtain ⟨hD7, hO7⟩ := hcut
            have hcr7 := HCR.out
            rw [if_neg hpk, ← HC.out, ← HMN.out] at hcr7
            have H7 := hid (And.intro hD7 (And.intro hO7 hcr7))
            clear hD7 hO7 hcr7
            go_wp2
            go_roundw
            case rel => exact ⟨j + 1, 0, _, by go_num, by go_num, by omega, by omega, H7.out.1, H7.out.2.1, H7.out.2.2⟩
            case measure => simp [intOf]; omega
      · have hje : j = S.Q.length := by omega
        have hcr7 := HCR.out
        rw [hje, List.drop_length, crash_end] at hcr7
        have HF := hid (forget_any wr HD.out.dis)
        rw [hje] at HF
        have H7 := hid hcr7
        clear hcr7
        go_wp2_with (first | (go_at_call 81; refine HF.out.mono ?_; rintro e w2 ⟨rfl, hD2, hO2⟩))
        go_ret
        refine ⟨rfl, ?_, HO.out.trans hO2 (fun _ hx => .inl hx)⟩
        rw [← H7.out]
        exact hD2
end Go.Proofs.YtopebghandojbaaGreat.Dv
