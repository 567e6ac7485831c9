import Derived.Test.YtglhibmfbbbdiaaXd
import Derived.Test.YtglhibmfbbbdiaaCr
namespace Go.Proofs.Ytglhibmfbbbdiaa
open Go.RowKit Go.Maps

/-- some blocks of a row put anew -/
def setL (L : List ByteArray) (a : Nat) (d : ByteArray) : Nat → List ByteArray
  | 0 => L
  | m + 1 => (setL L a d m).set (a + m) (piece d m)
theorem setL_len (L : List ByteArray) (a : Nat) (d : ByteArray) : ∀ m, (setL L a d m).length = L.length
  | 0 => rfl
  | m + 1 => by show ((setL L a d m).set _ _).length = _; rw [List.length_set, setL_len L a d m]
/-- a crash, as the reference does it, from the i'th write on -/
def crashL (pk : Nat → Bool) : Nat → Nat → List ByteArray → List (Nat × ByteArray) → List ByteArray
  | _, _, L, [] => L
  | i, t, L, q :: Q => if pk i then crashL pk (i + 1) t (setL L q.1 q.2 (cnt q.2)) Q else crashL pk (i + 1) 0 (setL L q.1 q.2 (min t (cnt q.2))) Q
theorem crashL_cons (pk : Nat → Bool) (i t : Nat) (L : List ByteArray) (q : Nat × ByteArray) (Q : List (Nat × ByteArray)) :
    crashL pk i t L (q :: Q) = if pk i then crashL pk (i + 1) t (setL L q.1 q.2 (cnt q.2)) Q else crashL pk (i + 1) 0 (setL L q.1 q.2 (min t (cnt q.2))) Q := rfl
theorem crashL_end (pk : Nat → Bool) (i t : Nat) (L : List ByteArray) : crashL pk i t L [] = L := by cases i <;> rfl
theorem crashL_len (pk : Nat → Bool) : ∀ (Q : List (Nat × ByteArray)) (i t : Nat) (L : List ByteArray), (crashL pk i t L Q).length = L.length
  | [], i, t, L => by rw [crashL_end]
  | q :: Q, i, t, L => by
    rw [crashL_cons]
    split
    · rw [crashL_len pk Q, setL_len]
    · rw [crashL_len pk Q, setL_len]
theorem tc_set {w : World} {bl : Nat} {L : List ByteArray} (h : w.heap[bl]? = some (.cells (tc L).toArray 9 (0, 0))) (k : Nat) (s : ByteArray) : (w.setCell ⟨bl, k, none⟩ (.string s)).heap[bl]? = some (.cells (tc (L.set k s)).toArray 9 (0, 0)) := by
  have hlt := lt_of_block h
  have h' : w.heap[bl] = .cells (tc L).toArray 9 (0, 0) := by simpa [Array.getElem?_eq_getElem hlt] using h
  show (w.heap.modify bl _)[bl]? = _
  rw [Array.getElem?_eq_getElem (by simpa using hlt), Array.getElem_modify_self, h']
  simp [tc, List.map_set]
theorem tc_free {w : World} {bl : Nat} {c : Array Value} (h : w.heap[bl]? = some (.cells c 9 (0, 0))) (k : Nat) : w.frozen? ⟨bl, k, none⟩ = false := by
  simp [World.frozen?, h]
theorem xcrash_arg (p pv : Value) (t : Int) (ht : ¬ (0 ≤ t ∧ t ≤ 1024)) (w : World) : Calls Try.prog 17 #[p, pv, .int .i64 t] w fun e w' => e = .returned (.int .i64 1) ∧ w' = w := by
  by_cases h1 : t < 0
  · go_enter Try.func17, Try.ntmps17
    go_wp2
    go_ret
    exact ⟨rfl, rfl⟩
  · have h2 : 1024 < t := by omega
    go_enter Try.func17, Try.ntmps17
    go_wp2
    go_ret
    exact ⟨rfl, rfl⟩
set_option maxHeartbeats 2000000 in
set_option maxRecDepth 100000 in
theorem xcrash_any {base g : Nat} {L : List ByteArray} {Q : List (Nat × ByteArray)} {fp : List Nat} (pv : Value) (len : Nat) (pk : Nat → Bool) (t : Nat) (ht : t ≤ 1024) (hQ : Q.length ≤ 100000) (w : World) (h : XIs base g w L Q fp) (hp : PIs w pv len pk fp) :
    Calls Try.prog 17 #[.pointer (some ⟨g, 0, none⟩), pv, .int .i64 t] w fun e w' => e = .returned (.int .i64 0) ∧ XIs base g w' (crashL pk 0 t L Q) [] fp ∧ Only fp w w' := by
  have hlm := hp.big
  unfold maxLen at hlm
  have hn := h.n2
  have HH := hid h
  obtain ⟨⟨bl, qv, e1, e2, e3, m1, m2, m3⟩, n1, _, hok, hlo⟩ := h
  have hbg : bl ≠ g := fun e => by rw [e, e1] at e2; simp at e2
  have HE := hid (And.intro e1 (And.intro e2 (And.intro m1 (And.intro m2 hlo))))
  have HR := hid e3
  have HOK := hid hok
  have hrow := row62_ne (by decide) e3 e2
  have hlen : ∃ ao cap, qv = .slice ao Q.length cap := by
    obtain ⟨_, e | ⟨b, cap, cur, e, _⟩⟩ := e3
    · exact ⟨none, 0, by rw [e.2]; exact e.1⟩
    · exact ⟨_, cap, e⟩
  obtain ⟨ao, cap, rfl⟩ := hlen
  have HROW := hid hrow
  have hpv : ∃ pao pc, pv = .slice pao len pc ∧ Hid (∀ i, i < len → ∃ pb off, pao = some ⟨pb, off, none⟩ ∧ pb ∉ fp ∧ pb < w.heap.size ∧ w.cell? ⟨pb, off + i, none⟩ = some (.bool (pk i))) := hp.ex
  obtain ⟨pao, pc, rfl, HPK⟩ := hpv
  have HREST := hid hp.rest
  obtain ⟨c0, c1⟩ := two_cells e1
  have HC0 := hid c0
  clear e1 e2 e3 m1 m2 m3 hok hlo hrow hp
  go_enter Try.func17, Try.ntmps17
  go_wp2
  clear c0 c1
  go_loopw [7, 23] (fun x i wr => ∃ (j : Nat) (fs : Bool) (L' : List ByteArray), x = .bool fs ∧ i = .int .i64 j ∧ j ≤ Q.length ∧ wr.heap[bl]? = some (.cells (tc L').toArray 9 (0, 0)) ∧ L'.length = L.length ∧ Only [bl] w wr ∧ crashL pk j (if fs then t else 0) L' (Q.drop j) = crashL pk 0 t L Q) (fun _ i _ => Q.length - (intOf i).toNat)
  case atStart => exact ⟨0, true, L, rfl, rfl, Nat.zero_le _, HE.out.2.1, rfl, Only.refl _ _, rfl⟩
  case round =>
    obtain ⟨j, fs, L', rfl, rfl, hj, hbl, hL', hO, hcr⟩ := hrel
    rename World => wo
    have hg := (hO.block g (lt_of_block HE.out.1) (by simp [hbg.symm])).trans HE.out.1
    by_cases hlt : j < Q.length
    · obtain ⟨b, cap', hv, r0, r1⟩ := row62_at HR.out j hlt
      obtain ⟨rfl, rfl⟩ : ao = some ⟨b, 0, none⟩ ∧ cap = cap' := by cases hv; exact ⟨rfl, rfl⟩
      have hbb : w.heap[b]? = wo.heap[b]? := (hO.block b (HR.out.lt b rfl).2 (by simp; exact fun e => HROW.out (by rw [e]; rfl))).symm
      have q0 := (World.cell?_of_block hbb.symm).trans r0
      have q1 := (World.cell?_of_block hbb.symm).trans r1
      obtain ⟨hc1, hc2⟩ := HOK.out Q[j] (List.getElem_mem hlt)
      rw [drop_get Q j hlt, crashL_cons] at hcr
      obtain ⟨A, hA⟩ : ∃ A, A = Q[j].1 := ⟨_, rfl⟩
      obtain ⟨d, hd⟩ : ∃ d, d = Q[j].2 := ⟨_, rfl⟩
      rw [← hA] at q0 hc1 hcr
      rw [← hd] at q1 hc1 hc2 hcr
      have hq : ((d.size : Int).tdiv 128) = cnt d := by unfold cnt; rw [Int.tdiv_eq_ediv_of_nonneg (by omega)]; omega
      have hcd : cnt d * 128 ≤ d.size := by unfold cnt; omega
      have hN : (wo.alloc (.cells #[.int .i64 (A : Int), .string d] 62)).heap[bl]? = some (.cells (tc (setL L' A d 0)).toArray 9 (0, 0)) ∧ Only [bl] w (wo.alloc (.cells #[.int .i64 (A : Int), .string d] 62)) ∧ wo.heap.size < (wo.alloc (.cells #[.int .i64 (A : Int), .string d] 62)).heap.size ∧ (wo.alloc (.cells #[.int .i64 (A : Int), .string d] 62)).heap[wo.heap.size]? = some (.cells #[.int .i64 (A : Int), .string d] 62 (0, 0)) :=
        ⟨(Below.heap_alloc _ _ _ (lt_of_block hbl)).trans hbl, hO.trans (Only.of_below (fp := [bl]) (below_alloc _ _)) (fun x hx => .inl hx), by simp, by show (wo.heap.push _)[wo.heap.size]? = _; simp⟩
      have HN := hid hN
      have hblw := lt_of_block hbl
      have HCR := hid hcr
      obtain ⟨c, hc⟩ : ∃ c, c = cnt d := ⟨_, rfl⟩
      rw [← hc] at hq hc1 hcd HCR
      have HC := hid hc
      clear hA hd r0 r1 hv hcr hN hc hbl hbb hg
      have hpk : pk j = true ∧ (∃ pb off, pao = some ⟨pb, off, none⟩ ∧ j < len ∧ (wo.alloc (.cells #[.int .i64 (A : Int), .string d] 62)).cell? ⟨pb, off + j, none⟩ = some (.bool true)) ∨ pk j = false ∧ j < len ∧ (∃ pb off, pao = some ⟨pb, off, none⟩ ∧ (wo.alloc (.cells #[.int .i64 (A : Int), .string d] 62)).cell? ⟨pb, off + j, none⟩ = some (.bool false)) ∨ pk j = false ∧ ¬ j < len := by
        by_cases hjl : j < len
        · obtain ⟨pb, off, e, p1, p2, p3⟩ := HPK.out j hjl
          have hbp : wo.heap[pb]? = w.heap[pb]? := hO.block pb p2 (by simp; exact fun e => p1 (by rw [e]; exact HE.out.2.2.2.1))
          have p4 := (World.cell?_of_block ((Below.heap_alloc wo (.cells #[.int .i64 (A : Int), .string d] 62) pb (Nat.lt_of_lt_of_le p2 hO.size)).trans hbp)).trans p3
          cases hpj : pk j with
          | true => rw [hpj] at p4; exact .inl ⟨rfl, pb, off, e, hjl, p4⟩
          | false => rw [hpj] at p4; exact .inr (.inl ⟨rfl, hjl, pb, off, e, p4⟩)
        · exact .inr (.inr ⟨HREST.out j (by omega), hjl⟩)
      have HO := hid hO
      clear hO
      rcases hpk with ⟨hpj, pb, off, rfl, hjl, hpc⟩ | ⟨hpj, hjl, pb, off, rfl, hpc⟩ | ⟨hpj, hjl⟩
      · go_wp2
        go_loopw [11] (fun i wx => ∃ k : Nat, i = .int .i64 k ∧ k ≤ c ∧ wx.heap[bl]? = some (.cells (tc (setL L' A d k)).toArray 9 (0, 0)) ∧ Only [bl] w wx ∧ wo.heap.size < wx.heap.size ∧ wx.heap[wo.heap.size]? = some (.cells #[.int .i64 (A : Int), .string d] 62 (0, 0))) (fun i _ => c - (intOf i).toNat)
        case atStart => exact ⟨0, rfl, Nat.zero_le _, HN.out.1, HN.out.2.1, HN.out.2.2.1, HN.out.2.2.2⟩
        case round =>
          obtain ⟨k, rfl, hkm, hbl, hO2, hsz, hvr⟩ := hrel
          obtain ⟨v0, v1⟩ := two_cells hvr
          have hsl := setL_len L' A d k
          by_cases hk : k < c
          · have hlen2 : (k + 1) * 128 ≤ d.size := by omega
            have hgx := (hO2.block g (lt_of_block HE.out.1) (by simp [hbg.symm])).trans HE.out.1
            obtain ⟨c0, c1⟩ := two_cells hgx
            have hak : A + k < (setL L' A d k).length := by omega
            have ck := tc_cell hbl (A + k) hak
            have fk := tc_free hbl (A + k)
            have hbl3 := tc_set hbl (A + k) (piece d k)
            have HB3 := hid hbl3
            have HO3 := hid (hO2.trans (Only.setCell (fp := [bl]) (w := wr) (a := ⟨bl, A + k, none⟩) (.string (piece d k)) (by simp)) (fun x hx => .inl hx))
            have HV3 : Hid ((wr.setCell ⟨bl, A + k, none⟩ (.string (piece d k))).heap[wo.heap.size]? = some (.cells #[.int .i64 (A : Int), .string d] 62 (0, 0))) := (Below.heap_setCell _ _ _ _ (show wo.heap.size ≠ bl by omega)).trans hvr
            have HSZ3 : Hid (wo.heap.size < (wr.setCell ⟨bl, A + k, none⟩ (.string (piece d k))).heap.size) := by show _ < _; simpa [World.setCell] using hsz
            clear hbl3 hbl hO2 hgx hvr
            go_wp2
            go_region
            all_goals
              go_wp2
              go_roundw
              case rel => exact ⟨k + 1, by go_num, by omega, HB3.out, HO3.out.drew, HSZ3.out, HV3.out⟩
              case measure => simp [intOf]; omega
          · have hkk : k = c := by omega
            have HPJ := hid hpj
            have HKK := hid hkk
            clear hpj hkk
            go_wp2
            go_roundw
            case rel => exact ⟨j + 1, fs, setL L' A d k, rfl, by go_num, by omega, hbl, hsl.trans hL', hO2, by rw [← HCR.out, HPJ.out]; rw [HKK.out]; rfl⟩
            case measure => simp [intOf]; omega
      · cases fs with
        | true =>
          go_wp2
          go_loopw [11] (fun i wx => ∃ k : Nat, i = .int .i64 k ∧ k ≤ (min t c) ∧ wx.heap[bl]? = some (.cells (tc (setL L' A d k)).toArray 9 (0, 0)) ∧ Only [bl] w wx ∧ wo.heap.size < wx.heap.size ∧ wx.heap[wo.heap.size]? = some (.cells #[.int .i64 (A : Int), .string d] 62 (0, 0))) (fun i _ => (min t c) - (intOf i).toNat)
          case atStart => exact ⟨0, rfl, Nat.zero_le _, HN.out.1, HN.out.2.1, HN.out.2.2.1, HN.out.2.2.2⟩
          case round =>
            obtain ⟨k, rfl, hkm, hbl, hO2, hsz, hvr⟩ := hrel
            obtain ⟨v0, v1⟩ := two_cells hvr
            have hsl := setL_len L' A d k
            by_cases hk : k < t ∧ k < c
            · have hlen2 : (k + 1) * 128 ≤ d.size := by omega
              have hgx := (hO2.block g (lt_of_block HE.out.1) (by simp [hbg.symm])).trans HE.out.1
              obtain ⟨c0, c1⟩ := two_cells hgx
              have hak : A + k < (setL L' A d k).length := by omega
              have ck := tc_cell hbl (A + k) hak
              have fk := tc_free hbl (A + k)
              have hbl3 := tc_set hbl (A + k) (piece d k)
              have HB3 := hid hbl3
              have HO3 := hid (hO2.trans (Only.setCell (fp := [bl]) (w := wr) (a := ⟨bl, A + k, none⟩) (.string (piece d k)) (by simp)) (fun x hx => .inl hx))
              have HV3 : Hid ((wr.setCell ⟨bl, A + k, none⟩ (.string (piece d k))).heap[wo.heap.size]? = some (.cells #[.int .i64 (A : Int), .string d] 62 (0, 0))) := (Below.heap_setCell _ _ _ _ (show wo.heap.size ≠ bl by omega)).trans hvr
              have HSZ3 : Hid (wo.heap.size < (wr.setCell ⟨bl, A + k, none⟩ (.string (piece d k))).heap.size) := by show _ < _; simpa [World.setCell] using hsz
              clear hbl3 hbl hO2 hgx hvr
              go_wp2
              go_region
              all_goals
                go_wp2
                go_roundw
                case rel => exact ⟨k + 1, by go_num, by omega, HB3.out, HO3.out.drew, HSZ3.out, HV3.out⟩
                case measure => simp [intOf]; omega
            · have hkk : k = min t c := by omega
              have HPJ := hid hpj
              have HKK := hid hkk
              clear hpj hkk
              by_cases hk1 : k < t
              · have hk2 : ¬ k < c := by omega
                go_wp2
                go_roundw
                case rel => exact ⟨j + 1, false, setL L' A d k, rfl, by go_num, by omega, hbl, hsl.trans hL', hO2, by rw [← HCR.out, HPJ.out]; rw [HKK.out]; rfl⟩
                case measure => simp [intOf]; omega
              · go_wp2
                go_roundw
                case rel => exact ⟨j + 1, false, setL L' A d k, rfl, by go_num, by omega, hbl, hsl.trans hL', hO2, by rw [← HCR.out, HPJ.out]; rw [HKK.out]; rfl⟩
                case measure => simp [intOf]; omega
        | false =>
          go_wp2
          go_loopw [11] (fun i wx => ∃ k : Nat, i = .int .i64 k ∧ k ≤ 0 ∧ wx.heap[bl]? = some (.cells (tc (setL L' A d k)).toArray 9 (0, 0)) ∧ Only [bl] w wx ∧ wo.heap.size < wx.heap.size ∧ wx.heap[wo.heap.size]? = some (.cells #[.int .i64 (A : Int), .string d] 62 (0, 0))) (fun i _ => 0 - (intOf i).toNat)
          case atStart => exact ⟨0, rfl, Nat.zero_le _, HN.out.1, HN.out.2.1, HN.out.2.2.1, HN.out.2.2.2⟩
          case round =>
            obtain ⟨k, rfl, hkm, hbl, hO2, hsz, hvr⟩ := hrel
            obtain ⟨v0, v1⟩ := two_cells hvr
            have hsl := setL_len L' A d k
            have hkk : k = min 0 c := by omega
            have HPJ := hid hpj
            have HKK := hid hkk
            clear hpj hkk
            have hk0 : k = 0 := by omega
            have HK0 := hid hk0
            go_wp2
            go_roundw
            case rel => exact ⟨j + 1, false, setL L' A d k, rfl, by go_num, by omega, hbl, hsl.trans hL', hO2, by rw [← HCR.out, HPJ.out]; rw [HKK.out]; rfl⟩
            case measure => simp [intOf]; omega
      · cases fs with
        | true =>
          go_wp2
          go_loopw [11] (fun i wx => ∃ k : Nat, i = .int .i64 k ∧ k ≤ (min t c) ∧ wx.heap[bl]? = some (.cells (tc (setL L' A d k)).toArray 9 (0, 0)) ∧ Only [bl] w wx ∧ wo.heap.size < wx.heap.size ∧ wx.heap[wo.heap.size]? = some (.cells #[.int .i64 (A : Int), .string d] 62 (0, 0))) (fun i _ => (min t c) - (intOf i).toNat)
          case atStart => exact ⟨0, rfl, Nat.zero_le _, HN.out.1, HN.out.2.1, HN.out.2.2.1, HN.out.2.2.2⟩
          case round =>
            obtain ⟨k, rfl, hkm, hbl, hO2, hsz, hvr⟩ := hrel
            obtain ⟨v0, v1⟩ := two_cells hvr
            have hsl := setL_len L' A d k
            by_cases hk : k < t ∧ k < c
            · have hlen2 : (k + 1) * 128 ≤ d.size := by omega
              have hgx := (hO2.block g (lt_of_block HE.out.1) (by simp [hbg.symm])).trans HE.out.1
              obtain ⟨c0, c1⟩ := two_cells hgx
              have hak : A + k < (setL L' A d k).length := by omega
              have ck := tc_cell hbl (A + k) hak
              have fk := tc_free hbl (A + k)
              have hbl3 := tc_set hbl (A + k) (piece d k)
              have HB3 := hid hbl3
              have HO3 := hid (hO2.trans (Only.setCell (fp := [bl]) (w := wr) (a := ⟨bl, A + k, none⟩) (.string (piece d k)) (by simp)) (fun x hx => .inl hx))
              have HV3 : Hid ((wr.setCell ⟨bl, A + k, none⟩ (.string (piece d k))).heap[wo.heap.size]? = some (.cells #[.int .i64 (A : Int), .string d] 62 (0, 0))) := (Below.heap_setCell _ _ _ _ (show wo.heap.size ≠ bl by omega)).trans hvr
              have HSZ3 : Hid (wo.heap.size < (wr.setCell ⟨bl, A + k, none⟩ (.string (piece d k))).heap.size) := by show _ < _; simpa [World.setCell] using hsz
              clear hbl3 hbl hO2 hgx hvr
              go_wp2
              go_region
              all_goals
                go_wp2
                go_roundw
                case rel => exact ⟨k + 1, by go_num, by omega, HB3.out, HO3.out.drew, HSZ3.out, HV3.out⟩
                case measure => simp [intOf]; omega
            · have hkk : k = min t c := by omega
              have HPJ := hid hpj
              have HKK := hid hkk
              clear hpj hkk
              by_cases hk1 : k < t
              · have hk2 : ¬ k < c := by omega
                go_wp2
                go_roundw
                case rel => exact ⟨j + 1, false, setL L' A d k, rfl, by go_num, by omega, hbl, hsl.trans hL', hO2, by rw [← HCR.out, HPJ.out]; rw [HKK.out]; rfl⟩
                case measure => simp [intOf]; omega
              · go_wp2
                go_roundw
                case rel => exact ⟨j + 1, false, setL L' A d k, rfl, by go_num, by omega, hbl, hsl.trans hL', hO2, by rw [← HCR.out, HPJ.out]; rw [HKK.out]; rfl⟩
                case measure => simp [intOf]; omega
        | false =>
          go_wp2
          go_loopw [11] (fun i wx => ∃ k : Nat, i = .int .i64 k ∧ k ≤ 0 ∧ wx.heap[bl]? = some (.cells (tc (setL L' A d k)).toArray 9 (0, 0)) ∧ Only [bl] w wx ∧ wo.heap.size < wx.heap.size ∧ wx.heap[wo.heap.size]? = some (.cells #[.int .i64 (A : Int), .string d] 62 (0, 0))) (fun i _ => 0 - (intOf i).toNat)
          case atStart => exact ⟨0, rfl, Nat.zero_le _, HN.out.1, HN.out.2.1, HN.out.2.2.1, HN.out.2.2.2⟩
          case round =>
            obtain ⟨k, rfl, hkm, hbl, hO2, hsz, hvr⟩ := hrel
            obtain ⟨v0, v1⟩ := two_cells hvr
            have hsl := setL_len L' A d k
            have hkk : k = min 0 c := by omega
            have HPJ := hid hpj
            have HKK := hid hkk
            clear hpj hkk
            have hk0 : k = 0 := by omega
            have HK0 := hid hk0
            go_wp2
            go_roundw
            case rel => exact ⟨j + 1, false, setL L' A d k, rfl, by go_num, by omega, hbl, hsl.trans hL', hO2, by rw [← HCR.out, HPJ.out]; rw [HKK.out]; rfl⟩
            case measure => simp [intOf]; omega
    · have hjm : j = Q.length := by omega
      subst hjm
      rw [List.drop_length, crashL_end] at hcr
      subst hcr
      obtain ⟨c0, c1⟩ := two_cells hg
      have f1 := two_free hg 1
      have HG := hid hg
      have HBL := hid hbl
      have HO := hid hO
      clear hg hbl hO
      go_wp2
      go_ret
      have hX := HH.out
      have hOO := HO.out
      obtain ⟨e1, e2, m1, m2, hlo⟩ := HE.out
      have hO4 : Only fp w wo := ⟨hOO.os, hOO.tape, hOO.output, hOO.size, fun k hk hn => hOO.block k hk (by simp; exact fun e => hn (by rw [e]; exact m2))⟩
      have hsz : ∀ v, (wo.setCell ⟨g, 1, none⟩ v).heap.size = wo.heap.size := fun v => by simp [World.setCell]
      refine ⟨rfl, ⟨⟨bl, .slice none 0 0, ?_, ?_, World.ownsRow_nil _ _ _ _, m1, m2, (fun b e => by cases e)⟩, by omega, by omega, (fun q hq => by cases hq), fun k hk => ?_⟩, hO4.trans (Only.setCell (fp := fp) (w := wo) (a := ⟨g, 1, none⟩) _ m1) (fun x hx => .inl hx)⟩
      · rw [hL']; exact two_set1 HG.out
      · exact (Below.heap_setCell _ _ _ _ hbg).trans HBL.out
      · rw [hsz]
        have := hlo k hk
        have := hOO.size
        omega
end Go.Proofs.Ytglhibmfbbbdiaa
