import Derived.Test.YtjnhibpebikkmaaGreatFs
namespace Go.Proofs.YtjnhibpebikkmaaGreat
open Go.RowKit Go.Maps

def strSz (v : Value) : Nat := match v with | .string s => s.size | _ => 0
theorem rchS_lt {G : Geo} (hG : G.Ok) {B : List ByteArray} {n : Ino} {i b : Nat} (h : (rchS G B n i).1 = some b) : b < G.n ∧ b ≠ 0 := by
  unfold rchS at h
  split at h
  · split at h
    · exact mkS_lt hG h
    · split at h
      · split at h
        · cases h
        · exact mkS_lt hG h
      · split at h
        · cases h
        · split at h
          · cases h
          · exact mkS_lt hG h
  · rename_i h0
    cases h
    exact ⟨blk_lt hG _ _ _, h0⟩
theorem st_ext (s : ByteArray) (k : Nat) : (s.extract k s.size).data.toList = s.data.toList.drop k := by
  rw [ext_list, List.take_of_length_le (by rw [len_list]; exact Nat.le_refl _)]
theorem layS_done {G : Geo} {f : Nat} {B : List ByteArray} {n : Ino} {x : Nat} {d : List UInt8} (h : d.length = 0) : layS G f B n x d = (0, B, n) := by
  cases f with
  | zero => rfl
  | succ f => unfold layS; rw [if_pos h]
theorem layS_fail {G : Geo} {f : Nat} {B B1 : List ByteArray} {n n1 : Ino} {x : Nat} {d : List UInt8} (h : d.length ≠ 0) (hr : rchS G B n (x / 128) = (none, B1, n1)) : layS G (f + 1) B n x d = (306, B1, n1) := by
  unfold layS
  rw [if_neg h, hr]
theorem layS_next {G : Geo} {f : Nat} {B B1 : List ByteArray} {n n1 : Ino} {x b : Nat} {d : List UInt8} (h : d.length ≠ 0) (hr : rchS G B n (x / 128) = (some b, B1, n1)) : layS G (f + 1) B n x d = layS G f (B1.set b (st (ovl (bk B1 b).data.toList (x % 128) (d.take (min d.length (128 - x % 128)))))) n1 (x + min d.length (128 - x % 128)) (d.drop (min d.length (128 - x % 128))) := by
  rw [layS, if_neg h, hr]
theorem bytes_new2 (w : World) (s : ByteArray) : ∃ cap wc, s.size ≤ cap ∧ (convert 9 45 (.string s)).run Tryz.prog w = .ok (.slice (some ⟨w.heap.size, 0, none⟩) s.size cap) wc ∧ BIs w.heap.size wc s.data.toList ∧ Below w.heap.size w wc := by
  refine ⟨_, _, ?_, Lib.run_convert_string_bytes w 9 45 5 s Tryz.underlying9 Tryz.underlying45 Tryz.underlying5, ⟨_, _, Lib.bytesWorld_at_new w 5 s, ?_, ?_⟩, ⟨?_, ?_, ?_, ?_, ?_⟩⟩
  · exact grownCap_ge _ _ _ _
  · simp [Lib.bytesCells]
  · simp [Lib.bytesCells, bc]
  · rfl
  · rfl
  · rfl
  · rw [Lib.bytesWorld_size]; omega
  · intro k hk; exact Lib.bytesWorld_at_old w 5 s k hk
/-- what 'lay' comes to, all in all -/
def layR (G : Geo) (B : List ByteArray) (n : Ino) (x : Nat) (d : ByteArray) : Int × List ByteArray × Ino := layS G d.size B { n with z := max n.z ((x : Int) + d.size) } x d.data.toList
set_option maxRecDepth 100000 in
set_option maxHeartbeats 1000000 in
theorem lay_any {G : Geo} {p q cap m g : Nat} {w : World} {F B : List ByteArray} (n : Ino) (x : Nat) (d : ByteArray) (hxd : x + d.size ≤ 533248) (hz : 0 ≤ n.z ∧ n.z ≤ 533248) (hX : Box g w n) (hgp : g ≠ p) (hgq : g ≠ q) (h : VI G p q cap m w F B) :
    Calls Tryz.prog 31 #[.pointer (some ⟨p, 0, none⟩), .pointer (some ⟨g, 0, none⟩), .int .i64 (x : Int), .string d] w fun e w' => e = .returned (.int .i64 (layR G B n x d).1) ∧ VI G p q cap m w' F (layR G B n x d).2.1 ∧ Box g w' (layR G B n x d).2.2 ∧ Only [g, m] w w' := by
  obtain ⟨R, hR⟩ : ∃ R, R = layR G B n x d := ⟨_, rfl⟩
  rw [← hR]
  unfold layR at hR
  have HRes : Hid (R = layS G d.size B { n with z := max n.z ((x : Int) + d.size) } x d.data.toList) := hid hR
  have HG := hid h.ok
  have HGP := hid hgp
  have HGQ := hid hgq
  have HGM := hid (h.gm hX)
  obtain ⟨k, l, z, a0, b0, c0, d0, e0, f0, s0, t0⟩ := n
  simp only at HRes hz
  have hwr : IntKind.i64.wrap ((x : Int) + (d.size : Int)) = (x : Int) + (d.size : Int) := by rw [IntKind.wrap_i64]; omega
  have c2 : w.cell? ⟨g, 2, none⟩ = some (.int .i64 z) := hX.cells.2.2.1
  have f2 := hX.free 2
  obtain ⟨M, hM, hcase⟩ : ∃ M, M = max z ((x : Int) + (d.size : Int)) ∧ ((M = z ∧ (x : Int) + (d.size : Int) ≤ z) ∨ (M = (x : Int) + (d.size : Int) ∧ ¬ (x : Int) + (d.size : Int) ≤ z)) := by
    refine ⟨_, rfl, ?_⟩
    by_cases hle : (x : Int) + (d.size : Int) ≤ z
    · exact .inl ⟨Int.max_eq_left hle, hle⟩
    · exact .inr ⟨Int.max_eq_right (by omega), hle⟩
  rw [← hM] at HRes
  have HX1 := hid (hX.set2 M)
  have HV1 : Hid (VI G p q cap m (w.setCell ⟨g, 2, none⟩ (.int .i64 M)) F B) := hid (h.same (set_off _ _ (Ne.symm hgp)) (set_off _ _ (Ne.symm hgq)) (set_off _ _ (Ne.symm HGM.out)))
  have HO1 : Hid (Only [g, m] w (w.setCell ⟨g, 2, none⟩ (.int .i64 M))) := hid (Only.setCell _ (by simp))
  have HXD := hid hxd
  clear hR h hX hgp hgq hz hxd hM
  rcases hcase with ⟨hMz, hle⟩ | ⟨hMz, hle⟩
  all_goals
    subst hMz
    go_enter Tryz.func31, Tryz.ntmps31
    go_wp2
    clear c2 f2 hwr hle
    go_loopw [2, 3] (fun xv dv wr => ∃ (f x' : Nat) (d' : ByteArray) (B' : List ByteArray) (n' : Ino), xv = .int .i64 (x' : Int) ∧ dv = .string d' ∧ d'.size ≤ f ∧ x' + d'.size ≤ 533248 ∧ R = layS G f B' n' x' d'.data.toList ∧ VI G p q cap m wr F B' ∧ Box g wr n' ∧ Only [g, m] w wr) (fun _ dv _ => strSz dv)
    case atStart => exact ⟨d.size, x, d, B, _, rfl, rfl, Nat.le_refl _, HXD.out, HRes.out, HV1.out, HX1.out, HO1.out⟩
    case round =>
      clear HRes HX1 HV1 HO1 HXD
      obtain ⟨f, x', d', B', n', rfl, rfl, hf, hxd, hR, hV, hX, hO⟩ := hrel
      have HV := hid hV
      have HX := hid hX
      have HO := hid hO
      have HRR := hid hR
      clear hV hX hO hR
      by_cases h0 : d'.size = 0
      · have hd : d' = ⟨#[]⟩ := by
          have e : d'.data.toList = [] := List.eq_nil_of_length_eq_zero (by rw [len_list]; exact h0)
          rw [← st_toList d', e]; rfl
        have HE : Hid (R = (0, B', n')) := hid (HRR.out.trans (layS_done (by rw [len_list]; exact h0)))
        subst hd
        clear h0 hf hxd HRR
        go_wp2
        go_ret
        refine ⟨?_, ?_, ?_, HO.out⟩
        · rw [HE.out]; rfl
        · rw [HE.out]; exact HV.out
        · rw [HE.out]; exact HX.out
      · have hne : d'.toList.isEmpty = false := by
          rw [Lib.toList_data, List.isEmpty_eq_false_iff]
          intro e
          exact h0 (by rw [← len_list, e]; rfl)
        obtain ⟨f, rfl⟩ : ∃ f', f = f' + 1 := ⟨f - 1, by omega⟩
        obtain ⟨ix, hix⟩ : ∃ ix, ix = x' / 128 := ⟨_, rfl⟩
        have hq : IntKind.i64.wrap ((x' : Int) / 128) = (ix : Int) := by rw [IntKind.wrap_i64] <;> omega
        have HRC := hid (reach_any n' ix (by omega) HX.out HGP.out HGQ.out HV.out)
        cases hr : rchS G B' n' ix with
        | mk o r =>
          obtain ⟨B1, n1⟩ := r
          rw [hr] at HRC
          cases o with
          | none =>
            simp only [optI, eS] at HRC
            have HE : Hid (R = (306, B1, n1)) := hid (HRR.out.trans (layS_fail (by rw [len_list]; exact h0) (hix ▸ hr)))
            clear hr hix hf hxd h0 HRR
            go_wp2_with (first | (go_at_call 53; refine HRC.out.mono ?_; rintro e w1 ⟨rfl, hv1, hx1, ho1⟩))
            go_ret
            refine ⟨?_, ?_, ?_, HO.out.trans ho1⟩
            · rw [HE.out]; rfl
            · rw [HE.out]; exact hv1
            · rw [HE.out]; exact hx1
          | some b =>
            simp only [optI, eS] at HRC
            have hbl := rchS_lt HG.out (show (rchS G B' n' ix).1 = some b by rw [hr])
            have HE := hid (HRR.out.trans (layS_next (by rw [len_list]; exact h0) (hix ▸ hr)))
            obtain ⟨of, hof⟩ : ∃ of, of = x' % 128 := ⟨_, rfl⟩
            have hm : (x' : Int) % 128 = (of : Int) := by omega
            have hofl : of ≤ 128 := by omega
            rw [← hof] at HE
            have HIX := hid hix
            have HOF := hid hof
            have HBL := hid hbl
            have HF := hid hf
            have HXD := hid hxd
            have H0 := hid h0
            clear hr hix hof hbl hf hxd h0 HRR
            go_wp2_with (first | (go_at_call 53; refine HRC.out.mono ?_; rintro e w1 ⟨rfl, hv1, hx1, ho1⟩) | (go_at_call 40; fail))
            have hsz := hv1.size b HBL.out.1
            refine (block_any b HBL.out.1 hv1).mono ?_
            rintro e w2 ⟨rfl, hb2⟩
            obtain ⟨cp, wc, hcl, hcv, hBI, hBc⟩ := bytes_new2 w2 (bk B1 b)
            rw [hsz] at hcv hcl
            have hbs : (bk B1 b).data.toList.length = 128 := by rw [len_list]; exact hsz
            have hcy := copy_run hBI of (by omega) d' (cp - of) 3
            rw [hbs] at hcy
            obtain ⟨wd, hwd⟩ : ∃ wd, wd = wc.setCells w2.heap.size of (bc (d'.data.toList.take (min d'.size (128 - of)))) := ⟨_, rfl⟩
            have hBD : BIs w2.heap.size wd (ovl (bk B1 b).data.toList of (d'.data.toList.take (min d'.size (128 - of)))) := by rw [hwd]; exact BIs.over _ _ hBI
            have hBd : Below w2.heap.size w2 wd := by
              rw [hwd]
              have k := setCells_kept (bc (d'.data.toList.take (min d'.size (128 - of)))) wc w2.heap.size of
              exact hBc.trans ⟨k.os, k.tape, k.output, k.size, fun j hj => k.block j (by have := hBc.size; omega) (by omega)⟩
            rw [← hwd] at hcy
            have hco := hBD.conv cp
            rw [ovl_len, hbs] at hco
            obtain ⟨nb, hnb⟩ : ∃ nb, nb = st (ovl (bk B1 b).data.toList of (d'.data.toList.take (min d'.size (128 - of)))) := ⟨_, rfl⟩
            have hns : nb.size = 128 := by rw [hnb, st_size, ovl_len, hbs]
            rw [len_list] at HE
            rw [← hnb] at hco HE
            obtain ⟨ld, hld⟩ : ∃ ld, ld = min d'.size (128 - of) := ⟨_, rfl⟩
            rw [← hld] at hcy HE
            have hofc : of < cp := by have := HOF.out; omega
            have HVd := hid ((hv1.below hb2).below hBd)
            have HXd := hid ((hx1.below hb2).below hBd)
            have HOd := hid ((HO.out.trans ho1).next (hb2.next hBd))
            have HC := hid (change_any b HBL.out.1 nb hns HVd.out)
            have hld1 : ld ≤ d'.size := by omega
            have hwx : IntKind.i64.wrap ((x' : Int) + (ld : Int)) = ((x' + ld : Nat) : Int) := by have := HXD.out; rw [IntKind.wrap_i64] <;> omega
            have HLD := hid hld
            have HBK := hid hb2
            clear hld hnb hwd hBD hBd hBI hBc hv1 hx1 ho1 hb2 hbs hsz hns hcl HV HX HRC
            go_wp2_with (first | (go_at_call 54; fail))
            refine HC.out.mono ?_
            rintro e w3 ⟨rfl, hv3, ho3⟩
            have HV3 := hid hv3
            have HX3 := hid (HXd.out.only ho3 (by simpa using HGM.out))
            have HO3 := hid (HOd.out.trans (ho3.wide (by simp)))
            clear hv3 ho3 HC HVd HXd HOd hcy hco hcv
            go_wp2
            go_roundw
            case rel =>
              have h0 := H0.out
              have hx0 := HXD.out
              have hf0 := HF.out
              have hl0 := HLD.out
              have ho0 := HOF.out
              refine ⟨f, x' + ld, d'.extract ld d'.size, B1.set b nb, n1, by go_num, rfl, ?_, ?_, ?_, HV3.out, HX3.out, HO3.out⟩
              · simp; omega
              · simp; omega
              · rw [HE.out, st_ext]
            case measure =>
              have h0 := H0.out
              have hl0 := HLD.out
              have ho0 := HOF.out
              simp [strSz]
              omega
end Go.Proofs.YtjnhibpebikkmaaGreat
