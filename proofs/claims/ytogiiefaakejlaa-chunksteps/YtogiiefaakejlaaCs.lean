import Derived.Test.YtogiiefaakejlaaCp
import Derived.Test.YtogiiefaakejlaaRo
import Derived.Test.YtogiiefaakejlaaBu
namespace Go.Proofs.Ytogiiefaakejlaa
open Go.RowKit Go.Maps

def cntN (L : List Ck) : Nat := (cnt (totOf L)).toNat
/-- the numbers that are not there, of the first k -/
def missTo (L : List Ck) (k : Nat) : List Int := ((List.range k).map (fun i : Nat => (i : Int))).filter (fun n => !hasN L n)
def missL (L : List Ck) : List Int := if L = [] then [] else missTo L (cntN L)
theorem missTo_succ (L : List Ck) (k : Nat) : missTo L (k + 1) = if hasN L (k : Int) then missTo L k else missTo L k ++ [(k : Int)] := by
  unfold missTo
  rw [List.range_succ, List.map_append, List.filter_append]
  cases h : hasN L (k : Int) <;> simp [h]
theorem missTo_len (L : List Ck) (k : Nat) : (missTo L k).length ≤ k := by
  unfold missTo
  have := List.length_filter_le (fun n => !hasN L n) ((List.range k).map (fun i : Nat => (i : Int)))
  simpa using this
theorem LOk.tot {L : List Ck} (h : LOk L) (hne : L ≠ []) : 1 ≤ totOf L ∧ totOf L ≤ 1024 ∧ cnt (totOf L) = (cntN L : Int) ∧ 1 ≤ cntN L ∧ cntN L ≤ 128 := by
  cases L with
  | nil => exact absurd rfl hne
  | cons x r =>
    have := rgt_num (h.rg x (by simp))
    show 1 ≤ x.tot ∧ x.tot ≤ 1024 ∧ cnt x.tot = ((cnt x.tot).toNat : Int) ∧ 1 ≤ (cnt x.tot).toNat ∧ (cnt x.tot).toNat ≤ 128
    unfold cnt at *
    omega
set_option maxRecDepth 100000 in
theorem miss_nil (w : World) : Calls Try.prog 20 #[.pointer none] w fun e w' => e = .returned (.slice none 0 0) ∧ w' = w := by
  go_enter Try.func20, Try.ntmps20
  go_wp2_with (go_at_call 31; refine (begun_nil _).mono ?_; rintro e w1 ⟨rfl, hw⟩; have hw := hw.symm; subst hw)
  go_ret
  exact ⟨rfl, rfl⟩
set_option maxRecDepth 100000 in
set_option maxHeartbeats 1000000 in
/-- Missing -/
theorem miss_any {base g : Nat} {w : World} {L : List Ck} (h : CI base g w L) : Calls Try.prog 20 #[.pointer (some ⟨g, 0, none⟩)] w fun e w' => ∃ v, e = .returned v ∧ IRow w.heap.size w' v (missL L) ∧ Below w.heap.size w w' := by
  by_cases hne : L = []
  · subst hne
    go_enter Try.func20, Try.ntmps20
    go_wp2_with (go_at_call 31; refine (begun_no h).mono ?_; rintro e w1 ⟨rfl, hw⟩; have hw := hw.symm; subst hw)
    go_ret
    exact ⟨_, rfl, IRow.nil _ _, Below.refl _ _⟩
  · have HML : Hid (missL L = missTo L (cntN L)) := if_neg hne
    obtain ⟨t1, t2, t3, t4, t5⟩ := h.ok.tot hne
    have hbt : begun L = true := by unfold begun; cases L with | nil => exact absurd rfl hne | cons _ _ => rfl
    have HBG := hid (fun (w' : World) (h' : CI base g w' L) => begun_any h')
    rw [hbt] at HBG
    obtain ⟨mv, c0, c1, c2, hmv⟩ := h.cells
    have HCN := hid (fun w => count_any (totOf L) (by omega) t2 w)
    rw [t3] at HCN
    obtain ⟨t, ht⟩ : ∃ t, t = totOf L := ⟨_, rfl⟩
    obtain ⟨C, hC⟩ : ∃ C, C = cntN L := ⟨_, rfl⟩
    rw [← ht] at HCN c1
    rw [← hC] at HML HCN t4 t5
    have H := hid h
    clear hmv hbt h hne t1 t2 t3 ht hC c0 c2
    go_enter Try.func20, Try.ntmps20
    go_wp2_with (first
      | (go_at_call 31; refine (HBG.out _ H.out).mono ?_; rintro e w1 ⟨rfl, hw⟩; have hw := hw.symm; subst hw)
      | (go_at_call 26; refine (HCN.out _).mono ?_; rintro e w1 ⟨rfl, hw⟩; have hw := hw.symm; subst hw))
    go_loopw [3, 13] (fun s i wr => ∃ k : Nat, k ≤ C ∧ i = .int .i64 k ∧ Hid (IRow w.heap.size wr s (missTo L k)) ∧ Hid (Below w.heap.size w wr)) (fun _ i _ => C - (intOf i).toNat)
    case atStart => exact ⟨0, Nat.zero_le _, rfl, IRow.nil _ _, Below.refl _ _⟩
    case round =>
      obtain ⟨k, hk, rfl, HR, HB⟩ := hrel
      by_cases hkc : k < C
      · have HH := hid (has_any (H.out.below HB.out) (k : Int) ⟨by omega, by omega⟩)
        have HSU := hid (missTo_succ L k)
        have hml := missTo_len L k
        obtain ⟨z, hz⟩ : ∃ z, z = hasN L (k : Int) := ⟨_, rfl⟩
        rw [← hz] at HH HSU
        clear hz
        obtain ⟨ao, cap, rfl, hc1, hc2⟩ := HR.out.len
        cases z with
        | true =>
          go_wp2_with (go_at_call 32; fail)
          refine (HH.out).mono ?_
          rintro e w2 ⟨rfl, hb2⟩
          have HB2 := hid hb2
          clear hb2
          go_wp2
          go_roundw
          case rel => exact ⟨k + 1, hkc, by simp, hid (by rw [HSU.out]; exact HR.out.below HB2.out), hid (HB.out.next HB2.out)⟩
          case measure => simp [intOf]; omega
        | false =>
          go_wp2_with (go_at_call 32; fail)
          refine (HH.out).mono ?_
          rintro e w2 ⟨rfl, hb2⟩
          have HB2 := hid hb2
          clear hb2
          have HR2 := hid (HR.out.below HB2.out)
          have HS2 := hid (HB.out.next HB2.out)
          have hsz := HS2.out.size
          go_wp2_with (at_builtin; refine pushI rfl (.tmp 20) (.tmp 22) rfl w.heap.size _ _ (missTo L k) (k : Int) rfl rfl rfl HR2.out (by omega) hsz ?_; intro v' w3 hv3 hb3 _; have HV3 := hid hv3; have HB3 := hid hb3; clear hv3 hb3)
          obtain ⟨ao3, cap3, rfl, hd1, hd2⟩ := HV3.out.len
          go_wp2
          go_roundw
          case rel => exact ⟨k + 1, hkc, by simp, hid (by rw [HSU.out]; exact HV3.out), hid (HS2.out.trans HB3.out)⟩
          case measure => simp [intOf]; omega
      · have e : k = C := by omega
        subst e
        go_wp2
        go_ret
        exact ⟨_, rfl, by rw [HML.out]; exact HR.out, HB.out⟩
end Go.Proofs.Ytogiiefaakejlaa
