import Derived.Test.YtjnhibpebikkmaaGreatFo
import Derived.Test.YtjnhibpebikkmaaGreatFp
import Derived.Test.YtjnhibpebikkmaaGreatFq
namespace Go.Proofs.YtjnhibpebikkmaaGreat
open Go.RowKit Go.Maps

theorem reach_any {G : Geo} {p q cap m g : Nat} {w : World} {F B : List ByteArray} (n : Ino) (i : Nat) (hi : i < 4166) (hX : Box g w n) (hgp : g ≠ p) (hgq : g ≠ q) (h : VI G p q cap m w F B) : Calls Tryz.prog 53 #[.pointer (some ⟨p, 0, none⟩), .pointer (some ⟨g, 0, none⟩), .int .i64 (i : Int)] w fun e w' => e = .returned (.tuple #[.int .i64 (optI (rchS G B n i).1), .int .i64 (eS (rchS G B n i).1)]) ∧ VI G p q cap m w' F (rchS G B n i).2.1 ∧ Box g w' (rchS G B n i).2.2 ∧ Only [g, m] w w' := by
  unfold rchS
  by_cases h0 : blk G B n i = 0
  · rw [if_pos h0]
    by_cases h6 : i < 6
    · rw [if_pos h6]
      exact reach0 n i h6 h0 hX hgp hgq h
    · rw [if_neg h6]
      by_cases h70 : i < 70
      · rw [if_pos h70]
        by_cases hA : nm G B n 0 6 = 0
        · have e : stS G B n 0 6 = mkS G B n 0 6 := by unfold stS; rw [if_pos hA]
          rw [e]
          cases hm : mkS G B n 0 6 with
          | mk o r =>
            obtain ⟨B1, n1⟩ := r
            cases o with
            | none => exact reach1_none n i h6 h70 hA B1 n1 hm h0 hX hgp hgq h
            | some b => exact reach1_made n i h6 h70 hA b B1 n1 hm h0 hX hgp hgq h
        · have e : stS G B n 0 6 = (some (nm G B n 0 6), B, n) := by unfold stS; rw [if_neg hA]
          rw [e]
          exact reach1_hit n i h6 h70 _ rfl hA h0 hX hgp hgq h
      · rw [if_neg h70]
        by_cases hA : nm G B n 0 7 = 0
        · have e : stS G B n 0 7 = mkS G B n 0 7 := by unfold stS; rw [if_pos hA]
          rw [e]
          cases hm : mkS G B n 0 7 with
          | mk o r =>
            obtain ⟨B1, n1⟩ := r
            cases o with
            | none => exact reach2_none n i hi h70 hA B1 n1 hm h0 hX hgp hgq h
            | some b =>
              dsimp only
              by_cases hC : nm G B1 n1 b ((i - 70) / 64) = 0
              · have e : stS G B1 n1 b ((i - 70) / 64) = mkS G B1 n1 b ((i - 70) / 64) := by unfold stS; rw [if_pos hC]
                rw [e]
                cases hm2 : mkS G B1 n1 b ((i - 70) / 64) with
                | mk o2 r2 =>
                  obtain ⟨B2, n2⟩ := r2
                  cases o2 with
                  | none => exact reach2_made_none n i hi h70 hA b B1 n1 hm hC B2 n2 hm2 h0 hX hgp hgq h
                  | some c => exact reach2_made_made n i hi h70 hA b B1 n1 hm hC c B2 n2 hm2 h0 hX hgp hgq h
              · have e : stS G B1 n1 b ((i - 70) / 64) = (some (nm G B1 n1 b ((i - 70) / 64)), B1, n1) := by unfold stS; rw [if_neg hC]
                rw [e]
                exact reach2_made_hit n i hi h70 hA b B1 n1 hm _ rfl hC h0 hX hgp hgq h
        · have e : stS G B n 0 7 = (some (nm G B n 0 7), B, n) := by unfold stS; rw [if_neg hA]
          rw [e]
          dsimp only
          by_cases hC : nm G B n (nm G B n 0 7) ((i - 70) / 64) = 0
          · have e : stS G B n (nm G B n 0 7) ((i - 70) / 64) = mkS G B n (nm G B n 0 7) ((i - 70) / 64) := by unfold stS; rw [if_pos hC]
            rw [e]
            cases hm2 : mkS G B n (nm G B n 0 7) ((i - 70) / 64) with
            | mk o2 r2 =>
              obtain ⟨B2, n2⟩ := r2
              cases o2 with
              | none => exact reach2_hit_none n i hi h70 _ rfl hA hC B2 n2 hm2 h0 hX hgp hgq h
              | some c => exact reach2_hit_made n i hi h70 _ rfl hA hC c B2 n2 hm2 h0 hX hgp hgq h
          · have e : stS G B n (nm G B n 0 7) ((i - 70) / 64) = (some (nm G B n (nm G B n 0 7) ((i - 70) / 64)), B, n) := by unfold stS; rw [if_neg hC]
            rw [e]
            exact reach2_hit_hit n i hi h70 _ rfl hA _ rfl hC h0 hX hgp hgq h
  · rw [if_neg h0]
    exact (reach_hit n i hi h0 hX h).mono fun x w' ⟨a, b⟩ => ⟨a, h.below b, hX.below b, Only.of_below b⟩
end Go.Proofs.YtjnhibpebikkmaaGreat
