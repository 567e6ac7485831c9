import Derived.Test.YtopebghandojbaaGreatTq
namespace Go.Proofs.YtopebghandojbaaGreat
open Go.RowKit
/-- the head of what is encoded -/
def headB (seq : Nat) (l : List Chg) : ByteArray := st (sealL (bodyL (headL seq (l.map (·.b)) (crc (allD (l.map (·.d)))))))
theorem encL_eq (seq : Nat) (l : List Chg) : encL seq l = headB seq l :: l.map (·.d) := rfl
theorem headL_short {l : List Chg} (seq sm : Nat) (hr : right l = true) : (headL seq (l.map (·.b)) sm).length ≤ 122 := by
  have := right_len hr
  rw [headL_len, List.length_map]
  omega
end Go.Proofs.YtopebghandojbaaGreat
