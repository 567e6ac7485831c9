import Derived.Test.YtjnhibpebikkmaaGreatIe
import Derived.Deep.RegionHeld3
namespace Go.Proofs.YtjnhibpebikkmaaGreat
open Go.RowKit

theorem cat_list (a b : ByteArray) : (a ++ b).data.toList = a.data.toList ++ b.data.toList := by simp
/-- a number's bytes -/
def fx (n k : Int) : ByteArray := st (fEnc n.toNat k.toNat)
theorem fx_size (n k : Int) : (fx n k).size = k.toNat := by unfold fx; rw [st_size, fEnc_len]
theorem renc_out (k l z a b c d e f s t : Nat) : fx k 1 ++ fx l 1 ++ fx z 4 ++ fx a 2 ++ fx b 2 ++ fx c 2 ++ fx d 2 ++ fx e 2 ++ fx f 2 ++ fx s 2 ++ fx t 2 ++ Z10 = st (encN k l z a b c d e f s t) := by
  apply ByteArray.ext
  simp [st, encN, Z10, fx]
theorem Box.below {q : Nat} {w w' : World} {n : Ino} (h : Box q w n) (k : Below w.heap.size w w') : Box q w' n := (k.block q (lt_of_block h)).trans h
end Go.Proofs.YtjnhibpebikkmaaGreat
