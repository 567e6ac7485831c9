import Derived.Test.YtmabnnimacjplaaJa
import Derived.Test.YtmabnnimacjplaaIg
namespace Go.Proofs.Ytmabnnimacjplaa
open Go.RowKit Go.Maps

theorem codes_walk (n : Ino) (b : ByteArray) (hb : b.size < 140737488355328) (w : World) : Calls Try.prog 3 #[n.v, .string b] w fun v w' => v = .returned (.bool true) ∧ Below w.heap.size w w' :=
  codes_r n (decI b.data.toList) (encV n) b (chkE n) (decE b.data.toList) (chkE n) (rightI n) (by unfold chkE; cases rightI n <;> rfl) (encode_any n) (rencode_any n) (decode_any b hb) (rdecode_any b) (check_any n) (rright_any n) w
theorem tables_walk (b : ByteArray) (k : Int) (n : Ino) (w : World) : Calls Try.prog 4 #[.string b, .int .i64 k, n.v] w fun x w' => x = .returned (.bool true) ∧ Below w.heap.size w w' :=
  tables_w rdecode_any b k n w
end Go.Proofs.Ytmabnnimacjplaa
