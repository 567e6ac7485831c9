import Derived.Test.YtjnhibpebikkmaaGreatFv
namespace Go.Proofs.YtjnhibpebikkmaaGreat
open Go.RowKit Go.Maps

/-- how many data blocks are not taken -/
def freN (G : Geo) (B : List ByteArray) : Int := (G.ct : Int) - (cnt (bk B G.bm).data.toList G.da G.ct : Int)
/-- the changes of a view -/
def chgL (F B : List ByteArray) : List Chg := (List.range B.length).filterMap fun b => if bk F b = bk B b then none else some ⟨(b : Int), bk B b⟩
/-- the regions of the small shape, its blank blocks, and the file that 'speaks' writes -/
def sG : Geo := ⟨21, 22, 23, 17, 4, 40⟩
def sF : List ByteArray := List.replicate 40 (Zs 128)
def sN : Ino := ⟨1, 1, 0, 0, 0, 0, 0, 0, 0, 0, 0⟩
def sB : List ByteArray := putB sG sF 1 sN
def sD : ByteArray := ⟨#[120]⟩
def sR : Int × List ByteArray × Ino := layR sG sB (usdI sG sB 1) 8960 sD
def sB2 : List ByteArray := putB sG sR.2.1 1 sR.2.2
set_option maxRecDepth 1000000 in
theorem s_a : usdE sG sB 1 = 0 := by decide +kernel
set_option maxRecDepth 1000000 in
theorem s_c : chkE sN = 0 := by decide +kernel
set_option maxRecDepth 1000000 in
theorem s_f : freN sG sF = 17 := by decide +kernel
set_option maxRecDepth 1000000 in
theorem s_r : sR.1 = 0 := by decide +kernel
set_option maxRecDepth 1000000 in
theorem s_n : nodeE sG sB2 1 = 0 := by decide +kernel
set_option maxRecDepth 1000000 in
theorem s_u : usdE sG sB2 1 = 0 ∧ (usdI sG sB2 1).z = 8961 ∧ blk sG sB2 (usdI sG sB2 1) 69 = 0 ∧ blk sG sB2 (usdI sG sB2 1) 70 = 25 := by decide +kernel
set_option maxRecDepth 1000000 in
theorem s_g : freN sG sB2 = 14 := by decide +kernel
set_option maxRecDepth 1000000 in
theorem s_k : blk sG sB2 (nodeI sG sB2 1) 70 = 25 := by decide +kernel
set_option maxRecDepth 1000000 in
theorem s_l : (chgL sF sB2).length = 5 := by decide +kernel
set_option maxRecDepth 1000000 in
theorem s_x : (bk sB2 25).extract 0 1 = ⟨#[120]⟩ := by decide +kernel
end Go.Proofs.YtjnhibpebikkmaaGreat
