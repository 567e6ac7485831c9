import Derived.Test.YtjnhibpebikkmaaGreatFk
namespace Go.Proofs.YtjnhibpebikkmaaGreat
open Go.RowKit Go.Maps

def eS (o : Option Nat) : Int := match o with | some _ => 0 | none => 306
/-- what comes of making a block that is named at a spot: which, the blocks, the inode -/
def mkS (G : Geo) (B : List ByteArray) (n : Ino) (inn pl : Nat) : Option Nat × List ByteArray × Ino := match fre G B with
  | none => (none, B, n)
  | some b => (some b, mkB G B inn pl b, namN n inn pl b)
theorem makeAt_any {G : Geo} {p q cap m g : Nat} {w : World} {F B : List ByteArray} (n : Ino) (inn pl : Nat) (hi : inn < G.n) (hp8 : inn = 0 → pl < 8) (hp : pl < 64) (hX : Box g w n) (hgp : g ≠ p) (hgq : g ≠ q) (h : VI G p q cap m w F B) : Calls Tryz.prog 77 #[.pointer (some ⟨p, 0, none⟩), .pointer (some ⟨g, 0, none⟩), .agg #[.int .i64 (inn : Int), .int .i64 (pl : Int)]] w fun e w' => e = .returned (.tuple #[.int .i64 (optI (mkS G B n inn pl).1), .int .i64 (eS (mkS G B n inn pl).1)]) ∧ VI G p q cap m w' F (mkS G B n inn pl).2.1 ∧ Box g w' (mkS G B n inn pl).2.2 ∧ Only [g, m] w w' := by
  unfold mkS
  cases hf : fre G B with
  | none => exact (makeAt_no inn pl hf h).mono fun x w' ⟨a, b⟩ => ⟨a, h.below b, hX.below b, Only.of_below b⟩
  | some b => exact (makeAt_yes n inn pl b hf hi hp8 hp hX hgp hgq h).mono fun x w' ⟨a, c, d, e⟩ => ⟨a, c, d, e⟩
theorem fre_lt {G : Geo} (hG : G.Ok) {B : List ByteArray} {b : Nat} (h : fre G B = some b) : b < G.n ∧ b ≠ 0 ∧ G.da ≤ b := by
  unfold fre at h
  have := lsF_some h
  have := hG.sum
  have := hG.tz
  have := hG.bt
  omega
theorem mkS_lt {G : Geo} (hG : G.Ok) {B : List ByteArray} {n : Ino} {inn pl b : Nat} (h : (mkS G B n inn pl).1 = some b) : b < G.n ∧ b ≠ 0 := by
  unfold mkS at h
  cases hf : fre G B with
  | none => rw [hf] at h; cases h
  | some c => rw [hf] at h; cases h; exact ⟨(fre_lt hG hf).1, (fre_lt hG hf).2.1⟩
/-- a step of the way: what is named there, made if there is none -/
def stS (G : Geo) (B : List ByteArray) (n : Ino) (inn pl : Nat) : Option Nat × List ByteArray × Ino := if nm G B n inn pl = 0 then mkS G B n inn pl else (some (nm G B n inn pl), B, n)
/-- what 'reach' comes to -/
def rchS (G : Geo) (B : List ByteArray) (n : Ino) (i : Nat) : Option Nat × List ByteArray × Ino :=
  if blk G B n i = 0 then
    (if i < 6 then mkS G B n 0 i
     else if i < 70 then (match (stS G B n 0 6).1 with
       | none => (none, (stS G B n 0 6).2.1, (stS G B n 0 6).2.2)
       | some a => mkS G (stS G B n 0 6).2.1 (stS G B n 0 6).2.2 a (i - 6))
     else (match (stS G B n 0 7).1 with
       | none => (none, (stS G B n 0 7).2.1, (stS G B n 0 7).2.2)
       | some a => (match (stS G (stS G B n 0 7).2.1 (stS G B n 0 7).2.2 a ((i - 70) / 64)).1 with
         | none => (none, (stS G (stS G B n 0 7).2.1 (stS G B n 0 7).2.2 a ((i - 70) / 64)).2.1, (stS G (stS G B n 0 7).2.1 (stS G B n 0 7).2.2 a ((i - 70) / 64)).2.2)
         | some c => mkS G (stS G (stS G B n 0 7).2.1 (stS G B n 0 7).2.2 a ((i - 70) / 64)).2.1 (stS G (stS G B n 0 7).2.1 (stS G B n 0 7).2.2 a ((i - 70) / 64)).2.2 c ((i - 70) % 64))))
  else (some (blk G B n i), B, n)
theorem stS_lt {G : Geo} (hG : G.Ok) {B : List ByteArray} {n : Ino} {inn pl b : Nat} (h : (stS G B n inn pl).1 = some b) : b < G.n ∧ b ≠ 0 := by
  unfold stS at h
  split at h
  · exact mkS_lt hG h
  · rename_i h0
    cases h
    exact ⟨nm_lt hG _ _ _ _, h0⟩
/-- what stands in memory within 'reach' -/
structure RP (G : Geo) (p q cap m g : Nat) (F B : List ByteArray) (w0 : World) (n : Ino) (Y : Nat) (a b c d : Int) (w : World) : Prop where
  v : VI G p q cap m w F B
  x : Box g w n
  y : Way Y w a b c d
  yg : Y ≠ g
  ym : Y ≠ m
  o : Only [g, m] w0 w
theorem RP.below {G : Geo} {p q cap m g : Nat} {F B : List ByteArray} {w0 : World} {n : Ino} {Y : Nat} {a b c d : Int} {w w' : World} (h : RP G p q cap m g F B w0 n Y a b c d w) (k : Below w.heap.size w w') : RP G p q cap m g F B w0 n Y a b c d w' := ⟨h.v.below k, h.x.below k, h.y.below k, h.yg, h.ym, h.o.next k⟩
theorem RP.drew {G : Geo} {p q cap m g : Nat} {F B : List ByteArray} {w0 : World} {n : Ino} {Y : Nat} {a b c d : Int} {w w' : World} (h : RP G p q cap m g F B w0 n Y a b c d w) (k : ∃ j, w' = w.drewN j) : RP G p q cap m g F B w0 n Y a b c d w' := by
  obtain ⟨j, rfl⟩ := k
  exact h.below ((Below.refl _ _).dN _)
theorem RP.step {G : Geo} {p q cap m g : Nat} {F B B' : List ByteArray} {w0 : World} {n n' : Ino} {Y : Nat} {a b c d : Int} {w w' : World} (h : RP G p q cap m g F B w0 n Y a b c d w) (hv : VI G p q cap m w' F B') (hx : Box g w' n') (ho : Only [g, m] w w') : RP G p q cap m g F B' w0 n' Y a b c d w' := ⟨hv, hx, h.y.only ho (by simp; exact ⟨h.yg, h.ym⟩), h.yg, h.ym, h.o.trans ho⟩
end Go.Proofs.YtjnhibpebikkmaaGreat
