import Derived.Test.YtglhibmfbbbdiaaAl
namespace Go.Proofs.Ytglhibmfbbbdiaa
open Go.RowKit Go.Maps

theorem crash_all (pk : Nat → Bool) : ∀ (Q : List (Nat × ByteArray)) (i t : Nat) (f : Nat → Option ByteArray), (∀ j, i ≤ j → j < i + Q.length → pk j = true) → crashFrom pk i t f Q = seen f Q
  | [], i, t, f, _ => by rw [crash_end]; rfl
  | q :: Q, i, t, f, h => by
    rw [crash_cons, if_pos (h i (Nat.le_refl _) (by simp)), crash_all pk Q (i + 1) t _ (fun j h1 h2 => h j (by omega) (by simp; omega))]
    rfl
theorem crash_none (pk : Nat → Bool) (hp : ∀ i, pk i = false) : ∀ (Q : List (Nat × ByteArray)) (i : Nat) (f : Nat → Option ByteArray), crashFrom pk i 0 f Q = f
  | [], i, f => by rw [crash_end]
  | q :: Q, i, f => by
    rw [crash_cons, hp i, if_neg (by simp), Nat.zero_min, over_zero, crash_none pk hp Q]
theorem an1 (w : World) : Calls Try.prog 8 #[.int .i64 6] w fun e w' => ∃ g, e = .returned (.tuple #[.pointer (some ⟨g, 0, none⟩), .int .i64 0]) ∧ Dev w.heap.size g w' 0 (S6 []) ∧ Below w.heap.size w w' :=
  (new_any 6 (by decide) (by decide) w.heap.size w (Nat.le_refl _)).mono fun _ _ k => ⟨_, k.1, ⟨_, _, Nat.le_refl _, k.2.1⟩, k.2.2⟩
theorem an2 {base gd : Nat} (keep : Bool) (w : World) (h : Dev base gd w 0 (S6 [])) (hb : base ≤ w.heap.size) : Calls Try.prog 8 #[.int .i64 6] w fun e w' => ∃ gx, e = .returned (.tuple #[.pointer (some ⟨gx, 0, none⟩), .int .i64 0]) ∧ AP base gd gx keep w' (S6 []) (S6 []) 0 (.slice none 0 0) ∧ Below w.heap.size w w' := by
  obtain ⟨N, fp, hN, h⟩ := h
  refine (new_any 6 (by decide) (by decide) base w hb).mono fun _ _ k => ⟨_, k.1, ⟨fp, _, (h.below k.2.2).shrink', k.2.1.shrink', fun x hx hm => ?_, World.ownsRow_nil _ _ _ _, fun b e => by cases e⟩, k.2.2⟩
  have := (h.lo x hx).2
  simp at hm
  omega
theorem ap_readd {base gd gx m : Nat} {k : Bool} {F : Nat → Option ByteArray} {Sx : DS} {pv : Value} (i : Nat) (hi : i < 6) (w : World) (h : AP base gd gx k w ⟨6, F, []⟩ Sx m pv) :
    Calls Try.prog 22 #[.pointer (some ⟨gd, 0, none⟩), .int .i64 i] w fun e w' => e = .returned (.tuple #[.string ((F i).getD Z), .int .i64 0]) ∧ AP base gd gx k w' ⟨6, F, []⟩ Sx m pv ∧ Below w.heap.size w w' := by
  have hk := h
  obtain ⟨fpd, fpx, h1, _⟩ := h
  exact (read_any i hi w h1).mono fun _ _ q => ⟨q.1, hk.keep q.2, q.2⟩
theorem ap_readx {base gd gx m : Nat} {k : Bool} {F : Nat → Option ByteArray} {Sd : DS} {pv : Value} (i : Nat) (hi : i < 6) (w : World) (h : AP base gd gx k w Sd ⟨6, F, []⟩ m pv) :
    Calls Try.prog 22 #[.pointer (some ⟨gx, 0, none⟩), .int .i64 i] w fun e w' => e = .returned (.tuple #[.string ((F i).getD Z), .int .i64 0]) ∧ AP base gd gx k w' Sd ⟨6, F, []⟩ m pv ∧ Below w.heap.size w w' := by
  have hk := h
  obtain ⟨fpd, fpx, _, h1, _⟩ := h
  exact (read_any i hi w h1).mono fun _ _ q => ⟨q.1, hk.keep q.2, q.2⟩
theorem ap_lastd {base gd gx m : Nat} {k : Bool} {F : Nat → Option ByteArray} {Sx : DS} {pv : Value} (i : Nat) (hi : i < 6) (w : World) (h : AP base gd gx k w ⟨6, F, []⟩ Sx m pv) :
    Calls Try.prog 23 #[.pointer (some ⟨gd, 0, none⟩), .int .i64 i] w fun e w' => e = .returned (.tuple #[.string ((F i).getD Z), .int .i64 0]) ∧ AP base gd gx k w' ⟨6, F, []⟩ Sx m pv ∧ Below w.heap.size w w' := by
  have hk := h
  obtain ⟨fpd, fpx, h1, _⟩ := h
  exact (lasts_any i hi w h1).mono fun _ _ q => ⟨q.1, hk.keep q.2, q.2⟩
theorem ap_waits {base gd gx m : Nat} {k : Bool} {F : Nat → Option ByteArray} {Sx : DS} {pv : Value} (w : World) (h : AP base gd gx k w ⟨6, F, []⟩ Sx m pv) :
    Calls Try.prog 18 #[.pointer (some ⟨gd, 0, none⟩)] w fun e w' => e = .returned (.int .i64 0) ∧ w' = w := by
  obtain ⟨fpd, fpx, h1, _⟩ := h
  exact waits_any w h1
theorem data_small (M O : Int) (x : UInt8) : (dataS M O x).size ≤ 1280 := by
  rw [dataS_size]; have := manyV_le M; have := oddV_lt O; omega
/-- where the two devices stand, behind j steps -/
def AL (base gd gx : Nat) (keep : Bool) (w : World) (j : Nat) (pv : Value) : Prop := ∃ Q : List (Nat × ByteArray), AP base gd gx keep w (S6 Q) (S6 (if keep then Q else [])) Q.length pv ∧ Q.length ≤ j
theorem AL.keep {base gd gx j : Nat} {k : Bool} {w w' : World} {pv : Value} (h : AL base gd gx k w j pv) (hb : Below w.heap.size w w') : AL base gd gx k w' j pv := by
  obtain ⟨Q, h1, h2⟩ := h
  exact ⟨Q, h1.keep hb, h2⟩
theorem AL.mono {base gd gx j j' : Nat} {k : Bool} {w : World} {pv : Value} (h : AL base gd gx k w j pv) (hj : j ≤ j') : AL base gd gx k w j' pv := by
  obtain ⟨Q, h1, h2⟩ := h
  exact ⟨Q, h1, by omega⟩
/-- .. between the two writes, the pick put or not yet -/
def AM (base gd gx : Nat) (keep : Bool) (w : World) (j : Nat) (pv : Value) (A : Int) (d : ByteArray) (b : Nat) : Prop := ∃ Q : List (Nat × ByteArray), AP base gd gx keep w (S6 (Q ++ [(A.toNat, d)])) (S6 (if keep then Q else [])) (Q.length + b) pv ∧ Q.length ≤ j
theorem AL.row_lt {base gd gx j : Nat} {k : Bool} {w : World} {pv : Value} (h : AL base gd gx k w j pv) : ∀ b, pv.ownBlock = some b → b < w.heap.size := by
  obtain ⟨Q, ⟨fpd, fpx, _, _, _, h4, _⟩, _⟩ := h
  exact fun b e => (h4.lt b e).2
theorem al_ok {base gd gx j : Nat} {k : Bool} {pv : Value} (A : Int) (d : ByteArray) (hok : okW A d) (hd : d.size ≤ 1280) (hj : j ≤ 300) (w0 w : World) (h : AL base gd gx k w0 j pv) (hb6 : Below w0.heap.size w0 w) (hb : base ≤ w.heap.size) :
    Calls Try.prog 11 #[.pointer (some ⟨gd, 0, none⟩), .int .i64 A, .string d] w fun e w' => e = .returned (.int .i64 0) ∧ AM base gd gx k w' j pv A d 0 ∧ Below base w w' ∧ ∀ v, w0.heap.size ≤ v → v < w.heap.size → w'.heap[v]? = w.heap[v]? := by
  obtain ⟨Q, ⟨fpd, fpx, h1, h2, h3, h4, h5⟩, hq⟩ := h
  obtain ⟨o1, o2, o3, o4⟩ := hok
  obtain ⟨a, rfl⟩ := Int.eq_ofNat_of_zero_le o3
  have h1' := h1.below hb6
  refine (write_ok a d o1 o2 (by omega) (show a + cnt d ≤ 6 by omega) (by decide) (show Q.length ≤ 100000 by omega) w h1' hb).mono fun e w' q => ?_
  obtain ⟨k1, fp', k2, k3, k4⟩ := q
  refine ⟨k1, ⟨Q, AP.turnD h1' (h2.below hb6) h3 (row4_same h4 (fun b e => hb6.block b (h4.lt b e).2)) h5 k2 k3 k4, hq⟩, k3.below hb (fun x hx => (h1.lo x hx).1), fun v h6 h7 => k3.block v h7 (fun hm => ?_)⟩
  have := (h1.lo v hm).2
  omega
theorem al_bad {base gd gx j : Nat} {k : Bool} {pv : Value} (A : Int) (d : ByteArray) (hA : -9223372036854775808 ≤ A ∧ A ≤ 9223372036854775807) (hok : ¬ okW A d) (hd : d.size ≤ 1280) (w : World) (h : AL base gd gx k w j pv) :
    Calls Try.prog 11 #[.pointer (some ⟨gd, 0, none⟩), .int .i64 A, .string d] w fun e w' => e = .returned (.int .i64 (errW d)) ∧ AL base gd gx k w' j pv ∧ Below w.heap.size w w' := by
  obtain ⟨Q, h1, h2⟩ := h
  exact (ap_wbad A d hA hok (by omega) w h1).mono fun _ _ q => ⟨q.1, ⟨Q, q.2.1, h2⟩, q.2.2⟩
theorem am_x {base gd gx j : Nat} {pv : Value} (A : Int) (d : ByteArray) (hok : okW A d) (hd : d.size ≤ 1280) (hj : j ≤ 300) (w : World) (h : AM base gd gx true w j pv A d 1) (hb : base ≤ w.heap.size) :
    Calls Try.prog 11 #[.pointer (some ⟨gx, 0, none⟩), .int .i64 A, .string d] w fun e w' => e = .returned (.int .i64 0) ∧ AL base gd gx true w' (j + 1) pv ∧ Below base w w' := by
  obtain ⟨Q, h1, h2⟩ := h
  refine (ap_wx A d hok (by omega) (by simp; omega) w h1 hb).mono fun _ _ q => ⟨q.1, ⟨Q ++ [(A.toNat, d)], ?_, by simp; omega⟩, q.2.2⟩
  have := q.2.1
  simp only [if_true] at this ⊢
  rw [List.length_append]
  exact this
theorem am_f {base gd gx j : Nat} {pv : Value} {A : Int} {d : ByteArray} {w : World} (h : AM base gd gx false w j pv A d 1) : AL base gd gx false w (j + 1) pv := by
  obtain ⟨Q, h1, h2⟩ := h
  refine ⟨Q ++ [(A.toNat, d)], ?_, by simp; omega⟩
  rw [List.length_append]
  exact h1
theorem push_am {ops : Array Oper} {rest : List Oper} {o : Oper} {a : Act} {Q : Exit → Act → World → Prop} {w0 : World} (hgd : o.guard = none) (s x : Operand)
    (ho : o.op = .call { callee := .builtin .append, args := #[s, x], argTypes := #[31, 31] }) (base gd gx : Nat) (k : Bool) (j : Nat) (pv : Value) (A : Int) (d : ByteArray)
    (hs : a.eval s = pv) (hx : a.eval x = .slice (some ⟨w0.heap.size, 0, none⟩) 1 1) (hA : AM base gd gx k w0 j pv A d 0) (hn : j ≤ 300) (hbase : base ≤ w0.heap.size)
    (h : ∀ v' w', AM base gd gx k w' j v' A d 1 → Below base w0 w' → (∀ b, b < w0.heap.size → pv.ownBlock ≠ some b → w'.heap[b]? = w0.heap[b]?) → wpList Try.prog ops Q rest (a.put o.dst v') w') :
    wpList Try.prog ops Q (o :: rest) a (w0.alloc (.cells #[.bool k] 4)) := by
  obtain ⟨Q0, h1, h2⟩ := hA
  exact push_pick hgd s x ho base gd gx k _ _ (Q0.length + 0) pv hs hx h1 (by omega) hbase fun v' w' g1 g2 g3 => h v' w' ⟨Q0, g1, h2⟩ g2 g3
theorem AM.keep {base gd gx j b : Nat} {k : Bool} {w w' : World} {pv : Value} {A : Int} {d : ByteArray} (h : AM base gd gx k w j pv A d b) (hb : Below w.heap.size w w') : AM base gd gx k w' j pv A d b := by
  obtain ⟨Q, h1, h2⟩ := h
  exact ⟨Q, h1.keep hb, h2⟩
/-- behind flush and crash both last alike -/
def AE (base gd gx : Nat) (keep : Bool) (w : World) : Prop := ∃ F m pv, AP base gd gx keep w ⟨6, F, []⟩ ⟨6, F, []⟩ m pv
def AF (base gd gx : Nat) (keep : Bool) (w : World) (pv : Value) : Prop := ∃ Q : List (Nat × ByteArray), AP base gd gx keep w (S6 Q) ⟨6, seen (fun _ => none) (if keep then Q else []), []⟩ Q.length pv ∧ Q.length ≤ 300
theorem al_flush {base gd gx j : Nat} {k : Bool} {pv : Value} (hj : j ≤ 300) (w : World) (h : AL base gd gx k w j pv) (hb : base ≤ w.heap.size) : Calls Try.prog 14 #[.pointer (some ⟨gx, 0, none⟩)] w fun e w' => e = .returned (.tuple #[]) ∧ AF base gd gx k w' pv ∧ Below base w w' := by
  obtain ⟨Q, h1, h2⟩ := h
  exact (ap_flush w h1 hb).mono fun _ _ q => ⟨q.1, ⟨Q, q.2.1, by omega⟩, q.2.2⟩
theorem af_crash {base gd gx : Nat} {k : Bool} {pv : Value} (w : World) (h : AF base gd gx k w pv) (hb : base ≤ w.heap.size) : Calls Try.prog 16 #[.pointer (some ⟨gd, 0, none⟩), pv, .int .i64 0] w fun e w' => e = .returned (.int .i64 0) ∧ AE base gd gx k w' ∧ Below base w w' := by
  obtain ⟨Q, h1, h2⟩ := h
  refine (ap_crash (by omega) (by omega) w h1 hb).mono fun _ _ q => ⟨q.1, ?_, q.2.2⟩
  have hq := q.2.1
  have e : crashFrom (fun i => if i < Q.length then k else false) 0 0 (fun _ => none) Q = seen (fun _ => none) (if k then Q else []) := by
    cases k with
    | true => rw [crash_all _ Q 0 0 _ (fun j _ h2 => if_pos (by omega))]; rfl
    | false => rw [crash_none _ (fun i => by simp) Q 0]; rfl
  rw [e] at hq
  exact ⟨_, _, _, hq⟩
end Go.Proofs.Ytglhibmfbbbdiaa
