import Derived.Test.YtmabnnimacjplaaIv
import Derived.Lib.SmallJoins
import Derived.OpenShut
namespace Go.Proofs.Ytmabnnimacjplaa
open Go.RowKit Go.Maps

theorem parE_ok {b : ByteArray} {i : Nat} (hb : b.size = 128) (hi : i < 4) : parE b i 4 = 0 := by unfold parE; rw [if_pos hb, if_pos (by omega)]
theorem get_ok {b : ByteArray} {i : Nat} (hb : b.size = 128) (hi : i < 4) : getI b i = decI (b.extract (32 * i) (32 * i + 32)).data.toList ∧ getE b i = decE (b.extract (32 * i) (32 * i + 32)).data.toList := by
  unfold getI getE
  rw [if_pos (parE_ok hb hi), if_pos (parE_ok hb hi)]
  exact ⟨rfl, rfl⟩
theorem back_walk (b : ByteArray) (k : Int) (n : Ino) (w : World) : Calls Try.prog 7 #[.string b, .int .i64 k, n.v] w fun x w' => x = .returned (.bool true) ∧ Below w.heap.size w w' := by
  cases hr : rightI n with
  | false => exact back_no b k n hr w
  | true =>
    have e1 : encV n = st (encL n) := by unfold encV; rw [if_pos hr]
    have HE := encode_any n
    rw [e1, rightE hr] at HE
    have HD := decode_any (st (encL n)) (by rw [st_size, encL_len]; decide)
    rw [st_list, (dec_yes hr).1, (dec_yes hr).2] at HD
    have HP := put_any b k n
    by_cases hp : putE b k n = 0
    · have hpar : parE b k 4 = 0 := by
        unfold putE at hp
        split at hp
        · assumption
        · exact hp
      obtain ⟨hb, i, rfl, hi⟩ := par_ok hpar
      have hv : putV b i n = b.extract 0 (32 * i) ++ st (encL n) ++ b.extract (32 * i + 32) 128 := by
        unfold putV
        rw [if_pos hp]
        rfl
      rw [hp, hv] at HP
      have hcs := put_size b i n hb (by omega)
      have hpt := fun j hj => put_part b i j n hb (by omega) hj
      obtain ⟨c, hc⟩ : ∃ c, c = b.extract 0 (32 * i) ++ st (encL n) ++ b.extract (32 * i + 32) 128 := ⟨_, rfl⟩
      rw [← hc] at HP hcs
      simp only [← hc] at hpt
      refine back_ok b _ c i n (by omega) hcs (fun j => getI b j) (fun j => getE b j) HE HD HP (fun j hj hne => ?_) ?_ (fun j _ => get_any b j) w
      · have h1 := get_ok hcs hj
        have h2 := get_ok hb hj
        rw [hpt j hj, if_neg hne, ← h2.1, ← h2.2] at h1
        have := get_any c j
        rw [h1.1, h1.2] at this
        exact this
      · have h1 := get_ok hcs (show i < 4 by omega)
        rw [hpt i (by omega), if_pos rfl, (dec_yes hr).1, (dec_yes hr).2] at h1
        have := get_any c i
        rw [h1.1, h1.2] at this
        exact this
    · rw [show putV b k n = ByteArray.empty by unfold putV; rw [if_neg hp]] at HP
      exact back_err b _ k n _ hp HE HD HP w
end Go.Proofs.Ytmabnnimacjplaa
