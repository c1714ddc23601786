/- Frames, plain: what is told of a frame, of its beginnings, of frames with something behind, of frames with four neighbours turned. -/
import Derived.Test.YtlgockombdjbpaaDoorFv
namespace Go.Proofs.YtlgockombdjbpaaDoor

theorem lkN_frame (xs rest : List Nat) : lkN (frm xs ++ rest) = xs.length / 256 * 256 + xs.length % 256 := by
  unfold lkN frm hdr
  rfl
theorem lkN_frame' (xs rest : List Nat) : lkN (frm xs ++ rest) = xs.length := by rw [lkN_frame]; omega
theorem take_frame (xs rest : List Nat) : (frm xs ++ rest).take (3 + xs.length) = hdr xs := by
  unfold frm
  rw [List.append_assoc, List.take_append_of_le_length (by rw [hdr_length]; omega), List.take_of_length_le (by rw [hdr_length]; omega)]
theorem sum_frame (xs rest : List Nat) : ((frm xs ++ rest).take (3 + xs.length + 4)).drop (3 + xs.length) = big (Crc.sum (hdr xs)) 4 := by
  unfold frm
  have h1 : (hdr xs ++ big (Crc.sum (hdr xs)) 4 ++ rest).take (3 + xs.length + 4) = hdr xs ++ big (Crc.sum (hdr xs)) 4 := by
    rw [List.take_append_of_le_length (by rw [List.length_append, hdr_length, big_length]; omega), List.take_of_length_le (by rw [List.length_append, hdr_length, big_length]; omega)]
  rw [h1, List.drop_append_of_le_length (by rw [hdr_length]; omega), List.drop_of_length_le (by rw [hdr_length]; omega), List.nil_append]
/-- a frame with something behind tells what it holds -/
theorem lk_frame (xs rest : List Nat) (h1 : 1 ≤ xs.length) : lkE (frm xs ++ rest) = 0 := by
  have hl : (frm xs ++ rest).length = xs.length + 7 + rest.length := by rw [List.length_append, frm_length]
  unfold lkE
  rw [if_neg (by omega), if_neg (by unfold frm hdr; simp), if_neg (by omega), lkN_frame', if_neg (by omega), if_neg (by omega), take_frame, sum_frame, if_neg (by simp)]
theorem unB_frame (xs rest : List Nat) (h1 : 1 ≤ xs.length) : unB (frm xs ++ rest) = xs := by
  unfold unB
  rw [if_pos (lk_frame xs rest h1), lkN_frame', take_frame]
  rfl
theorem unR_frame (xs rest : List Nat) (h1 : 1 ≤ xs.length) : unR (frm xs ++ rest) = rest := by
  unfold unR
  rw [if_pos (lk_frame xs rest h1), lkN_frame', List.drop_append, List.drop_of_length_le (by rw [frm_length]; omega), frm_length, show 3 + xs.length + 4 - (xs.length + 7) = 0 from by omega]
  simp
/-- a beginning of a frame is too short -/
theorem lk_short (xs : List Nat) (h1 : 1 ≤ xs.length) (m : Nat) (hm : m < (frm xs).length) : lkE ((frm xs).take m) = 50 := by
  have hl : ((frm xs).take m).length = m := by rw [List.length_take]; omega
  rw [frm_length] at hm
  unfold lkE
  by_cases h0 : m = 0
  · rw [if_pos (by omega)]
  · have hg : ∀ j, j < m → ((frm xs).take m).getD j 0 = (frm xs).getD j 0 := fun j hj => by
      rw [List.getD_eq_getElem?_getD, List.getD_eq_getElem?_getD, List.getElem?_take_of_lt hj]
    rw [if_neg (by omega), if_neg (by rw [hg 0 (by omega)]; unfold frm hdr; simp)]
    by_cases h3 : m < 3
    · rw [if_pos (by omega)]
    · have hN : lkN ((frm xs).take m) = xs.length := by
        unfold lkN
        rw [hg 1 (by omega), hg 2 (by omega)]
        have := lkN_frame' xs []
        rw [List.append_nil] at this
        exact this
      rw [if_neg (by omega), hN, if_neg (by omega), if_pos (by omega)]
theorem un_bad {xs : List Nat} (h : lkE xs ≠ 0) : unB xs = [] ∧ unR xs = [] := by
  unfold unB unR
  rw [if_neg h, if_neg h]; exact ⟨rfl, rfl⟩
end Go.Proofs.YtlgockombdjbpaaDoor
