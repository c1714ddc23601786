/- Texts of this proof, joined: Fp, Fq. -/
import Derived.Test.YtoepemgflbmlcaaDoorMgBO
import Derived.Deep.RegionLaw
import Derived.Lib.Bytes
/- Frames, plain: what is told of a frame, of its beginnings, of frames with something behind, of frames with four neighbours turned. -/
namespace Go.Proofs.YtoepemgflbmlcaaDoor

theorem lkN_frame (xs rest : List Nat) : lkN (frm xs ++ rest) = xs.length / 256 * 256 + xs.length % 256 := by
  unfold lkN frm hdr
  rfl
theorem lkN_frame' (xs rest : List Nat) : lkN (frm xs ++ rest) = xs.length := by rw [lkN_frame]; omega
theorem take_frame (xs rest : List Nat) : (frm xs ++ rest).take (3 + xs.length) = hdr xs := by
  unfold frm
  rw [List.append_assoc, List.take_append_of_le_length (by rw [hdr_length]; omega), List.take_of_length_le (by rw [hdr_length]; omega)]
theorem sum_frame (xs rest : List Nat) : ((frm xs ++ rest).take (3 + xs.length + 4)).drop (3 + xs.length) = big (Crc.sum (hdr xs)) 4 := by
  unfold frm
  have h1 : (hdr xs ++ big (Crc.sum (hdr xs)) 4 ++ rest).take (3 + xs.length + 4) = hdr xs ++ big (Crc.sum (hdr xs)) 4 := by
    rw [List.take_append_of_le_length (by rw [List.length_append, hdr_length, big_length]; omega), List.take_of_length_le (by rw [List.length_append, hdr_length, big_length]; omega)]
  rw [h1, List.drop_append_of_le_length (by rw [hdr_length]; omega), List.drop_of_length_le (by rw [hdr_length]; omega), List.nil_append]
/-- a frame with something behind tells what it holds -/
theorem lk_frame (xs rest : List Nat) (h1 : 1 ≤ xs.length) : lkE (frm xs ++ rest) = 0 := by
  have hl : (frm xs ++ rest).length = xs.length + 7 + rest.length := by rw [List.length_append, frm_length]
  unfold lkE
  rw [if_neg (by omega), if_neg (by unfold frm hdr; simp), if_neg (by omega), lkN_frame', if_neg (by omega), if_neg (by omega), take_frame, sum_frame, if_neg (by simp)]
theorem unB_frame (xs rest : List Nat) (h1 : 1 ≤ xs.length) : unB (frm xs ++ rest) = xs := by
  unfold unB
  rw [if_pos (lk_frame xs rest h1), lkN_frame', take_frame]
  rfl
theorem unR_frame (xs rest : List Nat) (h1 : 1 ≤ xs.length) : unR (frm xs ++ rest) = rest := by
  unfold unR
  rw [if_pos (lk_frame xs rest h1), lkN_frame', List.drop_append, List.drop_of_length_le (by rw [frm_length]; omega), frm_length, show 3 + xs.length + 4 - (xs.length + 7) = 0 from by omega]
  simp
/-- a beginning of a frame is too short -/
theorem lk_short (xs : List Nat) (h1 : 1 ≤ xs.length) (m : Nat) (hm : m < (frm xs).length) : lkE ((frm xs).take m) = 50 := by
  have hl : ((frm xs).take m).length = m := by rw [List.length_take]; omega
  rw [frm_length] at hm
  unfold lkE
  by_cases h0 : m = 0
  · rw [if_pos (by omega)]
  · have hg : ∀ j, j < m → ((frm xs).take m).getD j 0 = (frm xs).getD j 0 := fun j hj => by
      rw [List.getD_eq_getElem?_getD, List.getD_eq_getElem?_getD, List.getElem?_take_of_lt hj]
    rw [if_neg (by omega), if_neg (by rw [hg 0 (by omega)]; unfold frm hdr; simp)]
    by_cases h3 : m < 3
    · rw [if_pos (by omega)]
    · have hN : lkN ((frm xs).take m) = xs.length := by
        unfold lkN
        rw [hg 1 (by omega), hg 2 (by omega)]
        have := lkN_frame' xs []
        rw [List.append_nil] at this
        exact this
      rw [if_neg (by omega), hN, if_neg (by omega), if_pos (by omega)]
theorem un_bad {xs : List Nat} (h : lkE xs ≠ 0) : unB xs = [] ∧ unR xs = [] := by
  unfold unB unR
  rw [if_neg h, if_neg h]; exact ⟨rfl, rfl⟩
end Go.Proofs.YtoepemgflbmlcaaDoor

/- The walk of the reference's Unwrap. -/
namespace Go.Proofs.YtoepemgflbmlcaaDoor
open Go.RowKit Go.Deep

theorem str_inj {xs ys : List Nat} (hx : ∀ x ∈ xs, x < 256) (hy : ∀ y ∈ ys, y < 256) (h : str xs = str ys) : xs = ys := by
  have e : (str xs).data.toList = (str ys).data.toList := by rw [h]
  simp only [str, strOfNums_data, List.map_map] at e
  have back : ∀ {l : List Nat}, (∀ x ∈ l, x < 256) → (l.map ((fun n : Int => UInt8.ofNat n.toNat) ∘ fun x : Nat => (x : Int))).map (fun u => u.toNat) = l := by
    intro l hl
    rw [List.map_map]
    conv => rhs; rw [← List.map_id l]
    refine List.map_congr_left (fun x hx => ?_)
    have := hl x hx
    simp [UInt8.toNat_ofNat', Nat.mod_eq_of_lt this]
  rw [← back hx, ← back hy, e]
theorem str_toList_ne {xs ys : List Nat} (hx : ∀ x ∈ xs, x < 256) (hy : ∀ y ∈ ys, y < 256) (h : xs ≠ ys) : ((str xs).toList == (str ys).toList) = false := by
  rw [beq_eq_false_iff_ne]
  intro e
  refine h (str_inj hx hy ?_)
  have e2 : (str xs).data.toList = (str ys).data.toList := by
    unfold str at e ⊢
    rw [Go.Lib.strOfNums_toList, Go.Lib.strOfNums_toList] at e
    exact e
  have e3 : (str xs).data = (str ys).data := Array.ext' e2
  cases hA : str xs
  cases hB : str ys
  rw [hA, hB] at e3
  simp only at e3
  rw [e3]
theorem own_empty {w : World} {base g : Nat} (h : w.heap[g]? = some (.cells #[] 5 (0, 0))) (hb : base ≤ g) : Ow w base (.slice (some ⟨g, 0, none⟩) 0 0) [] :=
  ⟨rfl, Or.inr ⟨g, 0, #[], rfl, hb, h, Nat.le_refl _, by unfold maxLen; omega, rfl, rfl⟩⟩
theorem heap_new (w : World) (o : Obj) : (w.alloc o).heap[w.heap.size]? = some o := heap_alloc_new w o
theorem heap_old (w : World) (o o' : Obj) : ((w.alloc o).alloc o').heap[w.heap.size]? = some o := by
  rw [heap_alloc_old _ _ (by simp), heap_alloc_new]
theorem heap_new1 (w : World) (o o' : Obj) : ((w.alloc o).alloc o').heap[w.heap.size + 1]? = some o' := by
  have := heap_alloc_new (w.alloc o) o'
  simpa using this
theorem heap_new_d (w : World) (o : Obj) : (w.alloc o).drew.heap[w.heap.size]? = some o := heap_new w o
theorem heap_old_d (w : World) (o o' : Obj) : ((w.alloc o).alloc o').drew.heap[w.heap.size]? = some o := heap_old w o o'
theorem heap_new1_d (w : World) (o o' : Obj) : ((w.alloc o).alloc o').drew.heap[w.heap.size + 1]? = some o' := heap_new1 w o o'

end Go.Proofs.YtoepemgflbmlcaaDoor
