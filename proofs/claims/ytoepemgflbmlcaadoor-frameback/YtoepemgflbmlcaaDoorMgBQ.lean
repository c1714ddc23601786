/- Texts of this proof, joined: Lfu1, Lsh. -/
import Derived.Test.YtoepemgflbmlcaaDoorMgBF
import Derived.Test.YtoepemgflbmlcaaDoorMgBP
/- The walk of the law FrameUnwraps: what is in the frame at the beginning, and what stands behind, or the error, of any bytes. -/
namespace Go.Proofs.YtoepemgflbmlcaaDoor
open Go.RowKit Go.Deep

theorem rowIs_two (w : World) (u v : Value) (t : TypeId) : (w.alloc (.cells #[u, v] t)).rowIs w.heap.size t 2 (fun i => if i = 0 then u else v) :=
  ⟨#[u, v], heap_alloc_new w _, rfl, fun i hi => (by
    have : i = 0 ∨ i = 1 := by omega
    rcases this with rfl | rfl <;> rfl)⟩
theorem unB_byte {xs : List Nat} (h : ∀ x ∈ xs, x < 256) : ∀ x ∈ unB xs, x < 256 := by
  unfold unB; split
  · intro x hx; exact h x (List.mem_of_mem_take (List.mem_of_mem_drop hx))
  · intro x hx; cases hx
theorem unR_byte {xs : List Nat} (h : ∀ x ∈ xs, x < 256) : ∀ x ∈ unR xs, x < 256 := by
  unfold unR; split
  · intro x hx; exact h x (List.mem_of_mem_drop hx)
  · intro x hx; cases hx
theorem unB_length (xs : List Nat) : (unB xs).length ≤ xs.length := by
  unfold unB; split
  · rw [List.length_drop, List.length_take]; omega
  · simp
theorem unR_length (xs : List Nat) : (unR xs).length ≤ xs.length := by
  unfold unR; split
  · rw [List.length_drop]; omega
  · simp

end Go.Proofs.YtoepemgflbmlcaaDoor

/- The walk of the law FrameShort: of a frame each beginning is too short. -/
namespace Go.Proofs.YtoepemgflbmlcaaDoor
open Go.RowKit Go.Deep

theorem rem_form (a : Int) (F m : Nat) (hF : (0 : Int) < (F : Int)) (hb : (F : Int) ≤ 3000) (hm : (m : Int) = (a % 18446744073709551616) % (F : Int)) : wrap64 ((IntKind.u64.wrap a).tmod (F : Int)) = (m : Int) := by
  have e : IntKind.u64.wrap a = a % 18446744073709551616 := by simp [IntKind.wrap, IntKind.bits, IntKind.signed]
  rw [e, Int.tmod_eq_emod_of_nonneg (Int.emod_nonneg _ (by omega)), ← hm]
  have := Int.emod_lt_of_pos (a % 18446744073709551616) hF
  unfold wrap64
  omega
theorem rb_lit1 (w : World) (x : Nat) (hx : x < 256) : Rb (w.alloc (.cells #[.int .u8 (x : Int)] 5)) (some ⟨w.heap.size, 0, none⟩) 1 [x] := by
  have := rb_new w [x] (fun y hy => by simp only [List.mem_cons, List.not_mem_nil, or_false] at hy; omega)
  simpa [vl] using this
theorem Rb.first {w : World} {p : Option Addr} {n : Nat} {xs : List Nat} (h : Rb w p n xs) {r : Nat} (hr : r ≤ n) : Rb w p r (xs.take r) :=
  ⟨by rw [List.length_take, h.len]; omega, fun x hx => h.byte x (List.mem_of_mem_take hx), fun j hj => by
    obtain ⟨b, o, e, hc⟩ := h.cell j (by omega)
    refine ⟨b, o, e, ?_⟩
    rw [hc]
    congr 3
    rw [List.getD_eq_getElem?_getD, List.getD_eq_getElem?_getD, List.getElem?_take_of_lt hj]⟩



end Go.Proofs.YtoepemgflbmlcaaDoor
