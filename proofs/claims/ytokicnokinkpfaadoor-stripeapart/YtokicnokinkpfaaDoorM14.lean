/- The walks of the reference's Is and add. -/
import Derived.Test.YtokicnokinkpfaaDoorM2
import Derived.Test.YtokicnokinkpfaaDoorGr
namespace Go.Proofs.YtokicnokinkpfaaDoor
open Go.RowKit Go.Deep

/-- A row of bytes whose block may be longer: what stands behind the n-th is not said. -/
def RowB (w : World) (b nt n : Nat) (f : Nat → Nat) : Prop := ∃ g, w.rowIs b 5 nt g ∧ n ≤ nt ∧ ∀ j, j < n → g j = .int .u8 ((f j : Nat) : Int)
namespace RowB
variable {w w' : World} {b nt n : Nat} {f f' : Nat → Nat}
theorem cell (h : RowB w b nt n f) {i : Nat} (hi : i < n) : w.cell? ⟨b, i, none⟩ = some (.int .u8 ((f i : Nat) : Int)) := by
  obtain ⟨g, hg, hn, he⟩ := h
  rw [hg.cell (by omega), he i hi]
theorem frozen (h : RowB w b nt n f) (i : Nat) : w.frozen? ⟨b, i, none⟩ = false := h.elim fun _ hg => hg.1.frozen i
theorem lt (h : RowB w b nt n f) : b < w.heap.size := h.elim fun _ hg => hg.1.lt
theorem congr (h : RowB w b nt n f) (e : ∀ j, j < n → f j = f' j) : RowB w b nt n f' := by
  obtain ⟨g, hg, hn, he⟩ := h
  exact ⟨g, hg, hn, fun j hj => by rw [he j hj, e j hj]⟩
theorem keep {S : Nat → Prop} (h : RowB w b nt n f) (k : Kp S w w') (hb : ¬ S b) : RowB w' b nt n f := by
  obtain ⟨g, hg, hn, he⟩ := h
  exact ⟨g, k.row hg hb, hn, he⟩
theorem drew (h : RowB w b nt n f) : RowB w.drew b nt n f := h
theorem drewN (h : RowB w b nt n f) (k : Nat) : RowB (w.drewN k) b nt n f := by
  obtain ⟨g, hg, hn, he⟩ := h
  exact ⟨g, rowIs_drewN hg k, hn, he⟩
theorem alloc (h : RowB w b nt n f) (o : Obj) : RowB (w.alloc o) b nt n f := by
  obtain ⟨g, hg, hn, he⟩ := h
  exact ⟨g, hg.alloc o, hn, he⟩
theorem setOther (h : RowB w b nt n f) {a : Addr} (ha : b ≠ a.block) (v : Value) : RowB (w.setCell a v) b nt n f := by
  obtain ⟨g, hg, hn, he⟩ := h
  exact ⟨g, hg.setOther ha v, hn, he⟩
theorem set (h : RowB w b nt n f) (i x : Nat) : RowB (w.setCell ⟨b, i, none⟩ (.int .u8 ((x : Nat) : Int))) b nt n (fun j => if j = i then x else f j) := by
  obtain ⟨g, hg, hn, he⟩ := h
  refine ⟨_, hg.set i _, hn, fun j hj => ?_⟩
  by_cases e : j = i
  · simp [e]
  · simp [e, he j hj]
theorem of_row (h : w.rowIs b 5 nt (By f)) (hn : n ≤ nt) : RowB w b nt n f := ⟨_, h, hn, fun _ _ => rfl⟩
end RowB

end Go.Proofs.YtokicnokinkpfaaDoor
