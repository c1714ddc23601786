/- How a list of calls comes in, with the numbers that are kept, and sizes. -/
import Derived.Test.YtippipeebkkghaaGreatDoorFd
import Derived.Test.YtippipeebkkghaaGreatDoorFy
import Derived.Test.YtippipeebkkghaaGreatDoorPc
namespace Go.Proofs.YtippipeebkkghaaGreatDoor
open Go.ChangeShapes Go.WideShapes Go.ChangeAt Go.RowKit Go.Deep

/-- a call, as it lies at a place -/
structure Do1 (w : World) (gb o : Nat) (op i tn nn : Int) (pb : Option Addr) (cb : Nat) (xs : List Nat) (pk : Option Addr) (ck : Nat) (zs : List Int) : Prop where
  c0 : w.cell? ⟨gb, o, none⟩ = some (.int .i64 op)
  c1 : w.cell? ⟨gb, o + 1, none⟩ = some (.int .i64 i)
  c2 : w.cell? ⟨gb, o + 2, none⟩ = some (.int .i64 tn)
  c3 : w.cell? ⟨gb, o + 3, none⟩ = some (.int .i64 nn)
  c4 : w.cell? ⟨gb, o + 4, none⟩ = some (.slice pb xs.length cb)
  c5 : w.cell? ⟨gb, o + 5, none⟩ = some (.slice pk zs.length ck)
  rb : Rb w pb xs.length xs
  nb : xs.length ≤ 140737488355328
  rz : Rz w pk zs
  nz : zs.length * 8 ≤ 140737488355328
  wz : ∀ z ∈ zs, (Lit.int .i64 z).wf = true
  wt : (Lit.int .i64 tn).wf = true
  hb : ∀ a, pb = some a → 0 < xs.length → a.block < w.heap.size
structure Dos2 (w : World) (v : Value) (L : Nat) : Prop where
  form : ∃ (g : Option Addr) (gb go cap : Nat), v = .slice g L cap ∧ (0 < L → g = some ⟨gb, go, none⟩) ∧ ∀ r, r < L → ∃ (op i tn nn : Int) (pb : Option Addr) (cb : Nat) (xs : List Nat) (pk : Option Addr) (ck : Nat) (zs : List Int), Do1 w gb (go + r * 6) op i tn nn pb cb xs pk ck zs
  many : (L : Int) ≤ 9223372036854775807

theorem rb_of_cell2 {H : Type} {enc : TypeId × Value → H} {W : World} {v : Value} {k : Nat} {y : DataW H × List MemPlace} (h : DataW.trod enc Tryz.prog W 0 (fun _ => true) true k 75 [v] = some y) (hw : ∀ elems spare, y.1 = .slice elems spare → elems.length + spare.length ≤ 140737488355328) :
    ∃ p c xs, v = .slice p xs.length c ∧ Rb W p xs.length xs ∧ xs.length ≤ 140737488355328 := by
  rcases open_ints Tryz.underlying75 Tryz.underlying5 (by kernel_rfl) h with ⟨hcs, _⟩ | ⟨x, l, c, zs, hcs, _⟩
  · have hv : v = .slice none 0 0 := by simpa using hcs
    exact ⟨none, 0, [], hv, Rb.nil _ _, Nat.zero_le _⟩
  · have hv : v = .slice (some x) l c := by simpa using hcs
    subst hv
    obtain ⟨xs, r, _, hs⟩ := rb_of_trod (d := y.1) (p := y.2) ⟨k, h⟩ hw
    have := r.len
    subst this
    exact ⟨some x, c, xs, rfl, r, hs.out⟩
theorem rz_of_cell {H : Type} {enc : TypeId × Value → H} {W : World} {v : Value} {k : Nat} {y : DataW H × List MemPlace} (h : DataW.trod enc Tryz.prog W 0 (fun _ => true) true k 29 [v] = some y) (hw : ∀ elems spare, y.1 = .slice elems spare → (elems.length + spare.length) * 8 ≤ 140737488355328) :
    ∃ p c zs, v = .slice p zs.length c ∧ Rz W p zs ∧ zs.length * 8 ≤ 140737488355328 ∧ ∀ z ∈ zs, (Lit.int .i64 z).wf = true := by
  rcases open_ints Tryz.underlying29 Tryz.underlying3 (by kernel_rfl) h with ⟨hcs, _⟩ | ⟨x, l, c, zs, hcs, hxx, hl, hm, hz, hDx, hcell, hwz⟩
  · have hv : v = .slice none 0 0 := by simpa using hcs
    exact ⟨none, 0, [], hv, fun j hj => absurd hj (Nat.not_lt_zero _), by simp, fun z hz => by cases hz⟩
  · have hv : v = .slice (some x) l c := by simpa using hcs
    have hz' : zs.length = c := by simpa using hz
    have hlen := hw _ _ (by rw [hDx])
    simp only [lits, List.length_map, List.length_take, List.length_drop] at hlen
    have hll : (zs.take l).length = l := by rw [List.length_take]; omega
    refine ⟨some x, c, zs.take l, by rw [hll]; exact hv, fun j hj => ?_, by rw [hll]; omega, fun z hz => hwz z (List.mem_of_mem_take hz)⟩
    rw [hll] at hj
    obtain ⟨b, off, spot⟩ := x
    have hc := hcell j (by omega)
    have hspot : spot = none := by
      have := World.cell?_spot (hcell 0 (by omega))
      simpa [Addr.add] using this
    subst hspot
    refine ⟨b, off, rfl, ?_⟩
    rw [show (⟨b, off, none⟩ : Addr).add j = ⟨b, off + j, none⟩ from by by_cases e : j = 0 <;> simp [Addr.add, e]] at hc
    rw [hc, List.getD_eq_getElem?_getD, List.getD_eq_getElem?_getD, List.getElem?_take_of_lt hj]

/-- what the rows' sizes say of a parameter that is a list of calls -/
theorem sized_all {H : Type} {ts : List TypeId} {ds : List (DataW H)} {j : Nat} {d : DataW H} {t : TypeId} (h : (DataW.weightsEach Tryz.prog ts ds).all (· ≤ reachBytes) = true) (ht : ts[j]? = some t) (hd : ds[j]? = some d) : ∀ n ∈ d.weights Tryz.prog t, n ≤ 140737488355328 := fun n hn => by
  have hr : reachBytes ≤ 140737488355328 := by have := reachBytes_lt; omega
  have h3 := of_decide_eq_true (List.all_eq_true.1 h _ (DataW.weights_mem_each ht hd n hn))
  omega

end Go.Proofs.YtippipeebkkghaaGreatDoor
