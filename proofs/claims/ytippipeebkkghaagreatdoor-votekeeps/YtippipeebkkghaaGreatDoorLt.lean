/- What the rows' listed table gives the walks: each cell of frame.turns; and a start that meets the rows' condition. -/
import Derived.Test.YtippipeebkkghaaGreatDoorFs
import Derived.Test.YtippipeebkkghaaGreatDoorRows
import Derived.ProofKit
import Derived.LaidMore
import Derived.OpenShut
import Derived.Stop.Joined
namespace Go.Proofs.YtippipeebkkghaaGreatDoor
open Go.ChangeShapes Go.WideShapes Go.ChangeAt Go.WideMaps Go.WideElems Go.RowKit

abbrev laid1 : List (String × DataW Unit) := [("amphora/frame.turns", Rows.laid_amphora_frame_turns)]
theorem own : ownKnob Tryz.prog.godebug = none := by kernel_rfl
theorem gTurns : Tryz.prog.globalNamed "amphora/frame.turns" = some 0 := by kernel_rfl
theorem tTurns : (Tryz.prog.globals[0]?).map (·.type) = some 315 := by kernel_rfl
theorem laid_met (os : Os) (args : Array Value) : laidMetH Tryz.prog laid1 ((World.doorLaid Tryz.prog 400 os).forCall (fun _ _ => 0) ⟨#[], args, []⟩).memory :=
  laidMetH_of_parts3 (fuel := 8) (laidMet_of_run' 8 (by kernel_rfl) (by kernel_rfl)) (by kernel_rfl) (by kernel_rfl)

theorem word_at {W : World} {cs : Array Value} {t : TypeId} {n fuel : Nat} {p : List MemPlace} (ht : Tryz.prog.underlying t = some (.array n 26)) (ds : List Nat)
    (hd : DataW.trod (fun _ : TypeId × Value => ()) Tryz.prog W 0 (fun _ => true) false fuel t cs.toList = some (.agg (ds.map fun z : Nat => .lit (.int .u32 (z : Int))), p)) (i : Nat) (hi : i < n) :
    cs[i]? = some (.int .u32 ((ds.getD i 0 : Nat) : Int)) := by
  obtain ⟨xs, m, rfl, hx, hlen, hn, hel⟩ := DataW.trod_array ht hd
  have c5 : Tryz.prog.cellsOf 26 = 1 := by kernel_rfl
  have h := hel i hi
  rw [c5, Nat.mul_one] at h
  have hxi : xs[i]? = some xs[i] := List.getElem?_eq_getElem (by omega)
  rw [hxi] at h
  obtain ⟨k, e1, e2, _⟩ := DataW.trod_int Tryz.underlying26 h
  simp only [Prod.mk.injEq, DataW.agg.injEq] at hx
  have hm := congrArg (fun l => l[i]?) hx.1
  simp only [List.getElem?_map, hxi, Option.map_some] at hm
  cases hz : ds[i]? with
  | none => rw [hz] at hm; simp at hm
  | some z =>
    rw [hz, Option.map_some, e2] at hm
    simp only [Option.some.injEq, DataW.lit.injEq, Lit.int.injEq] at hm
    have hk : k = (z : Int) := hm.2.symm
    have h0 : (List.take 1 (List.drop i cs.toList))[0]? = some (Value.int .u32 k) := by rw [e1]; rfl
    rw [List.getElem?_take_of_lt (by omega), List.getElem?_drop, Nat.add_zero, Array.getElem?_toList] at h0
    rw [h0, hk, List.getD_eq_getElem?_getD, hz]
    rfl

theorem turns_of {W : World} {cs : Array Value} {fuel : Nat} {p : List MemPlace} (hv : World.var? Tryz.prog W "amphora/frame.turns" = some cs)
    (hd : DataW.trod (fun _ : TypeId × Value => ()) Tryz.prog W 0 (fun _ => true) false fuel 315 cs.toList = some (Rows.laid_amphora_frame_turns, p)) : Turns W := by
  intro k hk
  have hb := word_at (ds := [0, 274646895, 549293790, 820201905, 1098587580, 1361435347, 1640403810, 1905808397, 2197175160, 2460548119, 2722870694, 2987750089, 3280807620, 3553878443, 3811616794, 4084100981]) Tryz.underlying315 hd k hk
  have hc := World.var?_cell gTurns hv k
  rw [hc, hb]
  have : ∀ k, k < 16 → ([0, 274646895, 549293790, 820201905, 1098587580, 1361435347, 1640403810, 1905808397, 2197175160, 2460548119, 2722870694, 2987750089, 3280807620, 3553878443, 3811616794, 4084100981] : List Nat).getD k 0 = Crc.tn k := by decide
  rw [this k hk]

/-- what the rows that list the turns give the walks -/
theorem turns_of_laid {W : World} (h : laidMetH Tryz.prog laid1 W) : Turns W := by
  rw [MakeChecks.laidMetH_plain _ _ _ (by kernel_rfl)] at h
  obtain ⟨ps, ⟨g1, t1, cs1, f1, p1, q1, hg1, ht1, hv1, hd1, _, _⟩, _, _⟩ := h
  obtain rfl := Option.some.inj (gTurns.symm.trans hg1)
  obtain rfl := Option.some.inj (tTurns.symm.trans ht1)
  exact turns_of hv1 hd1
end Go.Proofs.YtippipeebkkghaaGreatDoor
