/- What the rows' listed table gives the walks: each cell of galois.powers; and a start that meets the rows' condition. -/
import Derived.Test.YtmncocmeafcpfaaDoorMfGa
import Derived.Test.YtmncocmeafcpfaaDoorRows
import Derived.ProofKit
import Derived.LaidMore
import Derived.OpenShut
import Derived.Stop.Joined
namespace Go.Proofs.YtmncocmeafcpfaaDoor.Mf
open Go.ChangeShapes Go.WideShapes Go.ChangeAt Go.WideMaps Go.WideElems Go.RowKit

abbrev laid1 : List (String × DataW Unit) := [("amphora/galois.powers", Rows.laid_amphora_galois_powers)]
theorem own : ownKnob Tryd.prog.godebug = none := by kernel_rfl
theorem gPows : Tryd.prog.globalNamed "amphora/galois.powers" = some 1 := by kernel_rfl
theorem tPows : (Tryd.prog.globals[1]?).map (·.type) = some 195 := by kernel_rfl
theorem pows_met (os : Os) (args : Array Value) : laidMetH Tryd.prog laid1 ((World.doorLaid Tryd.prog 400 os).forCall (fun _ _ => 0) ⟨#[], args, []⟩).memory :=
  laidMetH_of_parts3 (fuel := 8) (laidMet_of_run' 8 (by kernel_rfl) (by kernel_rfl)) (by kernel_rfl) (by kernel_rfl)

theorem byte_at {W : World} {cs : Array Value} {t : TypeId} {n fuel : Nat} {p : List MemPlace} (ht : Tryd.prog.underlying t = some (.array n 5)) (ds : List Nat)
    (hd : DataW.trod (fun _ : TypeId × Value => ()) Tryd.prog W 0 (fun _ => true) false fuel t cs.toList = some (.agg (ds.map fun z : Nat => .lit (.int .u8 (z : Int))), p)) (i : Nat) (hi : i < n) :
    cs[i]? = some (.int .u8 ((ds.getD i 0 : Nat) : Int)) := by
  obtain ⟨xs, m, rfl, hx, hlen, hn, hel⟩ := DataW.trod_array ht hd
  have c5 : Tryd.prog.cellsOf 5 = 1 := by kernel_rfl
  have h := hel i hi
  rw [c5, Nat.mul_one] at h
  have hxi : xs[i]? = some xs[i] := List.getElem?_eq_getElem (by omega)
  rw [hxi] at h
  obtain ⟨k, e1, e2, _⟩ := DataW.trod_int Tryd.underlying5 h
  simp only [Prod.mk.injEq, DataW.agg.injEq] at hx
  have hm := congrArg (fun l => l[i]?) hx.1
  simp only [List.getElem?_map, hxi, Option.map_some] at hm
  cases hz : ds[i]? with
  | none => rw [hz] at hm; simp at hm
  | some z =>
    rw [hz, Option.map_some, e2] at hm
    simp only [Option.some.injEq, DataW.lit.injEq, Lit.int.injEq] at hm
    have hk : k = (z : Int) := hm.2.symm
    have h0 : (List.take 1 (List.drop i cs.toList))[0]? = some (Value.int .u8 k) := by rw [e1]; rfl
    rw [List.getElem?_take_of_lt (by omega), List.getElem?_drop, Nat.add_zero, Array.getElem?_toList] at h0
    rw [h0, hk, List.getD_eq_getElem?_getD, hz]
    rfl

theorem pows_of {W : World} {cs : Array Value} {fuel : Nat} {p : List MemPlace} (hv : World.var? Tryd.prog W "amphora/galois.powers" = some cs)
    (hd : DataW.trod (fun _ : TypeId × Value => ()) Tryd.prog W 0 (fun _ => true) false fuel 195 cs.toList = some (Rows.laid_amphora_galois_powers, p)) : Pows W := by
  intro k hk
  have hb := byte_at (ds := [1, 2, 4, 8, 16, 32, 64, 128, 29, 58, 116, 232, 205, 135, 19]) Tryd.underlying195 hd k hk
  have hc := World.var?_cell gPows hv k
  rw [hc, hb]
  rfl

/-- what the rows that list the powers give the walks -/
theorem pows_of_laid {W : World} (h : laidMetH Tryd.prog laid1 W) : Pows W := by
  rw [MakeChecks.laidMetH_plain _ _ _ (by kernel_rfl)] at h
  obtain ⟨ps, ⟨g1, t1, cs1, f1, p1, q1, hg1, ht1, hv1, hd1, _, _⟩, _, _⟩ := h
  obtain rfl := Option.some.inj (gPows.symm.trans hg1)
  obtain rfl := Option.some.inj (tPows.symm.trans ht1)
  exact pows_of hv1 hd1
end Go.Proofs.YtmncocmeafcpfaaDoor.Mf
