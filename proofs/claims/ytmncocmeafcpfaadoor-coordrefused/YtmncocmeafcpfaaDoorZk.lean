/- How an ask comes in. -/
import Derived.Test.YtmncocmeafcpfaaDoorMgAA
import Derived.ProofKit
import Derived.ChangeOld
import Derived.HandedShaped
import Derived.SizedLaws
namespace Go.Proofs.YtmncocmeafcpfaaDoor
set_option linter.unusedVariables false
open Go.ChangeShapes Go.WideShapes Go.ChangeAt Go.WideMaps Go.WideElems Go.RowKit
variable {H : Type} {enc : TypeId × Value → H} {W : World}

theorem cellsI19 : Tryd.prog.cellsOf 3 = 1 := by kernel_rfl
theorem cellsS19 : Tryd.prog.cellsOf 9 = 1 := by kernel_rfl
theorem cellsB19 : Tryd.prog.cellsOf 22 = 1 := by kernel_rfl
/-- what is known of an ask that comes in -/
def AskIn (cs : Array Value) : Prop := ∃ (aid : Int) (x1 x2 x3 : Value), cs = #[.int .i64 aid, x1, x2, x3]
set_option maxRecDepth 100000 in
theorem ask_of_trod {cs : Array Value} {d : DataW H} {p : List MemPlace} (hs : cs.size = 4) (h : DataW.Trod enc Tryd.prog W 0 (fun _ => true) true 81 (.agg cs) d p) : AskIn cs := by
  obtain ⟨k, hk⟩ := h
  have hk' : DataW.trod enc Tryd.prog W 0 (fun _ => true) true k 81 cs.toList = some (d, p) := by simpa [Value.cells] using hk
  obtain ⟨xs, k', hk2, hxy, _, hxl, hfd⟩ := DataW.trod_struct Tryd.underlying81 hk'
  obtain ⟨l, hl⟩ : ∃ l, l = cs.toList := ⟨_, rfl⟩
  have hll : l.length = 4 := by rw [hl]; simpa using hs
  rw [← hl] at hfd
  match l, hll with
  | [v0, v1, v2, v3], _ =>
    match xs, hxl with
    | [y0, y1, y2, y3], _ =>
      have g0 := hfd 0 _ rfl
      simp [cellsI19] at g0
      obtain ⟨z0, e0, _, _⟩ := DataW.trod_int Tryd.underlying3 g0
      simp only [List.cons.injEq, and_true] at e0
      subst e0
      exact ⟨z0, v1, v2, v3, Array.toList_inj.1 hl.symm⟩
end Go.Proofs.YtmncocmeafcpfaaDoor
