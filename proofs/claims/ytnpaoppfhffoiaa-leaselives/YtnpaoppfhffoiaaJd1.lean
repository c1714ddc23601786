/- Two shards that wait change places: where they stand. -/
import Derived.Test.YtnpaoppfhffoiaaJc
import Derived.Test.YtnpaoppfhffoiaaTk
namespace Go.Proofs.Ytnpaoppfhffoiaa
set_option linter.unusedVariables false
open Go.RowKit Go.Deep Go.Maps

theorem zeroJ (w : World) : (zeroValue 3).run Try.prog w = .ok (.int .i64 0) w := by kernel_rfl
theorem sw_0 (h m g n cap i j : Nat) (ai bi aj bj : Int) (ev : Operand → Value) (z : World) (hi2 : (i : Int) < (n : Int)) (hj2 : (j : Int) < (n : Int)) (e0 : ev (Operand.tmp 0) = .pointer (some ⟨h, 0, none⟩)) (hS : z.cell? ⟨h, 0, none⟩ = some (.slice (some ⟨g, 0, none⟩) n cap) ∧ z.cell? ⟨h, 1, none⟩ = some (.map (some m)) ∧ z.cell? ⟨g, i * 3, none⟩ = some (.int .i64 aj) ∧ z.cell? ⟨g, i * 3 + 1, none⟩ = some (.int .i64 bj) ∧ z.cell? ⟨g, j * 3, none⟩ = some (.int .i64 ai) ∧ z.cell? ⟨g, j * 3 + 1, none⟩ = some (.int .i64 bi)) : (execOp ev ⟨some 32, Op.move (Operand.tmp 0), 52, "", #[], none⟩).run Try.prog z = .ok (.value (.pointer (some ⟨h, 0, none⟩))) z := by
  obtain ⟨s1, s2, s3, s4, s5, s6⟩ := hS
  go_simp
theorem sw_1 (h m g n cap i j : Nat) (ai bi aj bj : Int) (ev : Operand → Value) (z : World) (hi2 : (i : Int) < (n : Int)) (hj2 : (j : Int) < (n : Int)) (e0 : ev (Operand.tmp 32) = .pointer (some ⟨h, 0, none⟩)) (hS : z.cell? ⟨h, 0, none⟩ = some (.slice (some ⟨g, 0, none⟩) n cap) ∧ z.cell? ⟨h, 1, none⟩ = some (.map (some m)) ∧ z.cell? ⟨g, i * 3, none⟩ = some (.int .i64 aj) ∧ z.cell? ⟨g, i * 3 + 1, none⟩ = some (.int .i64 bj) ∧ z.cell? ⟨g, j * 3, none⟩ = some (.int .i64 ai) ∧ z.cell? ⟨g, j * 3 + 1, none⟩ = some (.int .i64 bi)) : (execOp ev ⟨some 33, Op.nilCheck (Operand.tmp 32), 0, "", #[], none⟩).run Try.prog z = .ok (.value (.pointer (some ⟨h, 0, none⟩))) z := by
  obtain ⟨s1, s2, s3, s4, s5, s6⟩ := hS
  go_simp
theorem sw_2 (h m g n cap i j : Nat) (ai bi aj bj : Int) (ev : Operand → Value) (z : World) (hi2 : (i : Int) < (n : Int)) (hj2 : (j : Int) < (n : Int)) (e0 : ev (Operand.tmp 33) = .pointer (some ⟨h, 0, none⟩)) (hS : z.cell? ⟨h, 0, none⟩ = some (.slice (some ⟨g, 0, none⟩) n cap) ∧ z.cell? ⟨h, 1, none⟩ = some (.map (some m)) ∧ z.cell? ⟨g, i * 3, none⟩ = some (.int .i64 aj) ∧ z.cell? ⟨g, i * 3 + 1, none⟩ = some (.int .i64 bj) ∧ z.cell? ⟨g, j * 3, none⟩ = some (.int .i64 ai) ∧ z.cell? ⟨g, j * 3 + 1, none⟩ = some (.int .i64 bi)) : (execOp ev ⟨some 34, Op.fieldAddr 61 (Operand.tmp 33) 1, 0, "", #[], none⟩).run Try.prog z = .ok (.value (.pointer (some ⟨h, 1, none⟩))) z := by
  obtain ⟨s1, s2, s3, s4, s5, s6⟩ := hS
  go_simp
theorem sw_3 (h m g n cap i j : Nat) (ai bi aj bj : Int) (ev : Operand → Value) (z : World) (hi2 : (i : Int) < (n : Int)) (hj2 : (j : Int) < (n : Int)) (e0 : ev (Operand.tmp 34) = .pointer (some ⟨h, 1, none⟩)) (hS : z.cell? ⟨h, 0, none⟩ = some (.slice (some ⟨g, 0, none⟩) n cap) ∧ z.cell? ⟨h, 1, none⟩ = some (.map (some m)) ∧ z.cell? ⟨g, i * 3, none⟩ = some (.int .i64 aj) ∧ z.cell? ⟨g, i * 3 + 1, none⟩ = some (.int .i64 bj) ∧ z.cell? ⟨g, j * 3, none⟩ = some (.int .i64 ai) ∧ z.cell? ⟨g, j * 3 + 1, none⟩ = some (.int .i64 bi)) : (execOp ev ⟨some 35, Op.load 58 (Operand.tmp 34), 58, "", #[], none⟩).run Try.prog z = .ok (.value (.map (some m))) z := by
  obtain ⟨s1, s2, s3, s4, s5, s6⟩ := hS
  go_simp
theorem sw_4 (h m g n cap i j : Nat) (ai bi aj bj : Int) (ev : Operand → Value) (z : World) (hi2 : (i : Int) < (n : Int)) (hj2 : (j : Int) < (n : Int)) (e0 : ev (Operand.tmp 0) = .pointer (some ⟨h, 0, none⟩)) (hS : z.cell? ⟨h, 0, none⟩ = some (.slice (some ⟨g, 0, none⟩) n cap) ∧ z.cell? ⟨h, 1, none⟩ = some (.map (some m)) ∧ z.cell? ⟨g, i * 3, none⟩ = some (.int .i64 aj) ∧ z.cell? ⟨g, i * 3 + 1, none⟩ = some (.int .i64 bj) ∧ z.cell? ⟨g, j * 3, none⟩ = some (.int .i64 ai) ∧ z.cell? ⟨g, j * 3 + 1, none⟩ = some (.int .i64 bi)) : (execOp ev ⟨some 36, Op.move (Operand.tmp 0), 52, "", #[], none⟩).run Try.prog z = .ok (.value (.pointer (some ⟨h, 0, none⟩))) z := by
  obtain ⟨s1, s2, s3, s4, s5, s6⟩ := hS
  go_simp
theorem sw_5 (h m g n cap i j : Nat) (ai bi aj bj : Int) (ev : Operand → Value) (z : World) (hi2 : (i : Int) < (n : Int)) (hj2 : (j : Int) < (n : Int)) (e0 : ev (Operand.tmp 36) = .pointer (some ⟨h, 0, none⟩)) (hS : z.cell? ⟨h, 0, none⟩ = some (.slice (some ⟨g, 0, none⟩) n cap) ∧ z.cell? ⟨h, 1, none⟩ = some (.map (some m)) ∧ z.cell? ⟨g, i * 3, none⟩ = some (.int .i64 aj) ∧ z.cell? ⟨g, i * 3 + 1, none⟩ = some (.int .i64 bj) ∧ z.cell? ⟨g, j * 3, none⟩ = some (.int .i64 ai) ∧ z.cell? ⟨g, j * 3 + 1, none⟩ = some (.int .i64 bi)) : (execOp ev ⟨some 37, Op.nilCheck (Operand.tmp 36), 0, "", #[], none⟩).run Try.prog z = .ok (.value (.pointer (some ⟨h, 0, none⟩))) z := by
  obtain ⟨s1, s2, s3, s4, s5, s6⟩ := hS
  go_simp
theorem sw_6 (h m g n cap i j : Nat) (ai bi aj bj : Int) (ev : Operand → Value) (z : World) (hi2 : (i : Int) < (n : Int)) (hj2 : (j : Int) < (n : Int)) (e0 : ev (Operand.tmp 37) = .pointer (some ⟨h, 0, none⟩)) (hS : z.cell? ⟨h, 0, none⟩ = some (.slice (some ⟨g, 0, none⟩) n cap) ∧ z.cell? ⟨h, 1, none⟩ = some (.map (some m)) ∧ z.cell? ⟨g, i * 3, none⟩ = some (.int .i64 aj) ∧ z.cell? ⟨g, i * 3 + 1, none⟩ = some (.int .i64 bj) ∧ z.cell? ⟨g, j * 3, none⟩ = some (.int .i64 ai) ∧ z.cell? ⟨g, j * 3 + 1, none⟩ = some (.int .i64 bi)) : (execOp ev ⟨some 38, Op.fieldAddr 61 (Operand.tmp 37) 0, 0, "", #[], none⟩).run Try.prog z = .ok (.value (.pointer (some ⟨h, 0, none⟩))) z := by
  obtain ⟨s1, s2, s3, s4, s5, s6⟩ := hS
  go_simp
theorem sw_7 (h m g n cap i j : Nat) (ai bi aj bj : Int) (ev : Operand → Value) (z : World) (hi2 : (i : Int) < (n : Int)) (hj2 : (j : Int) < (n : Int)) (e0 : ev (Operand.tmp 38) = .pointer (some ⟨h, 0, none⟩)) (hS : z.cell? ⟨h, 0, none⟩ = some (.slice (some ⟨g, 0, none⟩) n cap) ∧ z.cell? ⟨h, 1, none⟩ = some (.map (some m)) ∧ z.cell? ⟨g, i * 3, none⟩ = some (.int .i64 aj) ∧ z.cell? ⟨g, i * 3 + 1, none⟩ = some (.int .i64 bj) ∧ z.cell? ⟨g, j * 3, none⟩ = some (.int .i64 ai) ∧ z.cell? ⟨g, j * 3 + 1, none⟩ = some (.int .i64 bi)) : (execOp ev ⟨some 39, Op.load 59 (Operand.tmp 38), 59, "", #[], none⟩).run Try.prog z = .ok (.value (.slice (some ⟨g, 0, none⟩) n cap)) z := by
  obtain ⟨s1, s2, s3, s4, s5, s6⟩ := hS
  go_simp
theorem sw_8 (h m g n cap i j : Nat) (ai bi aj bj : Int) (ev : Operand → Value) (z : World) (hi2 : (i : Int) < (n : Int)) (hj2 : (j : Int) < (n : Int)) (e0 : ev (Operand.tmp 1) = .int .i64 (i : Int)) (hS : z.cell? ⟨h, 0, none⟩ = some (.slice (some ⟨g, 0, none⟩) n cap) ∧ z.cell? ⟨h, 1, none⟩ = some (.map (some m)) ∧ z.cell? ⟨g, i * 3, none⟩ = some (.int .i64 aj) ∧ z.cell? ⟨g, i * 3 + 1, none⟩ = some (.int .i64 bj) ∧ z.cell? ⟨g, j * 3, none⟩ = some (.int .i64 ai) ∧ z.cell? ⟨g, j * 3 + 1, none⟩ = some (.int .i64 bi)) : (execOp ev ⟨some 40, Op.move (Operand.tmp 1), 3, "", #[], none⟩).run Try.prog z = .ok (.value (.int .i64 (i : Int))) z := by
  obtain ⟨s1, s2, s3, s4, s5, s6⟩ := hS
  go_simp
theorem sw_9 (h m g n cap i j : Nat) (ai bi aj bj : Int) (ev : Operand → Value) (z : World) (hi2 : (i : Int) < (n : Int)) (hj2 : (j : Int) < (n : Int)) (e0 : ev (Operand.tmp 39) = .slice (some ⟨g, 0, none⟩) n cap) (e1 : ev (Operand.tmp 40) = .int .i64 (i : Int)) (hS : z.cell? ⟨h, 0, none⟩ = some (.slice (some ⟨g, 0, none⟩) n cap) ∧ z.cell? ⟨h, 1, none⟩ = some (.map (some m)) ∧ z.cell? ⟨g, i * 3, none⟩ = some (.int .i64 aj) ∧ z.cell? ⟨g, i * 3 + 1, none⟩ = some (.int .i64 bj) ∧ z.cell? ⟨g, j * 3, none⟩ = some (.int .i64 ai) ∧ z.cell? ⟨g, j * 3 + 1, none⟩ = some (.int .i64 bi)) : (execOp ev ⟨some 41, Op.indexAddr 59 (Operand.tmp 39) (Operand.tmp 40), 0, "", #[], none⟩).run Try.prog z = .ok (.value (.pointer (some ⟨g, i * 3, none⟩))) z := by
  obtain ⟨s1, s2, s3, s4, s5, s6⟩ := hS
  go_simp
theorem sw_10 (h m g n cap i j : Nat) (ai bi aj bj : Int) (ev : Operand → Value) (z : World) (hi2 : (i : Int) < (n : Int)) (hj2 : (j : Int) < (n : Int)) (e0 : ev (Operand.tmp 41) = .pointer (some ⟨g, i * 3, none⟩)) (hS : z.cell? ⟨h, 0, none⟩ = some (.slice (some ⟨g, 0, none⟩) n cap) ∧ z.cell? ⟨h, 1, none⟩ = some (.map (some m)) ∧ z.cell? ⟨g, i * 3, none⟩ = some (.int .i64 aj) ∧ z.cell? ⟨g, i * 3 + 1, none⟩ = some (.int .i64 bj) ∧ z.cell? ⟨g, j * 3, none⟩ = some (.int .i64 ai) ∧ z.cell? ⟨g, j * 3 + 1, none⟩ = some (.int .i64 bi)) : (execOp ev ⟨some 42, Op.fieldAddr 65 (Operand.tmp 41) 0, 0, "", #[], none⟩).run Try.prog z = .ok (.value (.pointer (some ⟨g, i * 3, none⟩))) z := by
  obtain ⟨s1, s2, s3, s4, s5, s6⟩ := hS
  go_simp
theorem sw_11 (h m g n cap i j : Nat) (ai bi aj bj : Int) (ev : Operand → Value) (z : World) (hi2 : (i : Int) < (n : Int)) (hj2 : (j : Int) < (n : Int)) (e0 : ev (Operand.tmp 42) = .pointer (some ⟨g, i * 3, none⟩)) (hS : z.cell? ⟨h, 0, none⟩ = some (.slice (some ⟨g, 0, none⟩) n cap) ∧ z.cell? ⟨h, 1, none⟩ = some (.map (some m)) ∧ z.cell? ⟨g, i * 3, none⟩ = some (.int .i64 aj) ∧ z.cell? ⟨g, i * 3 + 1, none⟩ = some (.int .i64 bj) ∧ z.cell? ⟨g, j * 3, none⟩ = some (.int .i64 ai) ∧ z.cell? ⟨g, j * 3 + 1, none⟩ = some (.int .i64 bi)) : (execOp ev ⟨some 43, Op.load 39 (Operand.tmp 42), 39, "", #[], none⟩).run Try.prog z = .ok (.value (pv2 aj bj)) z := by
  obtain ⟨s1, s2, s3, s4, s5, s6⟩ := hS
  go_simp
theorem sw_12 (h m g n cap i j : Nat) (ai bi aj bj : Int) (ev : Operand → Value) (z : World) (hi2 : (i : Int) < (n : Int)) (hj2 : (j : Int) < (n : Int)) (e0 : ev (Operand.tmp 0) = .pointer (some ⟨h, 0, none⟩)) (hS : z.cell? ⟨h, 0, none⟩ = some (.slice (some ⟨g, 0, none⟩) n cap) ∧ z.cell? ⟨h, 1, none⟩ = some (.map (some m)) ∧ z.cell? ⟨g, i * 3, none⟩ = some (.int .i64 aj) ∧ z.cell? ⟨g, i * 3 + 1, none⟩ = some (.int .i64 bj) ∧ z.cell? ⟨g, j * 3, none⟩ = some (.int .i64 ai) ∧ z.cell? ⟨g, j * 3 + 1, none⟩ = some (.int .i64 bi)) : (execOp ev ⟨some 44, Op.move (Operand.tmp 0), 52, "", #[], none⟩).run Try.prog z = .ok (.value (.pointer (some ⟨h, 0, none⟩))) z := by
  obtain ⟨s1, s2, s3, s4, s5, s6⟩ := hS
  go_simp
theorem sw_13 (h m g n cap i j : Nat) (ai bi aj bj : Int) (ev : Operand → Value) (z : World) (hi2 : (i : Int) < (n : Int)) (hj2 : (j : Int) < (n : Int)) (e0 : ev (Operand.tmp 44) = .pointer (some ⟨h, 0, none⟩)) (hS : z.cell? ⟨h, 0, none⟩ = some (.slice (some ⟨g, 0, none⟩) n cap) ∧ z.cell? ⟨h, 1, none⟩ = some (.map (some m)) ∧ z.cell? ⟨g, i * 3, none⟩ = some (.int .i64 aj) ∧ z.cell? ⟨g, i * 3 + 1, none⟩ = some (.int .i64 bj) ∧ z.cell? ⟨g, j * 3, none⟩ = some (.int .i64 ai) ∧ z.cell? ⟨g, j * 3 + 1, none⟩ = some (.int .i64 bi)) : (execOp ev ⟨some 45, Op.nilCheck (Operand.tmp 44), 0, "", #[], none⟩).run Try.prog z = .ok (.value (.pointer (some ⟨h, 0, none⟩))) z := by
  obtain ⟨s1, s2, s3, s4, s5, s6⟩ := hS
  go_simp
theorem sw_14 (h m g n cap i j : Nat) (ai bi aj bj : Int) (ev : Operand → Value) (z : World) (hi2 : (i : Int) < (n : Int)) (hj2 : (j : Int) < (n : Int)) (e0 : ev (Operand.tmp 45) = .pointer (some ⟨h, 0, none⟩)) (hS : z.cell? ⟨h, 0, none⟩ = some (.slice (some ⟨g, 0, none⟩) n cap) ∧ z.cell? ⟨h, 1, none⟩ = some (.map (some m)) ∧ z.cell? ⟨g, i * 3, none⟩ = some (.int .i64 aj) ∧ z.cell? ⟨g, i * 3 + 1, none⟩ = some (.int .i64 bj) ∧ z.cell? ⟨g, j * 3, none⟩ = some (.int .i64 ai) ∧ z.cell? ⟨g, j * 3 + 1, none⟩ = some (.int .i64 bi)) : (execOp ev ⟨some 46, Op.fieldAddr 61 (Operand.tmp 45) 1, 0, "", #[], none⟩).run Try.prog z = .ok (.value (.pointer (some ⟨h, 1, none⟩))) z := by
  obtain ⟨s1, s2, s3, s4, s5, s6⟩ := hS
  go_simp
theorem sw_15 (h m g n cap i j : Nat) (ai bi aj bj : Int) (ev : Operand → Value) (z : World) (hi2 : (i : Int) < (n : Int)) (hj2 : (j : Int) < (n : Int)) (e0 : ev (Operand.tmp 46) = .pointer (some ⟨h, 1, none⟩)) (hS : z.cell? ⟨h, 0, none⟩ = some (.slice (some ⟨g, 0, none⟩) n cap) ∧ z.cell? ⟨h, 1, none⟩ = some (.map (some m)) ∧ z.cell? ⟨g, i * 3, none⟩ = some (.int .i64 aj) ∧ z.cell? ⟨g, i * 3 + 1, none⟩ = some (.int .i64 bj) ∧ z.cell? ⟨g, j * 3, none⟩ = some (.int .i64 ai) ∧ z.cell? ⟨g, j * 3 + 1, none⟩ = some (.int .i64 bi)) : (execOp ev ⟨some 47, Op.load 58 (Operand.tmp 46), 58, "", #[], none⟩).run Try.prog z = .ok (.value (.map (some m))) z := by
  obtain ⟨s1, s2, s3, s4, s5, s6⟩ := hS
  go_simp
theorem sw_16 (h m g n cap i j : Nat) (ai bi aj bj : Int) (ev : Operand → Value) (z : World) (hi2 : (i : Int) < (n : Int)) (hj2 : (j : Int) < (n : Int)) (e0 : ev (Operand.tmp 0) = .pointer (some ⟨h, 0, none⟩)) (hS : z.cell? ⟨h, 0, none⟩ = some (.slice (some ⟨g, 0, none⟩) n cap) ∧ z.cell? ⟨h, 1, none⟩ = some (.map (some m)) ∧ z.cell? ⟨g, i * 3, none⟩ = some (.int .i64 aj) ∧ z.cell? ⟨g, i * 3 + 1, none⟩ = some (.int .i64 bj) ∧ z.cell? ⟨g, j * 3, none⟩ = some (.int .i64 ai) ∧ z.cell? ⟨g, j * 3 + 1, none⟩ = some (.int .i64 bi)) : (execOp ev ⟨some 48, Op.move (Operand.tmp 0), 52, "", #[], none⟩).run Try.prog z = .ok (.value (.pointer (some ⟨h, 0, none⟩))) z := by
  obtain ⟨s1, s2, s3, s4, s5, s6⟩ := hS
  go_simp
theorem sw_17 (h m g n cap i j : Nat) (ai bi aj bj : Int) (ev : Operand → Value) (z : World) (hi2 : (i : Int) < (n : Int)) (hj2 : (j : Int) < (n : Int)) (e0 : ev (Operand.tmp 48) = .pointer (some ⟨h, 0, none⟩)) (hS : z.cell? ⟨h, 0, none⟩ = some (.slice (some ⟨g, 0, none⟩) n cap) ∧ z.cell? ⟨h, 1, none⟩ = some (.map (some m)) ∧ z.cell? ⟨g, i * 3, none⟩ = some (.int .i64 aj) ∧ z.cell? ⟨g, i * 3 + 1, none⟩ = some (.int .i64 bj) ∧ z.cell? ⟨g, j * 3, none⟩ = some (.int .i64 ai) ∧ z.cell? ⟨g, j * 3 + 1, none⟩ = some (.int .i64 bi)) : (execOp ev ⟨some 49, Op.nilCheck (Operand.tmp 48), 0, "", #[], none⟩).run Try.prog z = .ok (.value (.pointer (some ⟨h, 0, none⟩))) z := by
  obtain ⟨s1, s2, s3, s4, s5, s6⟩ := hS
  go_simp
theorem sw_18 (h m g n cap i j : Nat) (ai bi aj bj : Int) (ev : Operand → Value) (z : World) (hi2 : (i : Int) < (n : Int)) (hj2 : (j : Int) < (n : Int)) (e0 : ev (Operand.tmp 49) = .pointer (some ⟨h, 0, none⟩)) (hS : z.cell? ⟨h, 0, none⟩ = some (.slice (some ⟨g, 0, none⟩) n cap) ∧ z.cell? ⟨h, 1, none⟩ = some (.map (some m)) ∧ z.cell? ⟨g, i * 3, none⟩ = some (.int .i64 aj) ∧ z.cell? ⟨g, i * 3 + 1, none⟩ = some (.int .i64 bj) ∧ z.cell? ⟨g, j * 3, none⟩ = some (.int .i64 ai) ∧ z.cell? ⟨g, j * 3 + 1, none⟩ = some (.int .i64 bi)) : (execOp ev ⟨some 50, Op.fieldAddr 61 (Operand.tmp 49) 0, 0, "", #[], none⟩).run Try.prog z = .ok (.value (.pointer (some ⟨h, 0, none⟩))) z := by
  obtain ⟨s1, s2, s3, s4, s5, s6⟩ := hS
  go_simp
theorem sw_19 (h m g n cap i j : Nat) (ai bi aj bj : Int) (ev : Operand → Value) (z : World) (hi2 : (i : Int) < (n : Int)) (hj2 : (j : Int) < (n : Int)) (e0 : ev (Operand.tmp 50) = .pointer (some ⟨h, 0, none⟩)) (hS : z.cell? ⟨h, 0, none⟩ = some (.slice (some ⟨g, 0, none⟩) n cap) ∧ z.cell? ⟨h, 1, none⟩ = some (.map (some m)) ∧ z.cell? ⟨g, i * 3, none⟩ = some (.int .i64 aj) ∧ z.cell? ⟨g, i * 3 + 1, none⟩ = some (.int .i64 bj) ∧ z.cell? ⟨g, j * 3, none⟩ = some (.int .i64 ai) ∧ z.cell? ⟨g, j * 3 + 1, none⟩ = some (.int .i64 bi)) : (execOp ev ⟨some 51, Op.load 59 (Operand.tmp 50), 59, "", #[], none⟩).run Try.prog z = .ok (.value (.slice (some ⟨g, 0, none⟩) n cap)) z := by
  obtain ⟨s1, s2, s3, s4, s5, s6⟩ := hS
  go_simp
theorem sw_20 (h m g n cap i j : Nat) (ai bi aj bj : Int) (ev : Operand → Value) (z : World) (hi2 : (i : Int) < (n : Int)) (hj2 : (j : Int) < (n : Int)) (e0 : ev (Operand.tmp 2) = .int .i64 (j : Int)) (hS : z.cell? ⟨h, 0, none⟩ = some (.slice (some ⟨g, 0, none⟩) n cap) ∧ z.cell? ⟨h, 1, none⟩ = some (.map (some m)) ∧ z.cell? ⟨g, i * 3, none⟩ = some (.int .i64 aj) ∧ z.cell? ⟨g, i * 3 + 1, none⟩ = some (.int .i64 bj) ∧ z.cell? ⟨g, j * 3, none⟩ = some (.int .i64 ai) ∧ z.cell? ⟨g, j * 3 + 1, none⟩ = some (.int .i64 bi)) : (execOp ev ⟨some 52, Op.move (Operand.tmp 2), 3, "", #[], none⟩).run Try.prog z = .ok (.value (.int .i64 (j : Int))) z := by
  obtain ⟨s1, s2, s3, s4, s5, s6⟩ := hS
  go_simp
theorem sw_21 (h m g n cap i j : Nat) (ai bi aj bj : Int) (ev : Operand → Value) (z : World) (hi2 : (i : Int) < (n : Int)) (hj2 : (j : Int) < (n : Int)) (e0 : ev (Operand.tmp 51) = .slice (some ⟨g, 0, none⟩) n cap) (e1 : ev (Operand.tmp 52) = .int .i64 (j : Int)) (hS : z.cell? ⟨h, 0, none⟩ = some (.slice (some ⟨g, 0, none⟩) n cap) ∧ z.cell? ⟨h, 1, none⟩ = some (.map (some m)) ∧ z.cell? ⟨g, i * 3, none⟩ = some (.int .i64 aj) ∧ z.cell? ⟨g, i * 3 + 1, none⟩ = some (.int .i64 bj) ∧ z.cell? ⟨g, j * 3, none⟩ = some (.int .i64 ai) ∧ z.cell? ⟨g, j * 3 + 1, none⟩ = some (.int .i64 bi)) : (execOp ev ⟨some 53, Op.indexAddr 59 (Operand.tmp 51) (Operand.tmp 52), 0, "", #[], none⟩).run Try.prog z = .ok (.value (.pointer (some ⟨g, j * 3, none⟩))) z := by
  obtain ⟨s1, s2, s3, s4, s5, s6⟩ := hS
  go_simp
theorem sw_22 (h m g n cap i j : Nat) (ai bi aj bj : Int) (ev : Operand → Value) (z : World) (hi2 : (i : Int) < (n : Int)) (hj2 : (j : Int) < (n : Int)) (e0 : ev (Operand.tmp 53) = .pointer (some ⟨g, j * 3, none⟩)) (hS : z.cell? ⟨h, 0, none⟩ = some (.slice (some ⟨g, 0, none⟩) n cap) ∧ z.cell? ⟨h, 1, none⟩ = some (.map (some m)) ∧ z.cell? ⟨g, i * 3, none⟩ = some (.int .i64 aj) ∧ z.cell? ⟨g, i * 3 + 1, none⟩ = some (.int .i64 bj) ∧ z.cell? ⟨g, j * 3, none⟩ = some (.int .i64 ai) ∧ z.cell? ⟨g, j * 3 + 1, none⟩ = some (.int .i64 bi)) : (execOp ev ⟨some 54, Op.fieldAddr 65 (Operand.tmp 53) 0, 0, "", #[], none⟩).run Try.prog z = .ok (.value (.pointer (some ⟨g, j * 3, none⟩))) z := by
  obtain ⟨s1, s2, s3, s4, s5, s6⟩ := hS
  go_simp
theorem sw_23 (h m g n cap i j : Nat) (ai bi aj bj : Int) (ev : Operand → Value) (z : World) (hi2 : (i : Int) < (n : Int)) (hj2 : (j : Int) < (n : Int)) (e0 : ev (Operand.tmp 54) = .pointer (some ⟨g, j * 3, none⟩)) (hS : z.cell? ⟨h, 0, none⟩ = some (.slice (some ⟨g, 0, none⟩) n cap) ∧ z.cell? ⟨h, 1, none⟩ = some (.map (some m)) ∧ z.cell? ⟨g, i * 3, none⟩ = some (.int .i64 aj) ∧ z.cell? ⟨g, i * 3 + 1, none⟩ = some (.int .i64 bj) ∧ z.cell? ⟨g, j * 3, none⟩ = some (.int .i64 ai) ∧ z.cell? ⟨g, j * 3 + 1, none⟩ = some (.int .i64 bi)) : (execOp ev ⟨some 55, Op.load 39 (Operand.tmp 54), 39, "", #[], none⟩).run Try.prog z = .ok (.value (pv2 ai bi)) z := by
  obtain ⟨s1, s2, s3, s4, s5, s6⟩ := hS
  go_simp
theorem sw_24 (h m g n cap i j : Nat) (ai bi aj bj : Int) (ev : Operand → Value) (z : World) (hi2 : (i : Int) < (n : Int)) (hj2 : (j : Int) < (n : Int)) (e0 : ev (Operand.tmp 1) = .int .i64 (i : Int)) (hS : z.cell? ⟨h, 0, none⟩ = some (.slice (some ⟨g, 0, none⟩) n cap) ∧ z.cell? ⟨h, 1, none⟩ = some (.map (some m)) ∧ z.cell? ⟨g, i * 3, none⟩ = some (.int .i64 aj) ∧ z.cell? ⟨g, i * 3 + 1, none⟩ = some (.int .i64 bj) ∧ z.cell? ⟨g, j * 3, none⟩ = some (.int .i64 ai) ∧ z.cell? ⟨g, j * 3 + 1, none⟩ = some (.int .i64 bi)) : (execOp ev ⟨some 56, Op.move (Operand.tmp 1), 3, "", #[], none⟩).run Try.prog z = .ok (.value (.int .i64 (i : Int))) z := by
  obtain ⟨s1, s2, s3, s4, s5, s6⟩ := hS
  go_simp
theorem sw_25 (h m g n cap i j : Nat) (ai bi aj bj : Int) (ev : Operand → Value) (z : World) (hi2 : (i : Int) < (n : Int)) (hj2 : (j : Int) < (n : Int)) (e0 : ev (Operand.tmp 2) = .int .i64 (j : Int)) (hS : z.cell? ⟨h, 0, none⟩ = some (.slice (some ⟨g, 0, none⟩) n cap) ∧ z.cell? ⟨h, 1, none⟩ = some (.map (some m)) ∧ z.cell? ⟨g, i * 3, none⟩ = some (.int .i64 aj) ∧ z.cell? ⟨g, i * 3 + 1, none⟩ = some (.int .i64 bj) ∧ z.cell? ⟨g, j * 3, none⟩ = some (.int .i64 ai) ∧ z.cell? ⟨g, j * 3 + 1, none⟩ = some (.int .i64 bi)) : (execOp ev ⟨some 57, Op.move (Operand.tmp 2), 3, "", #[], none⟩).run Try.prog z = .ok (.value (.int .i64 (j : Int))) z := by
  obtain ⟨s1, s2, s3, s4, s5, s6⟩ := hS
  go_simp
theorem sw_26 {m st : Nat} {a b : Int} {v : Value} {z z1 : World} (r : (Instr.mapEntry 58 (.map (some m)) (pv2 a b)).run Try.prog z = .ok (.tuple #[v, goInt st]) z1) (ev : Operand → Value) (e0 : ev (.tmp 35) = .map (some m)) (e1 : ev (.tmp 43) = pv2 a b) : (execOp ev ⟨some 58, Op.mapEntry 58 (Operand.tmp 35) (Operand.tmp 43), 0, "", #[], none⟩).run Try.prog z = .ok (.value (.tuple #[v, goInt st])) z1 := by
  go_simp
theorem sw_29 {m st : Nat} {a b : Int} {v : Value} {z z1 : World} (r : (Instr.mapEntry 58 (.map (some m)) (pv2 a b)).run Try.prog z = .ok (.tuple #[v, goInt st]) z1) (ev : Operand → Value) (e0 : ev (.tmp 47) = .map (some m)) (e1 : ev (.tmp 55) = pv2 a b) : (execOp ev ⟨some 60, Op.mapEntry 58 (Operand.tmp 47) (Operand.tmp 55), 0, "", #[], none⟩).run Try.prog z = .ok (.value (.tuple #[v, goInt st])) z1 := by
  go_simp
theorem sw_28 {m st : Nat} {v : Value} {z z1 : World} (r : (Instr.entryStore 58 (.map (some m)) (goInt st) v).run Try.prog z = .ok () z1) (ev : Operand → Value) (e0 : ev (.tmp 35) = .map (some m)) (e1 : ev (.tmp 59) = goInt st) (e2 : ev (.tmp 56) = v) : (execOp ev ⟨none, Op.entryStore 58 (Operand.tmp 35) (Operand.tmp 59) (Operand.tmp 56), 0, "", #[], none⟩).run Try.prog z = .ok .skip z1 := by
  simp [execOp, e0, e1, e2, r, Result.andThen]
theorem sw_31 {m st : Nat} {v : Value} {z z1 : World} (r : (Instr.entryStore 58 (.map (some m)) (goInt st) v).run Try.prog z = .ok () z1) (ev : Operand → Value) (e0 : ev (.tmp 47) = .map (some m)) (e1 : ev (.tmp 61) = goInt st) (e2 : ev (.tmp 57) = v) : (execOp ev ⟨none, Op.entryStore 58 (Operand.tmp 47) (Operand.tmp 61) (Operand.tmp 57), 0, "", #[], none⟩).run Try.prog z = .ok .skip z1 := by
  simp [execOp, e0, e1, e2, r, Result.andThen]
theorem sw_27 {st : Nat} {v : Value} (ev : Operand → Value) (z : World) (e0 : ev (.tmp 58) = .tuple #[v, goInt st]) : (execOp ev ⟨some 59, Op.extract (Operand.tmp 58) 1, 3, "", #[], none⟩).run Try.prog z = .ok (.value (goInt st)) z := by
  go_simp
theorem sw_30 {st : Nat} {v : Value} (ev : Operand → Value) (z : World) (e0 : ev (.tmp 60) = .tuple #[v, goInt st]) : (execOp ev ⟨some 61, Op.extract (Operand.tmp 60) 1, 3, "", #[], none⟩).run Try.prog z = .ok (.value (goInt st)) z := by
  go_simp
structure SwR (ops : Array Oper) : Prop where
  size : ops.size = 32
  sel : Region.noSelect ops = true
  head : [0, 1, 2, 3, 4, 5, 6, 7, 8, 9, 10, 11, 12, 13, 14, 15, 16, 17, 18, 19, 20, 21, 22, 23, 24, 25].map (fun i => (ops[i]?).map bare) = [⟨some 32, Op.move (Operand.tmp 0), 52, "", #[], none⟩, ⟨some 33, Op.nilCheck (Operand.tmp 32), 0, "", #[], none⟩, ⟨some 34, Op.fieldAddr 61 (Operand.tmp 33) 1, 0, "", #[], none⟩, ⟨some 35, Op.load 58 (Operand.tmp 34), 58, "", #[], none⟩, ⟨some 36, Op.move (Operand.tmp 0), 52, "", #[], none⟩, ⟨some 37, Op.nilCheck (Operand.tmp 36), 0, "", #[], none⟩, ⟨some 38, Op.fieldAddr 61 (Operand.tmp 37) 0, 0, "", #[], none⟩, ⟨some 39, Op.load 59 (Operand.tmp 38), 59, "", #[], none⟩, ⟨some 40, Op.move (Operand.tmp 1), 3, "", #[], none⟩, ⟨some 41, Op.indexAddr 59 (Operand.tmp 39) (Operand.tmp 40), 0, "", #[], none⟩, ⟨some 42, Op.fieldAddr 65 (Operand.tmp 41) 0, 0, "", #[], none⟩, ⟨some 43, Op.load 39 (Operand.tmp 42), 39, "", #[], none⟩, ⟨some 44, Op.move (Operand.tmp 0), 52, "", #[], none⟩, ⟨some 45, Op.nilCheck (Operand.tmp 44), 0, "", #[], none⟩, ⟨some 46, Op.fieldAddr 61 (Operand.tmp 45) 1, 0, "", #[], none⟩, ⟨some 47, Op.load 58 (Operand.tmp 46), 58, "", #[], none⟩, ⟨some 48, Op.move (Operand.tmp 0), 52, "", #[], none⟩, ⟨some 49, Op.nilCheck (Operand.tmp 48), 0, "", #[], none⟩, ⟨some 50, Op.fieldAddr 61 (Operand.tmp 49) 0, 0, "", #[], none⟩, ⟨some 51, Op.load 59 (Operand.tmp 50), 59, "", #[], none⟩, ⟨some 52, Op.move (Operand.tmp 2), 3, "", #[], none⟩, ⟨some 53, Op.indexAddr 59 (Operand.tmp 51) (Operand.tmp 52), 0, "", #[], none⟩, ⟨some 54, Op.fieldAddr 65 (Operand.tmp 53) 0, 0, "", #[], none⟩, ⟨some 55, Op.load 39 (Operand.tmp 54), 39, "", #[], none⟩, ⟨some 56, Op.move (Operand.tmp 1), 3, "", #[], none⟩, ⟨some 57, Op.move (Operand.tmp 2), 3, "", #[], none⟩].map some
  may : takeB .any ops [0, 1, 2, 3, 4, 5, 6, 7, 8, 9, 10, 11, 12, 13, 14, 15, 16, 17, 18, 19, 20, 21, 22, 23, 24, 25] (Array.replicate 32 false) = true
  r26 : Region.ready .any ops (mark [0, 1, 2, 3, 4, 5, 6, 7, 8, 9, 10, 11, 12, 13, 14, 15, 16, 17, 18, 19, 20, 21, 22, 23, 24, 25] (Array.replicate 32 false)) = [26]
  o26 : (ops[26]?).map bare = some ⟨some 58, Op.mapEntry 58 (Operand.tmp 35) (Operand.tmp 43), 0, "", #[], none⟩
  r28 : Region.ready .any ops (((mark [0, 1, 2, 3, 4, 5, 6, 7, 8, 9, 10, 11, 12, 13, 14, 15, 16, 17, 18, 19, 20, 21, 22, 23, 24, 25] (Array.replicate 32 false)).setIfInBounds 26 true).setIfInBounds 27 true) = [28]
  o28 : (ops[28]?).map bare = some ⟨none, Op.entryStore 58 (Operand.tmp 35) (Operand.tmp 59) (Operand.tmp 56), 0, "", #[], none⟩
  r29 : Region.ready .any ops ((((mark [0, 1, 2, 3, 4, 5, 6, 7, 8, 9, 10, 11, 12, 13, 14, 15, 16, 17, 18, 19, 20, 21, 22, 23, 24, 25] (Array.replicate 32 false)).setIfInBounds 26 true).setIfInBounds 27 true).setIfInBounds 28 true) = [29]
  o29 : (ops[29]?).map bare = some ⟨some 60, Op.mapEntry 58 (Operand.tmp 47) (Operand.tmp 55), 0, "", #[], none⟩
  r31 : Region.ready .any ops ((((((mark [0, 1, 2, 3, 4, 5, 6, 7, 8, 9, 10, 11, 12, 13, 14, 15, 16, 17, 18, 19, 20, 21, 22, 23, 24, 25] (Array.replicate 32 false)).setIfInBounds 26 true).setIfInBounds 27 true).setIfInBounds 28 true).setIfInBounds 29 true).setIfInBounds 30 true) = [31]
  o31 : (ops[31]?).map bare = some ⟨none, Op.entryStore 58 (Operand.tmp 47) (Operand.tmp 61) (Operand.tmp 57), 0, "", #[], none⟩
  m27 : takeB .any ops [27] ((mark [0, 1, 2, 3, 4, 5, 6, 7, 8, 9, 10, 11, 12, 13, 14, 15, 16, 17, 18, 19, 20, 21, 22, 23, 24, 25] (Array.replicate 32 false)).setIfInBounds 26 true) = true
  o27 : [27].map (fun i => (ops[i]?).map bare) = [⟨some 59, Op.extract (Operand.tmp 58) 1, 3, "", #[], none⟩].map some
  m30 : takeB .any ops [30] (((((mark [0, 1, 2, 3, 4, 5, 6, 7, 8, 9, 10, 11, 12, 13, 14, 15, 16, 17, 18, 19, 20, 21, 22, 23, 24, 25] (Array.replicate 32 false)).setIfInBounds 26 true).setIfInBounds 27 true).setIfInBounds 28 true).setIfInBounds 29 true) = true
  o30 : [30].map (fun i => (ops[i]?).map bare) = [⟨some 61, Op.extract (Operand.tmp 60) 1, 3, "", #[], none⟩].map some
  fin : Region.ready .any ops (((((((mark [0, 1, 2, 3, 4, 5, 6, 7, 8, 9, 10, 11, 12, 13, 14, 15, 16, 17, 18, 19, 20, 21, 22, 23, 24, 25] (Array.replicate 32 false)).setIfInBounds 26 true).setIfInBounds 27 true).setIfInBounds 28 true).setIfInBounds 29 true).setIfInBounds 30 true).setIfInBounds 31 true) = []

set_option maxRecDepth 100000 in
set_option maxHeartbeats 1600000 in
theorem sw_region {ops : Array Oper} {id : Nat} {Q : Exit → Act → World → Prop} {a : Act} {y : World} (R : SwR ops) (h m g n cap i j : Nat) (ai bi aj bj : Int) (T : Int → Int → Option Value)
    (hQ : ∀ d v c a w, Q (.panic c) (a.put d v) w → Q (.panic c) a w) (hsz : a.tmps.size = 62) (e0 : a.eval (.tmp 0) = .pointer (some ⟨h, 0, none⟩)) (e1 : a.eval (.tmp 1) = .int .i64 (i : Int)) (e2 : a.eval (.tmp 2) = .int .i64 (j : Int))
    (hi2 : (i : Int) < (n : Int)) (hj2 : (j : Int) < (n : Int)) (hn : n ≤ 1000) (hP : Px y m n T) (wi : wf2 ai bi) (wj : wf2 aj bj) (ti : (T ai bi).isSome = true) (tj : (T aj bj).isSome = true) (hm : m ≠ h ∧ m ≠ g)
    (hS : (fun z : World => z.cell? ⟨h, 0, none⟩ = some (.slice (some ⟨g, 0, none⟩) n cap) ∧ z.cell? ⟨h, 1, none⟩ = some (.map (some m)) ∧ z.cell? ⟨g, i * 3, none⟩ = some (.int .i64 aj) ∧ z.cell? ⟨g, i * 3 + 1, none⟩ = some (.int .i64 bj) ∧ z.cell? ⟨g, j * 3, none⟩ = some (.int .i64 ai) ∧ z.cell? ⟨g, j * 3 + 1, none⟩ = some (.int .i64 bi)) y)
    (hK : ∀ a' z, a'.defers = a.defers → Kp (fun b => b = m) y z → Px z m n (upd2 (upd2 T aj bj (.int .i64 (i : Int))) ai bi (.int .i64 (j : Int))) → Q .normal a' z) : (Code.region id ops true).wp Try.prog Q a y := by
  have HS : Hid (∀ z : World, Kp (fun b => b = m) y z → z.cell? ⟨h, 0, none⟩ = some (.slice (some ⟨g, 0, none⟩) n cap) ∧ z.cell? ⟨h, 1, none⟩ = some (.map (some m)) ∧ z.cell? ⟨g, i * 3, none⟩ = some (.int .i64 aj) ∧ z.cell? ⟨g, i * 3 + 1, none⟩ = some (.int .i64 bj) ∧ z.cell? ⟨g, j * 3, none⟩ = some (.int .i64 ai) ∧ z.cell? ⟨g, j * 3 + 1, none⟩ = some (.int .i64 bi)) := fun z kz => by
    obtain ⟨q1, q2, q3, q4, q5, q6⟩ := hS
    exact ⟨kz.cellv q1 (fun e => hm.1 e.symm), kz.cellv q2 (fun e => hm.1 e.symm), kz.cellv q3 (fun e => hm.2 e.symm), kz.cellv q4 (fun e => hm.2 e.symm), kz.cellv q5 (fun e => hm.2 e.symm), kz.cellv q6 (fun e => hm.2 e.symm)⟩
  have kd0 : Kp (fun b => b = m) y y.drew := (Kp.refl _ _).drew
  have HP0 : Px y.drew m n T := hP.keep ((Kp.refl (fun _ => False) _).drew) (fun e => e)
  refine wp_region_held_drew (S := (fun z : World => z.cell? ⟨h, 0, none⟩ = some (.slice (some ⟨g, 0, none⟩) n cap) ∧ z.cell? ⟨h, 1, none⟩ = some (.map (some m)) ∧ z.cell? ⟨g, i * 3, none⟩ = some (.int .i64 aj) ∧ z.cell? ⟨g, i * 3 + 1, none⟩ = some (.int .i64 bj) ∧ z.cell? ⟨g, j * 3, none⟩ = some (.int .i64 ai) ∧ z.cell? ⟨g, j * 3 + 1, none⟩ = some (.int .i64 bi))) (by kernel_rfl) (HS.out _ kd0) (fun hHeld => ?_)
  obtain ⟨wd, hwd⟩ : ∃ x, x = y.drew := ⟨_, rfl⟩
  rw [← hwd] at kd0 HP0 hHeld ⊢
  clear hwd
  obtain ⟨v1, st1, z1, r1, q1, f1⟩ := entry_px (MT := 58) Try.underlying58 zeroJ HP0 (by omega) wj
  obtain ⟨z2, r2, q2, p2⟩ := f1 z1 rfl (.int .i64 (i : Int))
  rw [tj, if_pos rfl, Nat.add_zero] at p2
  obtain ⟨v3, st3, z3, r3, q3, f3⟩ := entry_px (MT := 58) Try.underlying58 zeroJ p2 (by omega) wi
  obtain ⟨z4, r4, q4, p4⟩ := f3 z3 rfl (.int .i64 (j : Int))
  have hsom : (upd2 T aj bj (.int .i64 (i : Int)) ai bi).isSome = true := by
    unfold upd2
    by_cases e : ai = aj ∧ bi = bj
    · rw [if_pos e]; rfl
    · rw [if_neg e]; exact ti
  rw [hsom, if_pos rfl, Nat.add_zero] at p4
  have kz1 := kd0.trans q1 (fun _ _ e => e)
  have kz2 := kz1.trans q2 (fun _ _ e => e)
  have kz3 := kz2.trans q3 (fun _ _ e => e)
  have kz4 := kz3.trans q4 (fun _ _ e => e)
  have HKF : Hid (∀ a' : Act, a'.defers = a.defers → Q .normal a' z4) := fun a' h1 => hK a' z4 h1 kz4 p4
  have hdf : a.defers = a.defers := rfl
  have HR : Hid (SwR ops) := R
  clear f1 f3 p2 p4 hsom hK HP0 q1 q2 q3 q4 ti tj wi wj hP hS hm hn
  rw [R.size]
  refine wpAnyH_tk R.sel hQ hHeld [0, 1, 2, 3, 4, 5, 6, 7, 8, 9, 10, 11, 12, 13, 14, 15, 16, 17, 18, 19, 20, 21, 22, 23, 24, 25] [⟨some 32, Op.move (Operand.tmp 0), 52, "", #[], none⟩, ⟨some 33, Op.nilCheck (Operand.tmp 32), 0, "", #[], none⟩, ⟨some 34, Op.fieldAddr 61 (Operand.tmp 33) 1, 0, "", #[], none⟩, ⟨some 35, Op.load 58 (Operand.tmp 34), 58, "", #[], none⟩, ⟨some 36, Op.move (Operand.tmp 0), 52, "", #[], none⟩, ⟨some 37, Op.nilCheck (Operand.tmp 36), 0, "", #[], none⟩, ⟨some 38, Op.fieldAddr 61 (Operand.tmp 37) 0, 0, "", #[], none⟩, ⟨some 39, Op.load 59 (Operand.tmp 38), 59, "", #[], none⟩, ⟨some 40, Op.move (Operand.tmp 1), 3, "", #[], none⟩, ⟨some 41, Op.indexAddr 59 (Operand.tmp 39) (Operand.tmp 40), 0, "", #[], none⟩, ⟨some 42, Op.fieldAddr 65 (Operand.tmp 41) 0, 0, "", #[], none⟩, ⟨some 43, Op.load 39 (Operand.tmp 42), 39, "", #[], none⟩, ⟨some 44, Op.move (Operand.tmp 0), 52, "", #[], none⟩, ⟨some 45, Op.nilCheck (Operand.tmp 44), 0, "", #[], none⟩, ⟨some 46, Op.fieldAddr 61 (Operand.tmp 45) 1, 0, "", #[], none⟩, ⟨some 47, Op.load 58 (Operand.tmp 46), 58, "", #[], none⟩, ⟨some 48, Op.move (Operand.tmp 0), 52, "", #[], none⟩, ⟨some 49, Op.nilCheck (Operand.tmp 48), 0, "", #[], none⟩, ⟨some 50, Op.fieldAddr 61 (Operand.tmp 49) 0, 0, "", #[], none⟩, ⟨some 51, Op.load 59 (Operand.tmp 50), 59, "", #[], none⟩, ⟨some 52, Op.move (Operand.tmp 2), 3, "", #[], none⟩, ⟨some 53, Op.indexAddr 59 (Operand.tmp 51) (Operand.tmp 52), 0, "", #[], none⟩, ⟨some 54, Op.fieldAddr 65 (Operand.tmp 53) 0, 0, "", #[], none⟩, ⟨some 55, Op.load 39 (Operand.tmp 54), 39, "", #[], none⟩, ⟨some 56, Op.move (Operand.tmp 1), 3, "", #[], none⟩, ⟨some 57, Op.move (Operand.tmp 2), 3, "", #[], none⟩] 6 _ _ R.head (by kernel_rfl) R.may (fun Kt hKt => ?_)
  clear R
  refine wpTk_step 32 (.pointer (some ⟨h, 0, none⟩)) rfl (by rw [hsz]; decide) (fun z hS => sw_0 h m g n cap i j ai bi aj bj _ z hi2 hj2 e0 hS) ?_
  intro a1 s1 f1 n1 k1
  replace hsz := s1.trans hsz
  replace hdf := f1.trans hdf
  replace e0 := (k1 0 (by decide)).trans e0
  replace e1 := (k1 1 (by decide)).trans e1
  replace e2 := (k1 2 (by decide)).trans e2
  have e32 := n1
  clear s1 f1 n1 k1
  refine wpTk_step 33 (.pointer (some ⟨h, 0, none⟩)) rfl (by rw [hsz]; decide) (fun z hS => sw_1 h m g n cap i j ai bi aj bj _ z hi2 hj2 e32 hS) ?_
  intro a1 s1 f1 n1 k1
  replace hsz := s1.trans hsz
  replace hdf := f1.trans hdf
  replace e0 := (k1 0 (by decide)).trans e0
  replace e1 := (k1 1 (by decide)).trans e1
  replace e2 := (k1 2 (by decide)).trans e2
  have e33 := n1
  clear s1 f1 n1 k1
  clear e32
  refine wpTk_step 34 (.pointer (some ⟨h, 1, none⟩)) rfl (by rw [hsz]; decide) (fun z hS => sw_2 h m g n cap i j ai bi aj bj _ z hi2 hj2 e33 hS) ?_
  intro a1 s1 f1 n1 k1
  replace hsz := s1.trans hsz
  replace hdf := f1.trans hdf
  replace e0 := (k1 0 (by decide)).trans e0
  replace e1 := (k1 1 (by decide)).trans e1
  replace e2 := (k1 2 (by decide)).trans e2
  have e34 := n1
  clear s1 f1 n1 k1
  clear e33
  refine wpTk_step 35 (.map (some m)) rfl (by rw [hsz]; decide) (fun z hS => sw_3 h m g n cap i j ai bi aj bj _ z hi2 hj2 e34 hS) ?_
  intro a1 s1 f1 n1 k1
  replace hsz := s1.trans hsz
  replace hdf := f1.trans hdf
  replace e0 := (k1 0 (by decide)).trans e0
  replace e1 := (k1 1 (by decide)).trans e1
  replace e2 := (k1 2 (by decide)).trans e2
  have e35 := n1
  clear s1 f1 n1 k1
  clear e34
  refine wpTk_step 36 (.pointer (some ⟨h, 0, none⟩)) rfl (by rw [hsz]; decide) (fun z hS => sw_4 h m g n cap i j ai bi aj bj _ z hi2 hj2 e0 hS) ?_
  intro a1 s1 f1 n1 k1
  replace hsz := s1.trans hsz
  replace hdf := f1.trans hdf
  replace e0 := (k1 0 (by decide)).trans e0
  replace e1 := (k1 1 (by decide)).trans e1
  replace e2 := (k1 2 (by decide)).trans e2
  replace e35 := (k1 35 (by decide)).trans e35
  have e36 := n1
  clear s1 f1 n1 k1
  refine wpTk_step 37 (.pointer (some ⟨h, 0, none⟩)) rfl (by rw [hsz]; decide) (fun z hS => sw_5 h m g n cap i j ai bi aj bj _ z hi2 hj2 e36 hS) ?_
  intro a1 s1 f1 n1 k1
  replace hsz := s1.trans hsz
  replace hdf := f1.trans hdf
  replace e0 := (k1 0 (by decide)).trans e0
  replace e1 := (k1 1 (by decide)).trans e1
  replace e2 := (k1 2 (by decide)).trans e2
  replace e35 := (k1 35 (by decide)).trans e35
  have e37 := n1
  clear s1 f1 n1 k1
  clear e36
  refine wpTk_step 38 (.pointer (some ⟨h, 0, none⟩)) rfl (by rw [hsz]; decide) (fun z hS => sw_6 h m g n cap i j ai bi aj bj _ z hi2 hj2 e37 hS) ?_
  intro a1 s1 f1 n1 k1
  replace hsz := s1.trans hsz
  replace hdf := f1.trans hdf
  replace e0 := (k1 0 (by decide)).trans e0
  replace e1 := (k1 1 (by decide)).trans e1
  replace e2 := (k1 2 (by decide)).trans e2
  replace e35 := (k1 35 (by decide)).trans e35
  have e38 := n1
  clear s1 f1 n1 k1
  clear e37
  refine wpTk_step 39 (.slice (some ⟨g, 0, none⟩) n cap) rfl (by rw [hsz]; decide) (fun z hS => sw_7 h m g n cap i j ai bi aj bj _ z hi2 hj2 e38 hS) ?_
  intro a1 s1 f1 n1 k1
  replace hsz := s1.trans hsz
  replace hdf := f1.trans hdf
  replace e0 := (k1 0 (by decide)).trans e0
  replace e1 := (k1 1 (by decide)).trans e1
  replace e2 := (k1 2 (by decide)).trans e2
  replace e35 := (k1 35 (by decide)).trans e35
  have e39 := n1
  clear s1 f1 n1 k1
  clear e38
  refine wpTk_step 40 (.int .i64 (i : Int)) rfl (by rw [hsz]; decide) (fun z hS => sw_8 h m g n cap i j ai bi aj bj _ z hi2 hj2 e1 hS) ?_
  intro a1 s1 f1 n1 k1
  replace hsz := s1.trans hsz
  replace hdf := f1.trans hdf
  replace e0 := (k1 0 (by decide)).trans e0
  replace e1 := (k1 1 (by decide)).trans e1
  replace e2 := (k1 2 (by decide)).trans e2
  replace e35 := (k1 35 (by decide)).trans e35
  replace e39 := (k1 39 (by decide)).trans e39
  have e40 := n1
  clear s1 f1 n1 k1
  refine wpTk_step 41 (.pointer (some ⟨g, i * 3, none⟩)) rfl (by rw [hsz]; decide) (fun z hS => sw_9 h m g n cap i j ai bi aj bj _ z hi2 hj2 e39 e40 hS) ?_
  intro a1 s1 f1 n1 k1
  replace hsz := s1.trans hsz
  replace hdf := f1.trans hdf
  replace e0 := (k1 0 (by decide)).trans e0
  replace e1 := (k1 1 (by decide)).trans e1
  replace e2 := (k1 2 (by decide)).trans e2
  replace e35 := (k1 35 (by decide)).trans e35
  have e41 := n1
  clear s1 f1 n1 k1
  clear e39
  clear e40
  refine wpTk_step 42 (.pointer (some ⟨g, i * 3, none⟩)) rfl (by rw [hsz]; decide) (fun z hS => sw_10 h m g n cap i j ai bi aj bj _ z hi2 hj2 e41 hS) ?_
  intro a1 s1 f1 n1 k1
  replace hsz := s1.trans hsz
  replace hdf := f1.trans hdf
  replace e0 := (k1 0 (by decide)).trans e0
  replace e1 := (k1 1 (by decide)).trans e1
  replace e2 := (k1 2 (by decide)).trans e2
  replace e35 := (k1 35 (by decide)).trans e35
  have e42 := n1
  clear s1 f1 n1 k1
  clear e41
  refine wpTk_step 43 (pv2 aj bj) rfl (by rw [hsz]; decide) (fun z hS => sw_11 h m g n cap i j ai bi aj bj _ z hi2 hj2 e42 hS) ?_
  intro a1 s1 f1 n1 k1
  replace hsz := s1.trans hsz
  replace hdf := f1.trans hdf
  replace e0 := (k1 0 (by decide)).trans e0
  replace e1 := (k1 1 (by decide)).trans e1
  replace e2 := (k1 2 (by decide)).trans e2
  replace e35 := (k1 35 (by decide)).trans e35
  have e43 := n1
  clear s1 f1 n1 k1
  clear e42
  refine wpTk_step 44 (.pointer (some ⟨h, 0, none⟩)) rfl (by rw [hsz]; decide) (fun z hS => sw_12 h m g n cap i j ai bi aj bj _ z hi2 hj2 e0 hS) ?_
  intro a1 s1 f1 n1 k1
  replace hsz := s1.trans hsz
  replace hdf := f1.trans hdf
  replace e0 := (k1 0 (by decide)).trans e0
  replace e1 := (k1 1 (by decide)).trans e1
  replace e2 := (k1 2 (by decide)).trans e2
  replace e35 := (k1 35 (by decide)).trans e35
  replace e43 := (k1 43 (by decide)).trans e43
  have e44 := n1
  clear s1 f1 n1 k1
  refine wpTk_step 45 (.pointer (some ⟨h, 0, none⟩)) rfl (by rw [hsz]; decide) (fun z hS => sw_13 h m g n cap i j ai bi aj bj _ z hi2 hj2 e44 hS) ?_
  intro a1 s1 f1 n1 k1
  replace hsz := s1.trans hsz
  replace hdf := f1.trans hdf
  replace e0 := (k1 0 (by decide)).trans e0
  replace e1 := (k1 1 (by decide)).trans e1
  replace e2 := (k1 2 (by decide)).trans e2
  replace e35 := (k1 35 (by decide)).trans e35
  replace e43 := (k1 43 (by decide)).trans e43
  have e45 := n1
  clear s1 f1 n1 k1
  clear e44
  refine wpTk_step 46 (.pointer (some ⟨h, 1, none⟩)) rfl (by rw [hsz]; decide) (fun z hS => sw_14 h m g n cap i j ai bi aj bj _ z hi2 hj2 e45 hS) ?_
  intro a1 s1 f1 n1 k1
  replace hsz := s1.trans hsz
  replace hdf := f1.trans hdf
  replace e0 := (k1 0 (by decide)).trans e0
  replace e1 := (k1 1 (by decide)).trans e1
  replace e2 := (k1 2 (by decide)).trans e2
  replace e35 := (k1 35 (by decide)).trans e35
  replace e43 := (k1 43 (by decide)).trans e43
  have e46 := n1
  clear s1 f1 n1 k1
  clear e45
  refine wpTk_step 47 (.map (some m)) rfl (by rw [hsz]; decide) (fun z hS => sw_15 h m g n cap i j ai bi aj bj _ z hi2 hj2 e46 hS) ?_
  intro a1 s1 f1 n1 k1
  replace hsz := s1.trans hsz
  replace hdf := f1.trans hdf
  replace e0 := (k1 0 (by decide)).trans e0
  replace e1 := (k1 1 (by decide)).trans e1
  replace e2 := (k1 2 (by decide)).trans e2
  replace e35 := (k1 35 (by decide)).trans e35
  replace e43 := (k1 43 (by decide)).trans e43
  have e47 := n1
  clear s1 f1 n1 k1
  clear e46
  refine wpTk_step 48 (.pointer (some ⟨h, 0, none⟩)) rfl (by rw [hsz]; decide) (fun z hS => sw_16 h m g n cap i j ai bi aj bj _ z hi2 hj2 e0 hS) ?_
  intro a1 s1 f1 n1 k1
  replace hsz := s1.trans hsz
  replace hdf := f1.trans hdf
  replace e1 := (k1 1 (by decide)).trans e1
  replace e2 := (k1 2 (by decide)).trans e2
  replace e35 := (k1 35 (by decide)).trans e35
  replace e43 := (k1 43 (by decide)).trans e43
  replace e47 := (k1 47 (by decide)).trans e47
  have e48 := n1
  clear s1 f1 n1 k1
  clear e0
  refine wpTk_step 49 (.pointer (some ⟨h, 0, none⟩)) rfl (by rw [hsz]; decide) (fun z hS => sw_17 h m g n cap i j ai bi aj bj _ z hi2 hj2 e48 hS) ?_
  intro a1 s1 f1 n1 k1
  replace hsz := s1.trans hsz
  replace hdf := f1.trans hdf
  replace e1 := (k1 1 (by decide)).trans e1
  replace e2 := (k1 2 (by decide)).trans e2
  replace e35 := (k1 35 (by decide)).trans e35
  replace e43 := (k1 43 (by decide)).trans e43
  replace e47 := (k1 47 (by decide)).trans e47
  have e49 := n1
  clear s1 f1 n1 k1
  clear e48
  refine wpTk_step 50 (.pointer (some ⟨h, 0, none⟩)) rfl (by rw [hsz]; decide) (fun z hS => sw_18 h m g n cap i j ai bi aj bj _ z hi2 hj2 e49 hS) ?_
  intro a1 s1 f1 n1 k1
  replace hsz := s1.trans hsz
  replace hdf := f1.trans hdf
  replace e1 := (k1 1 (by decide)).trans e1
  replace e2 := (k1 2 (by decide)).trans e2
  replace e35 := (k1 35 (by decide)).trans e35
  replace e43 := (k1 43 (by decide)).trans e43
  replace e47 := (k1 47 (by decide)).trans e47
  have e50 := n1
  clear s1 f1 n1 k1
  clear e49
  refine wpTk_step 51 (.slice (some ⟨g, 0, none⟩) n cap) rfl (by rw [hsz]; decide) (fun z hS => sw_19 h m g n cap i j ai bi aj bj _ z hi2 hj2 e50 hS) ?_
  intro a1 s1 f1 n1 k1
  replace hsz := s1.trans hsz
  replace hdf := f1.trans hdf
  replace e1 := (k1 1 (by decide)).trans e1
  replace e2 := (k1 2 (by decide)).trans e2
  replace e35 := (k1 35 (by decide)).trans e35
  replace e43 := (k1 43 (by decide)).trans e43
  replace e47 := (k1 47 (by decide)).trans e47
  have e51 := n1
  clear s1 f1 n1 k1
  clear e50
  refine wpTk_step 52 (.int .i64 (j : Int)) rfl (by rw [hsz]; decide) (fun z hS => sw_20 h m g n cap i j ai bi aj bj _ z hi2 hj2 e2 hS) ?_
  intro a1 s1 f1 n1 k1
  replace hsz := s1.trans hsz
  replace hdf := f1.trans hdf
  replace e1 := (k1 1 (by decide)).trans e1
  replace e2 := (k1 2 (by decide)).trans e2
  replace e35 := (k1 35 (by decide)).trans e35
  replace e43 := (k1 43 (by decide)).trans e43
  replace e47 := (k1 47 (by decide)).trans e47
  replace e51 := (k1 51 (by decide)).trans e51
  have e52 := n1
  clear s1 f1 n1 k1
  refine wpTk_step 53 (.pointer (some ⟨g, j * 3, none⟩)) rfl (by rw [hsz]; decide) (fun z hS => sw_21 h m g n cap i j ai bi aj bj _ z hi2 hj2 e51 e52 hS) ?_
  intro a1 s1 f1 n1 k1
  replace hsz := s1.trans hsz
  replace hdf := f1.trans hdf
  replace e1 := (k1 1 (by decide)).trans e1
  replace e2 := (k1 2 (by decide)).trans e2
  replace e35 := (k1 35 (by decide)).trans e35
  replace e43 := (k1 43 (by decide)).trans e43
  replace e47 := (k1 47 (by decide)).trans e47
  have e53 := n1
  clear s1 f1 n1 k1
  clear e51
  clear e52
  refine wpTk_step 54 (.pointer (some ⟨g, j * 3, none⟩)) rfl (by rw [hsz]; decide) (fun z hS => sw_22 h m g n cap i j ai bi aj bj _ z hi2 hj2 e53 hS) ?_
  intro a1 s1 f1 n1 k1
  replace hsz := s1.trans hsz
  replace hdf := f1.trans hdf
  replace e1 := (k1 1 (by decide)).trans e1
  replace e2 := (k1 2 (by decide)).trans e2
  replace e35 := (k1 35 (by decide)).trans e35
  replace e43 := (k1 43 (by decide)).trans e43
  replace e47 := (k1 47 (by decide)).trans e47
  have e54 := n1
  clear s1 f1 n1 k1
  clear e53
  refine wpTk_step 55 (pv2 ai bi) rfl (by rw [hsz]; decide) (fun z hS => sw_23 h m g n cap i j ai bi aj bj _ z hi2 hj2 e54 hS) ?_
  intro a1 s1 f1 n1 k1
  replace hsz := s1.trans hsz
  replace hdf := f1.trans hdf
  replace e1 := (k1 1 (by decide)).trans e1
  replace e2 := (k1 2 (by decide)).trans e2
  replace e35 := (k1 35 (by decide)).trans e35
  replace e43 := (k1 43 (by decide)).trans e43
  replace e47 := (k1 47 (by decide)).trans e47
  have e55 := n1
  clear s1 f1 n1 k1
  clear e54
  refine wpTk_step 56 (.int .i64 (i : Int)) rfl (by rw [hsz]; decide) (fun z hS => sw_24 h m g n cap i j ai bi aj bj _ z hi2 hj2 e1 hS) ?_
  intro a1 s1 f1 n1 k1
  replace hsz := s1.trans hsz
  replace hdf := f1.trans hdf
  replace e2 := (k1 2 (by decide)).trans e2
  replace e35 := (k1 35 (by decide)).trans e35
  replace e43 := (k1 43 (by decide)).trans e43
  replace e47 := (k1 47 (by decide)).trans e47
  replace e55 := (k1 55 (by decide)).trans e55
  have e56 := n1
  clear s1 f1 n1 k1
  clear e1
  refine wpTk_step 57 (.int .i64 (j : Int)) rfl (by rw [hsz]; decide) (fun z hS => sw_25 h m g n cap i j ai bi aj bj _ z hi2 hj2 e2 hS) ?_
  intro a1 s1 f1 n1 k1
  replace hsz := s1.trans hsz
  replace hdf := f1.trans hdf
  replace e35 := (k1 35 (by decide)).trans e35
  replace e43 := (k1 43 (by decide)).trans e43
  replace e47 := (k1 47 (by decide)).trans e47
  replace e55 := (k1 55 (by decide)).trans e55
  replace e56 := (k1 56 (by decide)).trans e56
  have e57 := n1
  clear s1 f1 n1 k1
  clear e2
  refine wpTk_nil (hKt.out _ ?_)
  clear hKt Kt
  refine wpAnyH_run ⟨some 58, Op.mapEntry 58 (Operand.tmp 35) (Operand.tmp 43), 0, "", #[], none⟩ _ _ z1 HR.out.r26 HR.out.o26 rfl rfl (sw_26 r1 _ e35 e43) (HS.out _ kz1) ?_
  replace hHeld := HS.out _ kz1
  obtain ⟨s1, f1, n1, k1⟩ := act_put a1 58 (.tuple #[v1, goInt st1]) (show 58 < _ by rw [hsz]; decide)
  obtain ⟨a9, ha1⟩ : ∃ x, x = Act.put a1 (some 58) (.tuple #[v1, goInt st1]) := ⟨_, rfl⟩
  rw [← ha1] at s1 f1 n1 k1 ⊢
  clear ha1
  replace hsz := s1.trans hsz
  replace hdf := f1.trans hdf
  replace e35 := (k1 35 (by decide)).trans e35
  replace e47 := (k1 47 (by decide)).trans e47
  replace e55 := (k1 55 (by decide)).trans e55
  replace e56 := (k1 56 (by decide)).trans e56
  replace e57 := (k1 57 (by decide)).trans e57
  have e58 := n1
  clear s1 f1 n1 k1
  clear e43
  refine wpAnyH_tk HR.out.sel hQ hHeld [27] [⟨some 59, Op.extract (Operand.tmp 58) 1, 3, "", #[], none⟩] 4 _ _ HR.out.o27 (by kernel_rfl) HR.out.m27 (fun Kt hKt => ?_)
  refine wpTk_step 59 (goInt st1) rfl (by rw [hsz]; decide) (fun z _ => sw_27 _ z e58) ?_
  intro a1 s1 f1 n1 k1
  replace hsz := s1.trans hsz
  replace hdf := f1.trans hdf
  replace e35 := (k1 35 (by decide)).trans e35
  replace e47 := (k1 47 (by decide)).trans e47
  replace e55 := (k1 55 (by decide)).trans e55
  replace e56 := (k1 56 (by decide)).trans e56
  replace e57 := (k1 57 (by decide)).trans e57
  have e59 := n1
  clear s1 f1 n1 k1
  clear e58
  refine wpTk_nil (hKt.out _ ?_)
  clear hKt Kt
  refine wpAnyH_skip ⟨none, Op.entryStore 58 (Operand.tmp 35) (Operand.tmp 59) (Operand.tmp 56), 0, "", #[], none⟩ z2 HR.out.r28 HR.out.o28 rfl rfl (sw_28 r2 _ e35 e59 e56) (HS.out _ kz2) ?_
  replace hHeld := HS.out _ kz2
  clear e35
  clear e56
  clear e59
  refine wpAnyH_run ⟨some 60, Op.mapEntry 58 (Operand.tmp 47) (Operand.tmp 55), 0, "", #[], none⟩ _ _ z3 HR.out.r29 HR.out.o29 rfl rfl (sw_29 r3 _ e47 e55) (HS.out _ kz3) ?_
  replace hHeld := HS.out _ kz3
  obtain ⟨s1, f1, n1, k1⟩ := act_put a1 60 (.tuple #[v3, goInt st3]) (show 60 < _ by rw [hsz]; decide)
  obtain ⟨a9, ha1⟩ : ∃ x, x = Act.put a1 (some 60) (.tuple #[v3, goInt st3]) := ⟨_, rfl⟩
  rw [← ha1] at s1 f1 n1 k1 ⊢
  clear ha1
  replace hsz := s1.trans hsz
  replace hdf := f1.trans hdf
  replace e47 := (k1 47 (by decide)).trans e47
  replace e57 := (k1 57 (by decide)).trans e57
  have e60 := n1
  clear s1 f1 n1 k1
  clear e55
  refine wpAnyH_tk HR.out.sel hQ hHeld [30] [⟨some 61, Op.extract (Operand.tmp 60) 1, 3, "", #[], none⟩] 1 _ _ HR.out.o30 (by kernel_rfl) HR.out.m30 (fun Kt hKt => ?_)
  refine wpTk_step 61 (goInt st3) rfl (by rw [hsz]; decide) (fun z _ => sw_30 _ z e60) ?_
  intro a1 s1 f1 n1 k1
  replace hsz := s1.trans hsz
  replace hdf := f1.trans hdf
  replace e47 := (k1 47 (by decide)).trans e47
  replace e57 := (k1 57 (by decide)).trans e57
  have e61 := n1
  clear s1 f1 n1 k1
  clear e60
  refine wpTk_nil (hKt.out _ ?_)
  clear hKt Kt
  refine wpAnyH_skip ⟨none, Op.entryStore 58 (Operand.tmp 47) (Operand.tmp 61) (Operand.tmp 57), 0, "", #[], none⟩ z4 HR.out.r31 HR.out.o31 rfl rfl (sw_31 r4 _ e47 e61 e57) (HS.out _ kz4) ?_
  replace hHeld := HS.out _ kz4
  clear e47
  clear e57
  clear e61
  exact wpAnyH_done HR.out.fin (HKF.out _ hdf) _
end Go.Proofs.Ytnpaoppfhffoiaa
