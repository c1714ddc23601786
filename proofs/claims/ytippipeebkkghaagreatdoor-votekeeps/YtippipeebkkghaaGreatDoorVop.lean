/- An acceptor's commands, plain. -/
import Derived.Test.YtippipeebkkghaaGreatDoorOi
import Derived.Test.YtippipeebkkghaaGreatDoorNi
namespace Go.Proofs.YtippipeebkkghaaGreatDoor
set_option linter.unusedVariables false
set_option linter.unusedSimpArgs false
open Go.RowKit Go.Deep

/-- a command of an ID alone -/
def cId (b : Nat) : Cs0 := ⟨(b : Int), 0, ⟨#[]⟩, 0, 0, 0, 0, 0, 0, 0, 0⟩
abbrev cPl (b : Nat) : Cp := ⟨b, 0, 0, 0, 0, 0, 0, 0, 0, 0, [], []⟩
/-- its bytes -/
def cmdV (b : Nat) : List Nat := cmdB (cPl b)
/-- a vote's note -/
def votB (b : Nat) : List Nat := [1, b] ++ cmdV b
theorem cpOf_id (b : Nat) : cpOf (cId b) [] = cPl b := by
  unfold cpOf cId
  have e : keyB (⟨#[]⟩ : ByteArray) = [] := by rfl
  simp [e]
theorem mayC_id {b : Nat} (hb : b ≤ 20) : mayC (cId b) [] = true := by
  unfold mayC cId upTo
  have e : (⟨#[]⟩ : ByteArray).size = 0 := rfl
  simp [e]
  omega
theorem numB_one {b : Nat} (h1 : 1 ≤ b) (h2 : b ≤ 20) : numB b = [1, b] := by
  have h0 : numW 0 = 0 := by rw [numW]; rfl
  have hw : numW b = 1 := by
    rw [numW, dif_neg (by omega), show b / 256 = 0 by omega, h0]
  unfold numB
  rw [hw]
  show [1, (b / 256 ^ 0) % 256] = [1, b]
  rw [Nat.pow_zero, Nat.div_one, Nat.mod_eq_of_lt (by omega)]
theorem numB_nil : numB 0 = [0] := by
  have h0 : numW 0 = 0 := by rw [numW]; rfl
  unfold numB
  rw [h0]
  rfl
theorem cmdV_eq {b : Nat} (h1 : 1 ≤ b) (h2 : b ≤ 20) : cmdV b = [1, b, 0, 0, 0, 0, 0, 0, 0, 0, 0, 0, 0] := by
  unfold cmdV cmdB numsB
  simp only [List.flatMap_cons, List.flatMap_nil, List.length_nil, numB_one h1 h2, numB_nil]
  rfl
theorem votB_eq {b : Nat} (h1 : 1 ≤ b) (h2 : b ≤ 20) : votB b = [1, b, 1, b, 0, 0, 0, 0, 0, 0, 0, 0, 0, 0, 0] := by
  unfold votB
  rw [cmdV_eq h1 h2]
  rfl
theorem csOf_id (b : Nat) : csOf (cPl b) = cId b := by
  unfold csOf cId
  have e : str [] = (⟨#[]⟩ : ByteArray) := by rfl
  simp [e]
theorem okC_id {b : Nat} (h2 : b ≤ 20) : okC (cmdV b) = some (cPl b) := by
  have hf : (cPl b).fit := by
    refine ⟨fun x hx => ?_, ?_, ?_, ?_, ?_⟩
    · simp only [List.mem_cons, List.not_mem_nil, or_false] at hx
      show x ≤ 1152921504606846976
      omega
    all_goals first | (show 0 ≤ _; omega) | (intro x hx; cases hx)
  have h3 := rdCmd_num hf []
  rw [List.append_nil] at h3
  unfold okC cmdV
  rw [h3]
  have h4 : mayC (csOf (cPl b)) (intsOf (cPl b).nodes) = true := by
    rw [csOf_id]
    exact mayC_id h2
  show (if _ then _ else _) = _
  rw [if_pos ⟨rfl, h4⟩]
end Go.Proofs.YtippipeebkkghaaGreatDoor
