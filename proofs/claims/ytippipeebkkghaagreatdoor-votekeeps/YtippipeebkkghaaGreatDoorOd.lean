/- cmdReader.cmd. -/
import Derived.Test.YtippipeebkkghaaGreatDoorNy
import Derived.Test.YtippipeebkkghaaGreatDoorOc
namespace Go.Proofs.YtippipeebkkghaaGreatDoor
set_option linter.unusedVariables false
set_option linter.unusedSimpArgs false
open Go.RowKit Go.Deep

theorem seqN_add {xs t : List Nat} {i : Nat} (h : seqN xs i = some t) : ∀ j, seqN xs (i + j) = seqN t j
  | 0 => h
  | j + 1 => by
    show (seqN xs (i + j)).bind _ = (seqN t j).bind _
    rw [seqN_add h j]
theorem seqV_add {xs t : List Nat} {i : Nat} (h : seqN xs i = some t) (j : Nat) : seqV xs (i + j) = seqV t j := by
  unfold seqV
  rw [seqN_add h j]
/-- the command as the program has it -/
def csOf (c : Cp) : Cs0 := ⟨c.id, c.kind, str c.key, c.blob, c.other, c.index, c.node, c.size, c.sum, c.k, c.m⟩
def intsOf (ns : List Nat) : List Int := ns.map (fun x : Nat => (x : Int))
/-- what cmdReader.cmd answers -/
def RcmRes (Z : Nat → Prop) (r : Nat) (xs : List Nat) (w : World) (e : Ending) (w' : World) : Prop := match rdCmd xs with
  | some (c, t) => ∃ q cap, e = .returned (.agg (cmdA (csOf c) (.slice q c.nodes.length cap))) ∧ Fl w' (fun b => w.heap.size ≤ b ∧ b < w'.heap.size) q ((intsOf c.nodes).map encI) ∧ Cu Z w' r t
  | none => e = .panicked gaveUp
/-- the parts of a command that is read -/
theorem rdCmd_yes {xs t1 t2 t3 t4 t5 t6 s : List Nat} {q n : Nat} (h1 : seqN xs 7 = some t1) (h2 : rdNum 4294967295 t1 = some (q, t2)) (h3 : seqN t2 2 = some t3) (h4 : rdText 8 t3 = some (s, t4)) (h5 : rdNum 255 t4 = some (n, t5)) (h6 : seqN t5 n = some t6) :
    rdCmd xs = some (⟨seqV xs 0, seqV xs 1, seqV xs 2, seqV xs 3, seqV xs 4, seqV xs 5, seqV xs 6, q, seqV t2 0, seqV t2 1, s, (List.range n).map (seqV t5)⟩, t6) := by
  unfold rdCmd
  rw [seqN_nums 7 xs t1 h1]
  show (rdNum _ t1).bind _ = _
  rw [h2]
  show (rdNums _ 2 t2).bind _ = _
  rw [seqN_nums 2 t2 t3 h3]
  show (rdText 8 t3).bind _ = _
  rw [h4]
  show (rdNum 255 t4).bind _ = _
  rw [h5]
  show (rdNums _ n t5).bind _ = _
  rw [seqN_nums n t5 t6 h6]
  rfl
theorem rdCmd_no1 {xs : List Nat} (h1 : seqN xs 7 = none) : rdCmd xs = none := by
  unfold rdCmd
  rw [nums_seqN 7 xs h1]
  rfl
theorem rdCmd_no2 {xs t1 : List Nat} (h1 : seqN xs 7 = some t1) (h2 : rdNum 4294967295 t1 = none) : rdCmd xs = none := by
  unfold rdCmd
  rw [seqN_nums 7 xs t1 h1]
  show (rdNum _ t1).bind _ = _
  rw [h2]
  rfl
theorem rdCmd_no3 {xs t1 t2 : List Nat} {q : Nat} (h1 : seqN xs 7 = some t1) (h2 : rdNum 4294967295 t1 = some (q, t2)) (h3 : seqN t2 2 = none) : rdCmd xs = none := by
  unfold rdCmd
  rw [seqN_nums 7 xs t1 h1]
  show (rdNum _ t1).bind _ = _
  rw [h2]
  show (rdNums _ 2 t2).bind _ = _
  rw [nums_seqN 2 t2 h3]
  rfl
theorem rdCmd_no4 {xs t1 t2 t3 : List Nat} {q : Nat} (h1 : seqN xs 7 = some t1) (h2 : rdNum 4294967295 t1 = some (q, t2)) (h3 : seqN t2 2 = some t3) (h4 : rdText 8 t3 = none) : rdCmd xs = none := by
  unfold rdCmd
  rw [seqN_nums 7 xs t1 h1]
  show (rdNum _ t1).bind _ = _
  rw [h2]
  show (rdNums _ 2 t2).bind _ = _
  rw [seqN_nums 2 t2 t3 h3]
  show (rdText 8 t3).bind _ = _
  rw [h4]
  rfl
theorem rdCmd_no5 {xs t1 t2 t3 t4 s : List Nat} {q : Nat} (h1 : seqN xs 7 = some t1) (h2 : rdNum 4294967295 t1 = some (q, t2)) (h3 : seqN t2 2 = some t3) (h4 : rdText 8 t3 = some (s, t4)) (h5 : rdNum 255 t4 = none) : rdCmd xs = none := by
  unfold rdCmd
  rw [seqN_nums 7 xs t1 h1]
  show (rdNum _ t1).bind _ = _
  rw [h2]
  show (rdNums _ 2 t2).bind _ = _
  rw [seqN_nums 2 t2 t3 h3]
  show (rdText 8 t3).bind _ = _
  rw [h4]
  show (rdNum 255 t4).bind _ = _
  rw [h5]
  rfl
theorem rdCmd_no6 {xs t1 t2 t3 t4 t5 s : List Nat} {q n : Nat} (h1 : seqN xs 7 = some t1) (h2 : rdNum 4294967295 t1 = some (q, t2)) (h3 : seqN t2 2 = some t3) (h4 : rdText 8 t3 = some (s, t4)) (h5 : rdNum 255 t4 = some (n, t5)) (h6 : seqN t5 n = none) : rdCmd xs = none := by
  unfold rdCmd
  rw [seqN_nums 7 xs t1 h1]
  show (rdNum _ t1).bind _ = _
  rw [h2]
  show (rdNums _ 2 t2).bind _ = _
  rw [seqN_nums 2 t2 t3 h3]
  show (rdText 8 t3).bind _ = _
  rw [h4]
  show (rdNum 255 t4).bind _ = _
  rw [h5]
  show (rdNums _ n t5).bind _ = _
  rw [nums_seqN n t5 h6]
  rfl
end Go.Proofs.YtippipeebkkghaaGreatDoor
