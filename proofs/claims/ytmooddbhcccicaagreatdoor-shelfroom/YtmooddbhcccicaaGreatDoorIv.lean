/- ShelfDrops' drawn region (laid by scripts/mkiv.py). -/
import Derived.Test.YtmooddbhcccicaaGreatDoorIu
import Derived.Test.YtmooddbhcccicaaGreatDoorWq
namespace Go.Proofs.YtmooddbhcccicaaGreatDoor
set_option linter.unusedVariables false
set_option linter.unusedSimpArgs false
open Go.RowKit Go.Deep

def drK (na ca nb cb la lb : Nat) (pa pb : Option Addr) (ya yb : List Nat) : Nat → Kd
  | 0 => .eq (.slice pa na ca)
  | 1 => .eq (.slice pa na ca)
  | 2 => .eq (.int .i64 (na : Int))
  | 3 => .eq (.int .i64 (la : Int))
  | 4 => .eq (.slice pa la ca)
  | 5 => .ow ya
  | 6 => .ow [1]
  | 7 => .ow (ya ++ [1])
  | 8 => .eq (.slice pb nb cb)
  | 9 => .eq (.slice pb nb cb)
  | 10 => .eq (.int .i64 (nb : Int))
  | 11 => .eq (.int .i64 (lb : Int))
  | 12 => .eq (.slice pb lb cb)
  | 13 => .ow yb
  | 14 => .ow [2]
  | 15 => .ow (yb ++ [2])
  | 16 => .ow (ya ++ [1])
  | 17 => .ow (yb ++ [2])
  | _ => .eq undef
def drL : List Nat := [38, 39, 40, 41, 42, 43, 44, 45, 46, 47, 48, 49, 50, 51, 52, 53, 3, 4]
def drD (k : Nat) : Nat := drL.getD k 0
def drE : Nat → Option Nat
  | 7 => some 5
  | 15 => some 13
  | 16 => some 7
  | 17 => some 15
  | _ => none
def drU : Nat → List Nat
  | 2 => [1]
  | 3 => [2]
  | 4 => [0, 3]
  | 5 => [4]
  | 7 => [5, 6]
  | 10 => [9]
  | 11 => [10]
  | 12 => [8, 11]
  | 13 => [12]
  | 15 => [13, 14]
  | 16 => [7]
  | 17 => [15]
  | _ => []
def drB (pa : Option Addr) (na ca : Nat) (pb : Option Addr) (nb cb : Nat) (f : Nat → Value) (df : List Deferred) (L : Nat → Bool) (a : Act) : Prop := (L 16 = false → a.eval (.tmp 3) = .slice pa na ca) ∧ (L 17 = false → a.eval (.tmp 4) = .slice pb nb cb) ∧ (∀ t, t ∉ drL → a.eval (.tmp t) = f t) ∧ a.defers = df
theorem drD3 : ∀ k, k < 18 → k ≠ 16 → drD k ≠ 3 := by decide
theorem drD4 : ∀ k, k < 18 → k ≠ 17 → drD k ≠ 4 := by decide
theorem drDn : ∀ k, k < 18 → drD k ∈ drL := by decide
theorem drDi : ∀ i, i < 18 → ∀ j, j < 18 → drD i = drD j → i = j := by decide
set_option maxRecDepth 100000 in
theorem drEU : ∀ k, k < 18 → ∀ k', k' < 18 → ∀ j ∈ drU k', drE k = some j → k' = k := by decide
theorem drE16 : ∀ k, k < 18 → drE k ≠ some 16 := by decide
theorem drE17 : ∀ k, k < 18 → drE k ≠ some 17 := by decide
theorem put_ne {a : Act} {d t : Nat} {v : Value} (h : d ≠ t) : (a.put (some d) v).eval (.tmp t) = a.eval (.tmp t) := by
  show (a.tmps.setIfInBounds d v).getD t undef = a.tmps.getD t undef
  simp [Array.getElem?_setIfInBounds_ne h]
theorem drB_put (pa : Option Addr) (na ca : Nat) (pb : Option Addr) (nb cb : Nat) (f : Nat → Value) (df : List Deferred) (k : Nat) (v : Value) (a : Act) (L : Nat → Bool) (hk : k < 18) (h : drB pa na ca pb nb cb f df L a) : drB pa na ca pb nb cb f df (fun i => if i = k then true else L i) (a.put (some (drD k)) v) := by
  obtain ⟨h3, h4, h0, hd⟩ := h
  refine ⟨fun hl => ?_, fun hl => ?_, fun t ht => by rw [put_ne (fun e : drD k = t => ht (e ▸ drDn k hk))]; exact h0 t ht, hd⟩
  · by_cases e : 16 = k
    · dsimp only at hl
      rw [if_pos e] at hl; cases hl
    · dsimp only at hl
      rw [if_neg e] at hl
      rw [put_ne (drD3 k hk (fun h => e h.symm))]
      exact h3 hl
  · by_cases e : 17 = k
    · dsimp only at hl
      rw [if_pos e] at hl; cases hl
    · dsimp only at hl
      rw [if_neg e] at hl
      rw [put_ne (drD4 k hk (fun h => e h.symm))]
      exact h4 hl
def drT : List (Oper × List Nat) := [(⟨some 38, Op.move (Operand.tmp 3), 34, "", #[], none⟩, []), (⟨some 39, Op.move (Operand.tmp 3), 34, "", #[], none⟩, []), (⟨some 40, Op.call { callee := Callee.builtin Builtin.len, args := #[Operand.tmp 39], argTypes := #[34] }, 3, "", #[], none⟩, [1]), (⟨some 41, Op.call { callee := Callee.builtin Builtin.min, args := #[Operand.tmp 40, Operand.const (Value.int IntKind.i64 100)], argTypes := #[3, 3] }, 3, "", #[], none⟩, [2]), (⟨some 42, Op.slice 34 (Operand.tmp 38) none (some (Operand.tmp 41)) none, 34, "", #[], none⟩, [0, 3]), (⟨some 43, Op.call { callee := Callee.value (Operand.func 13), args := #[Operand.tmp 42], argTypes := #[34] }, 34, "", #[], none⟩, [4]), (⟨some 44, Op.buildSlice 34 1 #[(0, Operand.const (Value.int IntKind.u8 1))], 34, "", #[], none⟩, []), (⟨some 45, Op.call { callee := Callee.builtin Builtin.append, args := #[Operand.tmp 43, Operand.tmp 44], argTypes := #[34, 34] }, 34, "", #[], none⟩, [5, 6, 5]), (⟨some 46, Op.move (Operand.tmp 4), 34, "", #[], none⟩, []), (⟨some 47, Op.move (Operand.tmp 4), 34, "", #[], none⟩, []), (⟨some 48, Op.call { callee := Callee.builtin Builtin.len, args := #[Operand.tmp 47], argTypes := #[34] }, 3, "", #[], none⟩, [9]), (⟨some 49, Op.call { callee := Callee.builtin Builtin.min, args := #[Operand.tmp 48, Operand.const (Value.int IntKind.i64 100)], argTypes := #[3, 3] }, 3, "", #[], none⟩, [10]), (⟨some 50, Op.slice 34 (Operand.tmp 46) none (some (Operand.tmp 49)) none, 34, "", #[], none⟩, [8, 11]), (⟨some 51, Op.call { callee := Callee.value (Operand.func 13), args := #[Operand.tmp 50], argTypes := #[34] }, 34, "", #[], none⟩, [12, 7]), (⟨some 52, Op.buildSlice 34 1 #[(0, Operand.const (Value.int IntKind.u8 2))], 34, "", #[], none⟩, []), (⟨some 53, Op.call { callee := Callee.builtin Builtin.append, args := #[Operand.tmp 51, Operand.tmp 52], argTypes := #[34, 34] }, 34, "", #[], none⟩, [13, 14, 13]), (⟨some 3, Op.assign (Operand.tmp 45), 34, "", #[], none⟩, [7, 15, 0, 1, 2, 3, 4, 5, 6, 7]), (⟨some 4, Op.assign (Operand.tmp 53), 34, "", #[], none⟩, [15, 16, 0, 1, 2, 3, 4, 5, 6, 7, 8, 9, 10, 11, 12, 13, 14, 15, 16])]
def drC (na ca nb cb la lb : Nat) (pa pb : Option Addr) (ya yb : List Nat) (base : Nat) (f : Nat → Value) (df : List Deferred) : Owr := { n := 146, B := drB pa na ca pb nb cb f df, R := fun k => (drK na ca nb cb la lb pa pb ya yb k).R base, D := drD, E := drE, Bl := fun k => (drK na ca nb cb la lb pa pb ya yb k).Bl, U := drU, T := drT }

set_option maxRecDepth 100000 in
theorem dr_s0 {Q : Exit → Act → World → Prop} (na ca nb cb la lb : Nat) (pa pb : Option Addr) (ya yb : List Nat) (base : Nat) (f : Nat → Value) (df : List Deferred) (w0 : World) (hla : min (na : Int) 100 = (la : Int)) (hlb : min (nb : Int) 100 = (lb : Int)) (ra : Rb w0 pa la ya) (rb : Rb w0 pb lb yb) (hca : la ≤ ca ∧ la ≤ 100) (hcb : lb ≤ cb ∧ lb ≤ 100) (hbase : base = w0.heap.size) : (drC na ca nb cb la lb pa pb ya yb base f df).Step Tryz.prog Q w0 0 ⟨some 38, Op.move (Operand.tmp 3), 34, "", #[], none⟩ [] := by
  refine ⟨rfl, rfl, by decide, show drD 0 < 146 by decide, fun j h => ?_, show ∀ j ∈ drU 0, j ∈ ([] : List Nat) by decide, fun L a w hn hL hcl hB hk hd K hK => ?_⟩
  · have h2 : (none : Option Nat) = some j := h
    cases h2
  have hsz := hk.size
  have hq : L 16 = false := by
    cases h : L 16 with
    | false => rfl
    | true =>
      have := hcl 16 _ rfl h 0 (show 0 ∈ ([7, 15, 0, 1, 2, 3, 4, 5, 6, 7] : List Nat) by decide)
      rw [hL] at this
      cases this
  have e : a.eval (.tmp 3) = (.slice pa na ca) := hB.1 hq
  refine owr_eq (X := True) (base := base) rfl rfl ?_ rfl hK
  generalize a.eval = ev at e
  go_simp
set_option maxRecDepth 100000 in
theorem dr_s1 {Q : Exit → Act → World → Prop} (na ca nb cb la lb : Nat) (pa pb : Option Addr) (ya yb : List Nat) (base : Nat) (f : Nat → Value) (df : List Deferred) (w0 : World) (hla : min (na : Int) 100 = (la : Int)) (hlb : min (nb : Int) 100 = (lb : Int)) (ra : Rb w0 pa la ya) (rb : Rb w0 pb lb yb) (hca : la ≤ ca ∧ la ≤ 100) (hcb : lb ≤ cb ∧ lb ≤ 100) (hbase : base = w0.heap.size) : (drC na ca nb cb la lb pa pb ya yb base f df).Step Tryz.prog Q w0 1 ⟨some 39, Op.move (Operand.tmp 3), 34, "", #[], none⟩ [] := by
  refine ⟨rfl, rfl, by decide, show drD 1 < 146 by decide, fun j h => ?_, show ∀ j ∈ drU 1, j ∈ ([] : List Nat) by decide, fun L a w hn hL hcl hB hk hd K hK => ?_⟩
  · have h2 : (none : Option Nat) = some j := h
    cases h2
  have hsz := hk.size
  have hq : L 16 = false := by
    cases h : L 16 with
    | false => rfl
    | true =>
      have := hcl 16 _ rfl h 1 (show 1 ∈ ([7, 15, 0, 1, 2, 3, 4, 5, 6, 7] : List Nat) by decide)
      rw [hL] at this
      cases this
  have e : a.eval (.tmp 3) = (.slice pa na ca) := hB.1 hq
  refine owr_eq (X := True) (base := base) rfl rfl ?_ rfl hK
  generalize a.eval = ev at e
  go_simp
set_option maxRecDepth 100000 in
theorem dr_s2 {Q : Exit → Act → World → Prop} (na ca nb cb la lb : Nat) (pa pb : Option Addr) (ya yb : List Nat) (base : Nat) (f : Nat → Value) (df : List Deferred) (w0 : World) (hla : min (na : Int) 100 = (la : Int)) (hlb : min (nb : Int) 100 = (lb : Int)) (ra : Rb w0 pa la ya) (rb : Rb w0 pb lb yb) (hca : la ≤ ca ∧ la ≤ 100) (hcb : lb ≤ cb ∧ lb ≤ 100) (hbase : base = w0.heap.size) : (drC na ca nb cb la lb pa pb ya yb base f df).Step Tryz.prog Q w0 2 ⟨some 40, Op.call { callee := Callee.builtin Builtin.len, args := #[Operand.tmp 39], argTypes := #[34] }, 3, "", #[], none⟩ [1] := by
  refine ⟨rfl, rfl, by decide, show drD 2 < 146 by decide, fun j h => ?_, show ∀ j ∈ drU 2, j ∈ ([1] : List Nat) by decide, fun L a w hn hL hcl hB hk hd K hK => ?_⟩
  · have h2 : (none : Option Nat) = some j := h
    cases h2
  have hsz := hk.size
  have e : a.eval (.tmp 39) = (.slice pa na ca) := (hd 1 (show 1 ∈ drU 2 by decide)).1
  refine owr_eq (X := True) (base := base) rfl rfl ?_ rfl hK
  generalize a.eval = ev at e
  go_simp
set_option maxRecDepth 100000 in
theorem dr_s3 {Q : Exit → Act → World → Prop} (na ca nb cb la lb : Nat) (pa pb : Option Addr) (ya yb : List Nat) (base : Nat) (f : Nat → Value) (df : List Deferred) (w0 : World) (hla : min (na : Int) 100 = (la : Int)) (hlb : min (nb : Int) 100 = (lb : Int)) (ra : Rb w0 pa la ya) (rb : Rb w0 pb lb yb) (hca : la ≤ ca ∧ la ≤ 100) (hcb : lb ≤ cb ∧ lb ≤ 100) (hbase : base = w0.heap.size) : (drC na ca nb cb la lb pa pb ya yb base f df).Step Tryz.prog Q w0 3 ⟨some 41, Op.call { callee := Callee.builtin Builtin.min, args := #[Operand.tmp 40, Operand.const (Value.int IntKind.i64 100)], argTypes := #[3, 3] }, 3, "", #[], none⟩ [2] := by
  refine ⟨rfl, rfl, by decide, show drD 3 < 146 by decide, fun j h => ?_, show ∀ j ∈ drU 3, j ∈ ([2] : List Nat) by decide, fun L a w hn hL hcl hB hk hd K hK => ?_⟩
  · have h2 : (none : Option Nat) = some j := h
    cases h2
  have hsz := hk.size
  have e : a.eval (.tmp 40) = (.int .i64 (na : Int)) := (hd 2 (show 2 ∈ drU 3 by decide)).1
  have ec : ∀ c, a.eval (.const c) = c := fun c => rfl
  refine owr_eq (X := True) (base := base) (v := .int .i64 (min (na : Int) 100)) rfl rfl ?_ (congrArg (Value.int .i64) hla) hK
  generalize a.eval = ev at e ec
  go_simp
set_option maxRecDepth 100000 in
theorem dr_s4 {Q : Exit → Act → World → Prop} (na ca nb cb la lb : Nat) (pa pb : Option Addr) (ya yb : List Nat) (base : Nat) (f : Nat → Value) (df : List Deferred) (w0 : World) (hla : min (na : Int) 100 = (la : Int)) (hlb : min (nb : Int) 100 = (lb : Int)) (ra : Rb w0 pa la ya) (rb : Rb w0 pb lb yb) (hca : la ≤ ca ∧ la ≤ 100) (hcb : lb ≤ cb ∧ lb ≤ 100) (hbase : base = w0.heap.size) : (drC na ca nb cb la lb pa pb ya yb base f df).Step Tryz.prog Q w0 4 ⟨some 42, Op.slice 34 (Operand.tmp 38) none (some (Operand.tmp 41)) none, 34, "", #[], none⟩ [0, 3] := by
  refine ⟨rfl, rfl, by decide, show drD 4 < 146 by decide, fun j h => ?_, show ∀ j ∈ drU 4, j ∈ ([0, 3] : List Nat) by decide, fun L a w hn hL hcl hB hk hd K hK => ?_⟩
  · have h2 : (none : Option Nat) = some j := h
    cases h2
  have hsz := hk.size
  have e1 : a.eval (.tmp 38) = (.slice pa na ca) := (hd 0 (show 0 ∈ drU 4 by decide)).1
  have e2 : a.eval (.tmp 41) = (.int .i64 (la : Int)) := (hd 3 (show 3 ∈ drU 4 by decide)).1
  have hs := slice_firstO pa na ca la hca.1 w
  refine owr_eq (X := True) (base := base) rfl rfl ?_ rfl hK
  generalize a.eval = ev at e1 e2
  unfold execOp
  simp only [e1, e2, Option.map_some, Option.map_none]
  simp [Instr.sliceAt, run_underlying Tryz.underlying34, hs]
set_option maxRecDepth 100000 in
theorem dr_s5 {Q : Exit → Act → World → Prop} (na ca nb cb la lb : Nat) (pa pb : Option Addr) (ya yb : List Nat) (base : Nat) (f : Nat → Value) (df : List Deferred) (w0 : World) (hla : min (na : Int) 100 = (la : Int)) (hlb : min (nb : Int) 100 = (lb : Int)) (ra : Rb w0 pa la ya) (rb : Rb w0 pb lb yb) (hca : la ≤ ca ∧ la ≤ 100) (hcb : lb ≤ cb ∧ lb ≤ 100) (hbase : base = w0.heap.size) : (drC na ca nb cb la lb pa pb ya yb base f df).Step Tryz.prog Q w0 5 ⟨some 43, Op.call { callee := Callee.value (Operand.func 13), args := #[Operand.tmp 42], argTypes := #[34] }, 34, "", #[], none⟩ [4] := by
  refine ⟨rfl, rfl, by decide, show drD 5 < 146 by decide, fun j h => ?_, show ∀ j ∈ drU 5, j ∈ ([4] : List Nat) by decide, fun L a w hn hL hcl hB hk hd K hK => ?_⟩
  · have h2 : (none : Option Nat) = some j := h
    cases h2
  have hsz := hk.size
  have e : a.eval (.tmp 42) = (.slice pa la ca) := (hd 4 (show 4 ∈ drU 5 by decide)).1
  exact owr_clone rfl pa la ca ya rfl (enter_run _ rfl (by simp only [List.map_toArray, List.map_cons, List.map_nil, e]) (fun _ => by rfl)) (ra.keep0 hk) (by omega) (by omega) hK
set_option maxRecDepth 100000 in
theorem dr_s6 {Q : Exit → Act → World → Prop} (na ca nb cb la lb : Nat) (pa pb : Option Addr) (ya yb : List Nat) (base : Nat) (f : Nat → Value) (df : List Deferred) (w0 : World) (hla : min (na : Int) 100 = (la : Int)) (hlb : min (nb : Int) 100 = (lb : Int)) (ra : Rb w0 pa la ya) (rb : Rb w0 pb lb yb) (hca : la ≤ ca ∧ la ≤ 100) (hcb : lb ≤ cb ∧ lb ≤ 100) (hbase : base = w0.heap.size) : (drC na ca nb cb la lb pa pb ya yb base f df).Step Tryz.prog Q w0 6 ⟨some 44, Op.buildSlice 34 1 #[(0, Operand.const (Value.int IntKind.u8 1))], 34, "", #[], none⟩ [] := by
  refine ⟨rfl, rfl, by decide, show drD 6 < 146 by decide, fun j h => ?_, show ∀ j ∈ drU 6, j ∈ ([] : List Nat) by decide, fun L a w hn hL hcl hB hk hd K hK => ?_⟩
  · have h2 : (none : Option Nat) = some j := h
    cases h2
  have hsz := hk.size
  have ec : ∀ c, a.eval (.const c) = c := fun c => rfl
  refine owr_one rfl 1 rfl ?_ (by omega) hK
  generalize a.eval = ev at ec
  go_simp
set_option maxRecDepth 100000 in
theorem dr_s7 {Q : Exit → Act → World → Prop} (na ca nb cb la lb : Nat) (pa pb : Option Addr) (ya yb : List Nat) (base : Nat) (f : Nat → Value) (df : List Deferred) (w0 : World) (hla : min (na : Int) 100 = (la : Int)) (hlb : min (nb : Int) 100 = (lb : Int)) (ra : Rb w0 pa la ya) (rb : Rb w0 pb lb yb) (hca : la ≤ ca ∧ la ≤ 100) (hcb : lb ≤ cb ∧ lb ≤ 100) (hbase : base = w0.heap.size) : (drC na ca nb cb la lb pa pb ya yb base f df).Step Tryz.prog Q w0 7 ⟨some 45, Op.call { callee := Callee.builtin Builtin.append, args := #[Operand.tmp 43, Operand.tmp 44], argTypes := #[34, 34] }, 34, "", #[], none⟩ [5, 6, 5] := by
  refine ⟨rfl, rfl, by decide, show drD 7 < 146 by decide, fun j h => ?_, show ∀ j ∈ drU 7, j ∈ ([5, 6, 5] : List Nat) by decide, fun L a w hn hL hcl hB hk hd K hK => ?_⟩
  · have h2 : (some 5 : Option Nat) = some j := h
    cases h2
    exact (show 5 ∈ drU 7 by decide)
  have hsz := hk.size
  have h1 := hd 5 (show 5 ∈ drU 7 by decide)
  have h2 := hd 6 (show 6 ∈ drU 7 by decide)
  exact owr_app rfl rfl (.tmp 43) (.tmp 44) rfl ya [1] rfl _ _ rfl rfl h1.1 h2.1 (by decide) (by rw [ra.len]; show _ + 1 ≤ _; omega) (by omega) (fun b hb => ⟨⟨5, rfl, hb⟩, ⟨5, rfl, hb⟩⟩) hK
set_option maxRecDepth 100000 in
theorem dr_s8 {Q : Exit → Act → World → Prop} (na ca nb cb la lb : Nat) (pa pb : Option Addr) (ya yb : List Nat) (base : Nat) (f : Nat → Value) (df : List Deferred) (w0 : World) (hla : min (na : Int) 100 = (la : Int)) (hlb : min (nb : Int) 100 = (lb : Int)) (ra : Rb w0 pa la ya) (rb : Rb w0 pb lb yb) (hca : la ≤ ca ∧ la ≤ 100) (hcb : lb ≤ cb ∧ lb ≤ 100) (hbase : base = w0.heap.size) : (drC na ca nb cb la lb pa pb ya yb base f df).Step Tryz.prog Q w0 8 ⟨some 46, Op.move (Operand.tmp 4), 34, "", #[], none⟩ [] := by
  refine ⟨rfl, rfl, by decide, show drD 8 < 146 by decide, fun j h => ?_, show ∀ j ∈ drU 8, j ∈ ([] : List Nat) by decide, fun L a w hn hL hcl hB hk hd K hK => ?_⟩
  · have h2 : (none : Option Nat) = some j := h
    cases h2
  have hsz := hk.size
  have hq : L 17 = false := by
    cases h : L 17 with
    | false => rfl
    | true =>
      have := hcl 17 _ rfl h 8 (show 8 ∈ ([15, 16, 0, 1, 2, 3, 4, 5, 6, 7, 8, 9, 10, 11, 12, 13, 14, 15, 16] : List Nat) by decide)
      rw [hL] at this
      cases this
  have e : a.eval (.tmp 4) = (.slice pb nb cb) := hB.2.1 hq
  refine owr_eq (X := True) (base := base) rfl rfl ?_ rfl hK
  generalize a.eval = ev at e
  go_simp
set_option maxRecDepth 100000 in
theorem dr_s9 {Q : Exit → Act → World → Prop} (na ca nb cb la lb : Nat) (pa pb : Option Addr) (ya yb : List Nat) (base : Nat) (f : Nat → Value) (df : List Deferred) (w0 : World) (hla : min (na : Int) 100 = (la : Int)) (hlb : min (nb : Int) 100 = (lb : Int)) (ra : Rb w0 pa la ya) (rb : Rb w0 pb lb yb) (hca : la ≤ ca ∧ la ≤ 100) (hcb : lb ≤ cb ∧ lb ≤ 100) (hbase : base = w0.heap.size) : (drC na ca nb cb la lb pa pb ya yb base f df).Step Tryz.prog Q w0 9 ⟨some 47, Op.move (Operand.tmp 4), 34, "", #[], none⟩ [] := by
  refine ⟨rfl, rfl, by decide, show drD 9 < 146 by decide, fun j h => ?_, show ∀ j ∈ drU 9, j ∈ ([] : List Nat) by decide, fun L a w hn hL hcl hB hk hd K hK => ?_⟩
  · have h2 : (none : Option Nat) = some j := h
    cases h2
  have hsz := hk.size
  have hq : L 17 = false := by
    cases h : L 17 with
    | false => rfl
    | true =>
      have := hcl 17 _ rfl h 9 (show 9 ∈ ([15, 16, 0, 1, 2, 3, 4, 5, 6, 7, 8, 9, 10, 11, 12, 13, 14, 15, 16] : List Nat) by decide)
      rw [hL] at this
      cases this
  have e : a.eval (.tmp 4) = (.slice pb nb cb) := hB.2.1 hq
  refine owr_eq (X := True) (base := base) rfl rfl ?_ rfl hK
  generalize a.eval = ev at e
  go_simp
set_option maxRecDepth 100000 in
theorem dr_s10 {Q : Exit → Act → World → Prop} (na ca nb cb la lb : Nat) (pa pb : Option Addr) (ya yb : List Nat) (base : Nat) (f : Nat → Value) (df : List Deferred) (w0 : World) (hla : min (na : Int) 100 = (la : Int)) (hlb : min (nb : Int) 100 = (lb : Int)) (ra : Rb w0 pa la ya) (rb : Rb w0 pb lb yb) (hca : la ≤ ca ∧ la ≤ 100) (hcb : lb ≤ cb ∧ lb ≤ 100) (hbase : base = w0.heap.size) : (drC na ca nb cb la lb pa pb ya yb base f df).Step Tryz.prog Q w0 10 ⟨some 48, Op.call { callee := Callee.builtin Builtin.len, args := #[Operand.tmp 47], argTypes := #[34] }, 3, "", #[], none⟩ [9] := by
  refine ⟨rfl, rfl, by decide, show drD 10 < 146 by decide, fun j h => ?_, show ∀ j ∈ drU 10, j ∈ ([9] : List Nat) by decide, fun L a w hn hL hcl hB hk hd K hK => ?_⟩
  · have h2 : (none : Option Nat) = some j := h
    cases h2
  have hsz := hk.size
  have e : a.eval (.tmp 47) = (.slice pb nb cb) := (hd 9 (show 9 ∈ drU 10 by decide)).1
  refine owr_eq (X := True) (base := base) rfl rfl ?_ rfl hK
  generalize a.eval = ev at e
  go_simp
set_option maxRecDepth 100000 in
theorem dr_s11 {Q : Exit → Act → World → Prop} (na ca nb cb la lb : Nat) (pa pb : Option Addr) (ya yb : List Nat) (base : Nat) (f : Nat → Value) (df : List Deferred) (w0 : World) (hla : min (na : Int) 100 = (la : Int)) (hlb : min (nb : Int) 100 = (lb : Int)) (ra : Rb w0 pa la ya) (rb : Rb w0 pb lb yb) (hca : la ≤ ca ∧ la ≤ 100) (hcb : lb ≤ cb ∧ lb ≤ 100) (hbase : base = w0.heap.size) : (drC na ca nb cb la lb pa pb ya yb base f df).Step Tryz.prog Q w0 11 ⟨some 49, Op.call { callee := Callee.builtin Builtin.min, args := #[Operand.tmp 48, Operand.const (Value.int IntKind.i64 100)], argTypes := #[3, 3] }, 3, "", #[], none⟩ [10] := by
  refine ⟨rfl, rfl, by decide, show drD 11 < 146 by decide, fun j h => ?_, show ∀ j ∈ drU 11, j ∈ ([10] : List Nat) by decide, fun L a w hn hL hcl hB hk hd K hK => ?_⟩
  · have h2 : (none : Option Nat) = some j := h
    cases h2
  have hsz := hk.size
  have e : a.eval (.tmp 48) = (.int .i64 (nb : Int)) := (hd 10 (show 10 ∈ drU 11 by decide)).1
  have ec : ∀ c, a.eval (.const c) = c := fun c => rfl
  refine owr_eq (X := True) (base := base) (v := .int .i64 (min (nb : Int) 100)) rfl rfl ?_ (congrArg (Value.int .i64) hlb) hK
  generalize a.eval = ev at e ec
  go_simp
set_option maxRecDepth 100000 in
theorem dr_s12 {Q : Exit → Act → World → Prop} (na ca nb cb la lb : Nat) (pa pb : Option Addr) (ya yb : List Nat) (base : Nat) (f : Nat → Value) (df : List Deferred) (w0 : World) (hla : min (na : Int) 100 = (la : Int)) (hlb : min (nb : Int) 100 = (lb : Int)) (ra : Rb w0 pa la ya) (rb : Rb w0 pb lb yb) (hca : la ≤ ca ∧ la ≤ 100) (hcb : lb ≤ cb ∧ lb ≤ 100) (hbase : base = w0.heap.size) : (drC na ca nb cb la lb pa pb ya yb base f df).Step Tryz.prog Q w0 12 ⟨some 50, Op.slice 34 (Operand.tmp 46) none (some (Operand.tmp 49)) none, 34, "", #[], none⟩ [8, 11] := by
  refine ⟨rfl, rfl, by decide, show drD 12 < 146 by decide, fun j h => ?_, show ∀ j ∈ drU 12, j ∈ ([8, 11] : List Nat) by decide, fun L a w hn hL hcl hB hk hd K hK => ?_⟩
  · have h2 : (none : Option Nat) = some j := h
    cases h2
  have hsz := hk.size
  have e1 : a.eval (.tmp 46) = (.slice pb nb cb) := (hd 8 (show 8 ∈ drU 12 by decide)).1
  have e2 : a.eval (.tmp 49) = (.int .i64 (lb : Int)) := (hd 11 (show 11 ∈ drU 12 by decide)).1
  have hs := slice_firstO pb nb cb lb hcb.1 w
  refine owr_eq (X := True) (base := base) rfl rfl ?_ rfl hK
  generalize a.eval = ev at e1 e2
  unfold execOp
  simp only [e1, e2, Option.map_some, Option.map_none]
  simp [Instr.sliceAt, run_underlying Tryz.underlying34, hs]
set_option maxRecDepth 100000 in
theorem dr_s13 {Q : Exit → Act → World → Prop} (na ca nb cb la lb : Nat) (pa pb : Option Addr) (ya yb : List Nat) (base : Nat) (f : Nat → Value) (df : List Deferred) (w0 : World) (hla : min (na : Int) 100 = (la : Int)) (hlb : min (nb : Int) 100 = (lb : Int)) (ra : Rb w0 pa la ya) (rb : Rb w0 pb lb yb) (hca : la ≤ ca ∧ la ≤ 100) (hcb : lb ≤ cb ∧ lb ≤ 100) (hbase : base = w0.heap.size) : (drC na ca nb cb la lb pa pb ya yb base f df).Step Tryz.prog Q w0 13 ⟨some 51, Op.call { callee := Callee.value (Operand.func 13), args := #[Operand.tmp 50], argTypes := #[34] }, 34, "", #[], none⟩ [12, 7] := by
  refine ⟨rfl, rfl, by decide, show drD 13 < 146 by decide, fun j h => ?_, show ∀ j ∈ drU 13, j ∈ ([12, 7] : List Nat) by decide, fun L a w hn hL hcl hB hk hd K hK => ?_⟩
  · have h2 : (none : Option Nat) = some j := h
    cases h2
  have hsz := hk.size
  have e : a.eval (.tmp 50) = (.slice pb lb cb) := (hd 12 (show 12 ∈ drU 13 by decide)).1
  exact owr_clone rfl pb lb cb yb rfl (enter_run _ rfl (by simp only [List.map_toArray, List.map_cons, List.map_nil, e]) (fun _ => by rfl)) (rb.keep0 hk) (by omega) (by omega) hK
set_option maxRecDepth 100000 in
theorem dr_s14 {Q : Exit → Act → World → Prop} (na ca nb cb la lb : Nat) (pa pb : Option Addr) (ya yb : List Nat) (base : Nat) (f : Nat → Value) (df : List Deferred) (w0 : World) (hla : min (na : Int) 100 = (la : Int)) (hlb : min (nb : Int) 100 = (lb : Int)) (ra : Rb w0 pa la ya) (rb : Rb w0 pb lb yb) (hca : la ≤ ca ∧ la ≤ 100) (hcb : lb ≤ cb ∧ lb ≤ 100) (hbase : base = w0.heap.size) : (drC na ca nb cb la lb pa pb ya yb base f df).Step Tryz.prog Q w0 14 ⟨some 52, Op.buildSlice 34 1 #[(0, Operand.const (Value.int IntKind.u8 2))], 34, "", #[], none⟩ [] := by
  refine ⟨rfl, rfl, by decide, show drD 14 < 146 by decide, fun j h => ?_, show ∀ j ∈ drU 14, j ∈ ([] : List Nat) by decide, fun L a w hn hL hcl hB hk hd K hK => ?_⟩
  · have h2 : (none : Option Nat) = some j := h
    cases h2
  have hsz := hk.size
  have ec : ∀ c, a.eval (.const c) = c := fun c => rfl
  refine owr_one rfl 2 rfl ?_ (by omega) hK
  generalize a.eval = ev at ec
  go_simp
set_option maxRecDepth 100000 in
theorem dr_s15 {Q : Exit → Act → World → Prop} (na ca nb cb la lb : Nat) (pa pb : Option Addr) (ya yb : List Nat) (base : Nat) (f : Nat → Value) (df : List Deferred) (w0 : World) (hla : min (na : Int) 100 = (la : Int)) (hlb : min (nb : Int) 100 = (lb : Int)) (ra : Rb w0 pa la ya) (rb : Rb w0 pb lb yb) (hca : la ≤ ca ∧ la ≤ 100) (hcb : lb ≤ cb ∧ lb ≤ 100) (hbase : base = w0.heap.size) : (drC na ca nb cb la lb pa pb ya yb base f df).Step Tryz.prog Q w0 15 ⟨some 53, Op.call { callee := Callee.builtin Builtin.append, args := #[Operand.tmp 51, Operand.tmp 52], argTypes := #[34, 34] }, 34, "", #[], none⟩ [13, 14, 13] := by
  refine ⟨rfl, rfl, by decide, show drD 15 < 146 by decide, fun j h => ?_, show ∀ j ∈ drU 15, j ∈ ([13, 14, 13] : List Nat) by decide, fun L a w hn hL hcl hB hk hd K hK => ?_⟩
  · have h2 : (some 13 : Option Nat) = some j := h
    cases h2
    exact (show 13 ∈ drU 15 by decide)
  have hsz := hk.size
  have h1 := hd 13 (show 13 ∈ drU 15 by decide)
  have h2 := hd 14 (show 14 ∈ drU 15 by decide)
  exact owr_app rfl rfl (.tmp 51) (.tmp 52) rfl yb [2] rfl _ _ rfl rfl h1.1 h2.1 (by decide) (by rw [rb.len]; show _ + 1 ≤ _; omega) (by omega) (fun b hb => ⟨⟨13, rfl, hb⟩, ⟨13, rfl, hb⟩⟩) hK
set_option maxRecDepth 100000 in
theorem dr_s16 {Q : Exit → Act → World → Prop} (na ca nb cb la lb : Nat) (pa pb : Option Addr) (ya yb : List Nat) (base : Nat) (f : Nat → Value) (df : List Deferred) (w0 : World) (hla : min (na : Int) 100 = (la : Int)) (hlb : min (nb : Int) 100 = (lb : Int)) (ra : Rb w0 pa la ya) (rb : Rb w0 pb lb yb) (hca : la ≤ ca ∧ la ≤ 100) (hcb : lb ≤ cb ∧ lb ≤ 100) (hbase : base = w0.heap.size) : (drC na ca nb cb la lb pa pb ya yb base f df).Step Tryz.prog Q w0 16 ⟨some 3, Op.assign (Operand.tmp 45), 34, "", #[], none⟩ [7, 15, 0, 1, 2, 3, 4, 5, 6, 7] := by
  refine ⟨rfl, rfl, by decide, show drD 16 < 146 by decide, fun j h => ?_, show ∀ j ∈ drU 16, j ∈ ([7, 15, 0, 1, 2, 3, 4, 5, 6, 7] : List Nat) by decide, fun L a w hn hL hcl hB hk hd K hK => ?_⟩
  · have h2 : (some 7 : Option Nat) = some j := h
    cases h2
    exact (show 7 ∈ drU 16 by decide)
  have hsz := hk.size
  have h1 := hd 7 (show 7 ∈ drU 16 by decide)
  refine owr_move rfl _ rfl (a.eval (.tmp 45)) ?_ h1.1 (fun b hb => ⟨7, rfl, hb⟩) hK
  generalize a.eval = ev
  go_simp
set_option maxRecDepth 100000 in
theorem dr_s17 {Q : Exit → Act → World → Prop} (na ca nb cb la lb : Nat) (pa pb : Option Addr) (ya yb : List Nat) (base : Nat) (f : Nat → Value) (df : List Deferred) (w0 : World) (hla : min (na : Int) 100 = (la : Int)) (hlb : min (nb : Int) 100 = (lb : Int)) (ra : Rb w0 pa la ya) (rb : Rb w0 pb lb yb) (hca : la ≤ ca ∧ la ≤ 100) (hcb : lb ≤ cb ∧ lb ≤ 100) (hbase : base = w0.heap.size) : (drC na ca nb cb la lb pa pb ya yb base f df).Step Tryz.prog Q w0 17 ⟨some 4, Op.assign (Operand.tmp 53), 34, "", #[], none⟩ [15, 16, 0, 1, 2, 3, 4, 5, 6, 7, 8, 9, 10, 11, 12, 13, 14, 15, 16] := by
  refine ⟨rfl, rfl, by decide, show drD 17 < 146 by decide, fun j h => ?_, show ∀ j ∈ drU 17, j ∈ ([15, 16, 0, 1, 2, 3, 4, 5, 6, 7, 8, 9, 10, 11, 12, 13, 14, 15, 16] : List Nat) by decide, fun L a w hn hL hcl hB hk hd K hK => ?_⟩
  · have h2 : (some 15 : Option Nat) = some j := h
    cases h2
    exact (show 15 ∈ drU 17 by decide)
  have hsz := hk.size
  have h1 := hd 15 (show 15 ∈ drU 17 by decide)
  refine owr_move rfl _ rfl (a.eval (.tmp 53)) ?_ h1.1 (fun b hb => ⟨15, rfl, hb⟩) hK
  generalize a.eval = ev
  go_simp
theorem dr_steps {Q : Exit → Act → World → Prop} (na ca nb cb la lb : Nat) (pa pb : Option Addr) (ya yb : List Nat) (base : Nat) (f : Nat → Value) (df : List Deferred) (w0 : World) (hla : min (na : Int) 100 = (la : Int)) (hlb : min (nb : Int) 100 = (lb : Int)) (ra : Rb w0 pa la ya) (rb : Rb w0 pb lb yb) (hca : la ≤ ca ∧ la ≤ 100) (hcb : lb ≤ cb ∧ lb ≤ 100) (hbase : base = w0.heap.size) : (drC na ca nb cb la lb pa pb ya yb base f df).Steps Tryz.prog Q w0 0 drT := ⟨dr_s0 na ca nb cb la lb pa pb ya yb base f df w0 hla hlb ra rb hca hcb hbase, dr_s1 na ca nb cb la lb pa pb ya yb base f df w0 hla hlb ra rb hca hcb hbase, dr_s2 na ca nb cb la lb pa pb ya yb base f df w0 hla hlb ra rb hca hcb hbase, dr_s3 na ca nb cb la lb pa pb ya yb base f df w0 hla hlb ra rb hca hcb hbase, dr_s4 na ca nb cb la lb pa pb ya yb base f df w0 hla hlb ra rb hca hcb hbase, dr_s5 na ca nb cb la lb pa pb ya yb base f df w0 hla hlb ra rb hca hcb hbase, dr_s6 na ca nb cb la lb pa pb ya yb base f df w0 hla hlb ra rb hca hcb hbase, dr_s7 na ca nb cb la lb pa pb ya yb base f df w0 hla hlb ra rb hca hcb hbase, dr_s8 na ca nb cb la lb pa pb ya yb base f df w0 hla hlb ra rb hca hcb hbase, dr_s9 na ca nb cb la lb pa pb ya yb base f df w0 hla hlb ra rb hca hcb hbase, dr_s10 na ca nb cb la lb pa pb ya yb base f df w0 hla hlb ra rb hca hcb hbase, dr_s11 na ca nb cb la lb pa pb ya yb base f df w0 hla hlb ra rb hca hcb hbase, dr_s12 na ca nb cb la lb pa pb ya yb base f df w0 hla hlb ra rb hca hcb hbase, dr_s13 na ca nb cb la lb pa pb ya yb base f df w0 hla hlb ra rb hca hcb hbase, dr_s14 na ca nb cb la lb pa pb ya yb base f df w0 hla hlb ra rb hca hcb hbase, dr_s15 na ca nb cb la lb pa pb ya yb base f df w0 hla hlb ra rb hca hcb hbase, dr_s16 na ca nb cb la lb pa pb ya yb base f df w0 hla hlb ra rb hca hcb hbase, dr_s17 na ca nb cb la lb pa pb ya yb base f df w0 hla hlb ra rb hca hcb hbase, trivial⟩
set_option maxRecDepth 100000 in
/-- the region as a whole -/
theorem dr_region {ops : Array Oper} {Q : Exit → Act → World → Prop} (hT : ops.toList.map (fun o => (bare o, deps o)) = drT) {id : Nat} {a0 : Act} {y : World} (na ca nb cb la lb : Nat) (pa pb : Option Addr) (ya yb : List Nat)
    (hn : a0.tmps.size = 146) (h3 : a0.eval (.tmp 3) = .slice pa na ca) (h4 : a0.eval (.tmp 4) = .slice pb nb cb) (hla : min (na : Int) 100 = (la : Int)) (hlb : min (nb : Int) 100 = (lb : Int)) (ra : Rb y pa la ya) (rb : Rb y pb lb yb) (hca : la ≤ ca ∧ la ≤ 100) (hcb : lb ≤ cb ∧ lb ≤ 100)
    (hend : ∀ q38 q39 q40 q41 q42 q43 q44 q45 q46 q47 q48 q49 q50 q51 q52 q53 q3 q4 w, Kp (fun _ => False) y w → Ow w y.heap.size q3 (ya ++ [1]) → Ow w y.heap.size q4 (yb ++ [2]) → Q .normal ((((((((((((((((((a0.put (some 38) q38).put (some 39) q39).put (some 40) q40).put (some 41) q41).put (some 42) q42).put (some 43) q43).put (some 44) q44).put (some 45) q45).put (some 46) q46).put (some 47) q47).put (some 48) q48).put (some 49) q49).put (some 50) q50).put (some 51) q51).put (some 52) q52).put (some 53) q53).put (some 3) q3).put (some 4) q4) w) :
    (Code.region id ops true).wp Tryz.prog Q a0 y := by
  have kd : Kp (fun _ => False) y y.drew := (Kp.refl _ _).drew
  have kx : (drC na ca nb cb la lb pa pb ya yb y.heap.size (fun t => a0.eval (.tmp t)) a0.defers).Steps Tryz.prog Q y.drew 0 drT := dr_steps na ca nb cb la lb pa pb ya yb y.heap.size (fun t => a0.eval (.tmp t)) a0.defers y.drew hla hlb (ra.keep0 kd) (rb.keep0 kd) hca hcb rfl
  refine own_region (drC na ca nb cb la lb pa pb ya yb y.heap.size (fun t => a0.eval (.tmp t)) a0.defers) (by kernel_rfl) hT hn ⟨fun _ => h3, fun _ => h4, fun _ _ => rfl, rfl⟩ (fun k v a L hk _ h => drB_put _ _ _ _ _ _ _ _ k v a L hk h) (fun i j h1 h2 => drDi i h1 j h2) (fun k k' h1 h2 j he hu => drEU k h1 k' h2 j hu he)
    (fun i v w w' S h k hS => Kd.keep h k hS) kx (fun L a w h1 h2 h3 h4 => ?_)
  obtain ⟨_, _, hfr, bd⟩ := h2
  have e := act_puts a drL a0 (h1.trans hn.symm) bd hfr
  rw [e]
  exact hend (a.eval (.tmp 38)) (a.eval (.tmp 39)) (a.eval (.tmp 40)) (a.eval (.tmp 41)) (a.eval (.tmp 42)) (a.eval (.tmp 43)) (a.eval (.tmp 44)) (a.eval (.tmp 45)) (a.eval (.tmp 46)) (a.eval (.tmp 47)) (a.eval (.tmp 48)) (a.eval (.tmp 49)) (a.eval (.tmp 50)) (a.eval (.tmp 51)) (a.eval (.tmp 52)) (a.eval (.tmp 53)) (a.eval (.tmp 3)) (a.eval (.tmp 4)) w (kd.trans h3 (fun _ _ e => e)) (h4 16 (show 16 < drT.length by decide) drE16).1 (h4 17 (show 17 < drT.length by decide) drE17).1
end Go.Proofs.YtmooddbhcccicaaGreatDoor
