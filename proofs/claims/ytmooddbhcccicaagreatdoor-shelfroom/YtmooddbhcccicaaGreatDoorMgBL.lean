/- Texts of this proof, joined: Iv, Iw, Jrw. -/
import Derived.Test.YtmooddbhcccicaaGreatDoorMgBK
import Derived.Test.YtmooddbhcccicaaGreatDoorMgBF
import Derived.Test.YtmooddbhcccicaaGreatDoorMgBJ
/- ShelfDrops' drawn region (laid by scripts/mkiv.py). -/
namespace Go.Proofs.YtmooddbhcccicaaGreatDoor
set_option linter.unusedVariables false
set_option linter.unusedSimpArgs false
open Go.RowKit Go.Deep

def drK (na ca nb cb la lb : Nat) (pa pb : Option Addr) (ya yb : List Nat) : Nat → Kd
  | 0 => .eq (.slice pa na ca)
  | 1 => .eq (.slice pa na ca)
  | 2 => .eq (.int .i64 (na : Int))
  | 3 => .eq (.int .i64 (la : Int))
  | 4 => .eq (.slice pa la ca)
  | 5 => .ow ya
  | 6 => .ow [1]
  | 7 => .ow (ya ++ [1])
  | 8 => .eq (.slice pb nb cb)
  | 9 => .eq (.slice pb nb cb)
  | 10 => .eq (.int .i64 (nb : Int))
  | 11 => .eq (.int .i64 (lb : Int))
  | 12 => .eq (.slice pb lb cb)
  | 13 => .ow yb
  | 14 => .ow [2]
  | 15 => .ow (yb ++ [2])
  | 16 => .ow (ya ++ [1])
  | 17 => .ow (yb ++ [2])
  | _ => .eq undef
def drL : List Nat := [38, 39, 40, 41, 42, 43, 44, 45, 46, 47, 48, 49, 50, 51, 52, 53, 3, 4]
def drD (k : Nat) : Nat := drL.getD k 0
def drE : Nat → Option Nat
  | 7 => some 5
  | 15 => some 13
  | 16 => some 7
  | 17 => some 15
  | _ => none
def drU : Nat → List Nat
  | 2 => [1]
  | 3 => [2]
  | 4 => [0, 3]
  | 5 => [4]
  | 7 => [5, 6]
  | 10 => [9]
  | 11 => [10]
  | 12 => [8, 11]
  | 13 => [12]
  | 15 => [13, 14]
  | 16 => [7]
  | 17 => [15]
  | _ => []
def drB (pa : Option Addr) (na ca : Nat) (pb : Option Addr) (nb cb : Nat) (f : Nat → Value) (df : List Deferred) (L : Nat → Bool) (a : Act) : Prop := (L 16 = false → a.eval (.tmp 3) = .slice pa na ca) ∧ (L 17 = false → a.eval (.tmp 4) = .slice pb nb cb) ∧ (∀ t, t ∉ drL → a.eval (.tmp t) = f t) ∧ a.defers = df
theorem drD3 : ∀ k, k < 18 → k ≠ 16 → drD k ≠ 3 := by decide
theorem drD4 : ∀ k, k < 18 → k ≠ 17 → drD k ≠ 4 := by decide
theorem drDn : ∀ k, k < 18 → drD k ∈ drL := by decide
theorem drDi : ∀ i, i < 18 → ∀ j, j < 18 → drD i = drD j → i = j := by decide
set_option maxRecDepth 100000 in
theorem drEU : ∀ k, k < 18 → ∀ k', k' < 18 → ∀ j ∈ drU k', drE k = some j → k' = k := by decide
theorem drE16 : ∀ k, k < 18 → drE k ≠ some 16 := by decide
theorem drE17 : ∀ k, k < 18 → drE k ≠ some 17 := by decide
theorem put_ne {a : Act} {d t : Nat} {v : Value} (h : d ≠ t) : (a.put (some d) v).eval (.tmp t) = a.eval (.tmp t) := by
  show (a.tmps.setIfInBounds d v).getD t undef = a.tmps.getD t undef
  simp [Array.getElem?_setIfInBounds_ne h]
theorem drB_put (pa : Option Addr) (na ca : Nat) (pb : Option Addr) (nb cb : Nat) (f : Nat → Value) (df : List Deferred) (k : Nat) (v : Value) (a : Act) (L : Nat → Bool) (hk : k < 18) (h : drB pa na ca pb nb cb f df L a) : drB pa na ca pb nb cb f df (fun i => if i = k then true else L i) (a.put (some (drD k)) v) := by
  obtain ⟨h3, h4, h0, hd⟩ := h
  refine ⟨fun hl => ?_, fun hl => ?_, fun t ht => by rw [put_ne (fun e : drD k = t => ht (e ▸ drDn k hk))]; exact h0 t ht, hd⟩
  · by_cases e : 16 = k
    · dsimp only at hl
      rw [if_pos e] at hl; cases hl
    · dsimp only at hl
      rw [if_neg e] at hl
      rw [put_ne (drD3 k hk (fun h => e h.symm))]
      exact h3 hl
  · by_cases e : 17 = k
    · dsimp only at hl
      rw [if_pos e] at hl; cases hl
    · dsimp only at hl
      rw [if_neg e] at hl
      rw [put_ne (drD4 k hk (fun h => e h.symm))]
      exact h4 hl
def drT : List (Oper × List Nat) := [(⟨some 38, Op.move (Operand.tmp 3), 34, "", #[], none⟩, []), (⟨some 39, Op.move (Operand.tmp 3), 34, "", #[], none⟩, []), (⟨some 40, Op.call { callee := Callee.builtin Builtin.len, args := #[Operand.tmp 39], argTypes := #[34] }, 3, "", #[], none⟩, [1]), (⟨some 41, Op.call { callee := Callee.builtin Builtin.min, args := #[Operand.tmp 40, Operand.const (Value.int IntKind.i64 100)], argTypes := #[3, 3] }, 3, "", #[], none⟩, [2]), (⟨some 42, Op.slice 34 (Operand.tmp 38) none (some (Operand.tmp 41)) none, 34, "", #[], none⟩, [0, 3]), (⟨some 43, Op.call { callee := Callee.value (Operand.func 13), args := #[Operand.tmp 42], argTypes := #[34] }, 34, "", #[], none⟩, [4]), (⟨some 44, Op.buildSlice 34 1 #[(0, Operand.const (Value.int IntKind.u8 1))], 34, "", #[], none⟩, []), (⟨some 45, Op.call { callee := Callee.builtin Builtin.append, args := #[Operand.tmp 43, Operand.tmp 44], argTypes := #[34, 34] }, 34, "", #[], none⟩, [5, 6, 5]), (⟨some 46, Op.move (Operand.tmp 4), 34, "", #[], none⟩, []), (⟨some 47, Op.move (Operand.tmp 4), 34, "", #[], none⟩, []), (⟨some 48, Op.call { callee := Callee.builtin Builtin.len, args := #[Operand.tmp 47], argTypes := #[34] }, 3, "", #[], none⟩, [9]), (⟨some 49, Op.call { callee := Callee.builtin Builtin.min, args := #[Operand.tmp 48, Operand.const (Value.int IntKind.i64 100)], argTypes := #[3, 3] }, 3, "", #[], none⟩, [10]), (⟨some 50, Op.slice 34 (Operand.tmp 46) none (some (Operand.tmp 49)) none, 34, "", #[], none⟩, [8, 11]), (⟨some 51, Op.call { callee := Callee.value (Operand.func 13), args := #[Operand.tmp 50], argTypes := #[34] }, 34, "", #[], none⟩, [12, 7]), (⟨some 52, Op.buildSlice 34 1 #[(0, Operand.const (Value.int IntKind.u8 2))], 34, "", #[], none⟩, []), (⟨some 53, Op.call { callee := Callee.builtin Builtin.append, args := #[Operand.tmp 51, Operand.tmp 52], argTypes := #[34, 34] }, 34, "", #[], none⟩, [13, 14, 13]), (⟨some 3, Op.assign (Operand.tmp 45), 34, "", #[], none⟩, [7, 15, 0, 1, 2, 3, 4, 5, 6, 7]), (⟨some 4, Op.assign (Operand.tmp 53), 34, "", #[], none⟩, [15, 16, 0, 1, 2, 3, 4, 5, 6, 7, 8, 9, 10, 11, 12, 13, 14, 15, 16])]
def drC (na ca nb cb la lb : Nat) (pa pb : Option Addr) (ya yb : List Nat) (base : Nat) (f : Nat → Value) (df : List Deferred) : Owr := { n := 146, B := drB pa na ca pb nb cb f df, R := fun k => (drK na ca nb cb la lb pa pb ya yb k).R base, D := drD, E := drE, Bl := fun k => (drK na ca nb cb la lb pa pb ya yb k).Bl, U := drU, T := drT }

set_option maxRecDepth 100000 in
theorem dr_s0 {Q : Exit → Act → World → Prop} (na ca nb cb la lb : Nat) (pa pb : Option Addr) (ya yb : List Nat) (base : Nat) (f : Nat → Value) (df : List Deferred) (w0 : World) (hla : min (na : Int) 100 = (la : Int)) (hlb : min (nb : Int) 100 = (lb : Int)) (ra : Rb w0 pa la ya) (rb : Rb w0 pb lb yb) (hca : la ≤ ca ∧ la ≤ 100) (hcb : lb ≤ cb ∧ lb ≤ 100) (hbase : base = w0.heap.size) : (drC na ca nb cb la lb pa pb ya yb base f df).Step Tryz.prog Q w0 0 ⟨some 38, Op.move (Operand.tmp 3), 34, "", #[], none⟩ [] := by
  refine ⟨rfl, rfl, by decide, show drD 0 < 146 by decide, fun j h => ?_, show ∀ j ∈ drU 0, j ∈ ([] : List Nat) by decide, fun L a w hn hL hcl hB hk hd K hK => ?_⟩
  · have h2 : (none : Option Nat) = some j := h
    cases h2
  have hsz := hk.size
  have hq : L 16 = false := by
    cases h : L 16 with
    | false => rfl
    | true =>
      have := hcl 16 _ rfl h 0 (show 0 ∈ ([7, 15, 0, 1, 2, 3, 4, 5, 6, 7] : List Nat) by decide)
      rw [hL] at this
      cases this
  have e : a.eval (.tmp 3) = (.slice pa na ca) := hB.1 hq
  refine owr_eq (X := True) (base := base) rfl rfl ?_ rfl hK
  generalize a.eval = ev at e
  go_simp
set_option maxRecDepth 100000 in
theorem dr_s1 {Q : Exit → Act → World → Prop} (na ca nb cb la lb : Nat) (pa pb : Option Addr) (ya yb : List Nat) (base : Nat) (f : Nat → Value) (df : List Deferred) (w0 : World) (hla : min (na : Int) 100 = (la : Int)) (hlb : min (nb : Int) 100 = (lb : Int)) (ra : Rb w0 pa la ya) (rb : Rb w0 pb lb yb) (hca : la ≤ ca ∧ la ≤ 100) (hcb : lb ≤ cb ∧ lb ≤ 100) (hbase : base = w0.heap.size) : (drC na ca nb cb la lb pa pb ya yb base f df).Step Tryz.prog Q w0 1 ⟨some 39, Op.move (Operand.tmp 3), 34, "", #[], none⟩ [] := by
  refine ⟨rfl, rfl, by decide, show drD 1 < 146 by decide, fun j h => ?_, show ∀ j ∈ drU 1, j ∈ ([] : List Nat) by decide, fun L a w hn hL hcl hB hk hd K hK => ?_⟩
  · have h2 : (none : Option Nat) = some j := h
    cases h2
  have hsz := hk.size
  have hq : L 16 = false := by
    cases h : L 16 with
    | false => rfl
    | true =>
      have := hcl 16 _ rfl h 1 (show 1 ∈ ([7, 15, 0, 1, 2, 3, 4, 5, 6, 7] : List Nat) by decide)
      rw [hL] at this
      cases this
  have e : a.eval (.tmp 3) = (.slice pa na ca) := hB.1 hq
  refine owr_eq (X := True) (base := base) rfl rfl ?_ rfl hK
  generalize a.eval = ev at e
  go_simp
set_option maxRecDepth 100000 in
theorem dr_s2 {Q : Exit → Act → World → Prop} (na ca nb cb la lb : Nat) (pa pb : Option Addr) (ya yb : List Nat) (base : Nat) (f : Nat → Value) (df : List Deferred) (w0 : World) (hla : min (na : Int) 100 = (la : Int)) (hlb : min (nb : Int) 100 = (lb : Int)) (ra : Rb w0 pa la ya) (rb : Rb w0 pb lb yb) (hca : la ≤ ca ∧ la ≤ 100) (hcb : lb ≤ cb ∧ lb ≤ 100) (hbase : base = w0.heap.size) : (drC na ca nb cb la lb pa pb ya yb base f df).Step Tryz.prog Q w0 2 ⟨some 40, Op.call { callee := Callee.builtin Builtin.len, args := #[Operand.tmp 39], argTypes := #[34] }, 3, "", #[], none⟩ [1] := by
  refine ⟨rfl, rfl, by decide, show drD 2 < 146 by decide, fun j h => ?_, show ∀ j ∈ drU 2, j ∈ ([1] : List Nat) by decide, fun L a w hn hL hcl hB hk hd K hK => ?_⟩
  · have h2 : (none : Option Nat) = some j := h
    cases h2
  have hsz := hk.size
  have e : a.eval (.tmp 39) = (.slice pa na ca) := (hd 1 (show 1 ∈ drU 2 by decide)).1
  refine owr_eq (X := True) (base := base) rfl rfl ?_ rfl hK
  generalize a.eval = ev at e
  go_simp
set_option maxRecDepth 100000 in
theorem dr_s3 {Q : Exit → Act → World → Prop} (na ca nb cb la lb : Nat) (pa pb : Option Addr) (ya yb : List Nat) (base : Nat) (f : Nat → Value) (df : List Deferred) (w0 : World) (hla : min (na : Int) 100 = (la : Int)) (hlb : min (nb : Int) 100 = (lb : Int)) (ra : Rb w0 pa la ya) (rb : Rb w0 pb lb yb) (hca : la ≤ ca ∧ la ≤ 100) (hcb : lb ≤ cb ∧ lb ≤ 100) (hbase : base = w0.heap.size) : (drC na ca nb cb la lb pa pb ya yb base f df).Step Tryz.prog Q w0 3 ⟨some 41, Op.call { callee := Callee.builtin Builtin.min, args := #[Operand.tmp 40, Operand.const (Value.int IntKind.i64 100)], argTypes := #[3, 3] }, 3, "", #[], none⟩ [2] := by
  refine ⟨rfl, rfl, by decide, show drD 3 < 146 by decide, fun j h => ?_, show ∀ j ∈ drU 3, j ∈ ([2] : List Nat) by decide, fun L a w hn hL hcl hB hk hd K hK => ?_⟩
  · have h2 : (none : Option Nat) = some j := h
    cases h2
  have hsz := hk.size
  have e : a.eval (.tmp 40) = (.int .i64 (na : Int)) := (hd 2 (show 2 ∈ drU 3 by decide)).1
  have ec : ∀ c, a.eval (.const c) = c := fun c => rfl
  refine owr_eq (X := True) (base := base) (v := .int .i64 (min (na : Int) 100)) rfl rfl ?_ (congrArg (Value.int .i64) hla) hK
  generalize a.eval = ev at e ec
  go_simp
set_option maxRecDepth 100000 in
theorem dr_s4 {Q : Exit → Act → World → Prop} (na ca nb cb la lb : Nat) (pa pb : Option Addr) (ya yb : List Nat) (base : Nat) (f : Nat → Value) (df : List Deferred) (w0 : World) (hla : min (na : Int) 100 = (la : Int)) (hlb : min (nb : Int) 100 = (lb : Int)) (ra : Rb w0 pa la ya) (rb : Rb w0 pb lb yb) (hca : la ≤ ca ∧ la ≤ 100) (hcb : lb ≤ cb ∧ lb ≤ 100) (hbase : base = w0.heap.size) : (drC na ca nb cb la lb pa pb ya yb base f df).Step Tryz.prog Q w0 4 ⟨some 42, Op.slice 34 (Operand.tmp 38) none (some (Operand.tmp 41)) none, 34, "", #[], none⟩ [0, 3] := by
  refine ⟨rfl, rfl, by decide, show drD 4 < 146 by decide, fun j h => ?_, show ∀ j ∈ drU 4, j ∈ ([0, 3] : List Nat) by decide, fun L a w hn hL hcl hB hk hd K hK => ?_⟩
  · have h2 : (none : Option Nat) = some j := h
    cases h2
  have hsz := hk.size
  have e1 : a.eval (.tmp 38) = (.slice pa na ca) := (hd 0 (show 0 ∈ drU 4 by decide)).1
  have e2 : a.eval (.tmp 41) = (.int .i64 (la : Int)) := (hd 3 (show 3 ∈ drU 4 by decide)).1
  have hs := slice_firstO pa na ca la hca.1 w
  refine owr_eq (X := True) (base := base) rfl rfl ?_ rfl hK
  generalize a.eval = ev at e1 e2
  unfold execOp
  simp only [e1, e2, Option.map_some, Option.map_none]
  simp [Instr.sliceAt, run_underlying Tryz.underlying34, hs]
set_option maxRecDepth 100000 in
theorem dr_s5 {Q : Exit → Act → World → Prop} (na ca nb cb la lb : Nat) (pa pb : Option Addr) (ya yb : List Nat) (base : Nat) (f : Nat → Value) (df : List Deferred) (w0 : World) (hla : min (na : Int) 100 = (la : Int)) (hlb : min (nb : Int) 100 = (lb : Int)) (ra : Rb w0 pa la ya) (rb : Rb w0 pb lb yb) (hca : la ≤ ca ∧ la ≤ 100) (hcb : lb ≤ cb ∧ lb ≤ 100) (hbase : base = w0.heap.size) : (drC na ca nb cb la lb pa pb ya yb base f df).Step Tryz.prog Q w0 5 ⟨some 43, Op.call { callee := Callee.value (Operand.func 13), args := #[Operand.tmp 42], argTypes := #[34] }, 34, "", #[], none⟩ [4] := by
  refine ⟨rfl, rfl, by decide, show drD 5 < 146 by decide, fun j h => ?_, show ∀ j ∈ drU 5, j ∈ ([4] : List Nat) by decide, fun L a w hn hL hcl hB hk hd K hK => ?_⟩
  · have h2 : (none : Option Nat) = some j := h
    cases h2
  have hsz := hk.size
  have e : a.eval (.tmp 42) = (.slice pa la ca) := (hd 4 (show 4 ∈ drU 5 by decide)).1
  exact owr_clone rfl pa la ca ya rfl (enter_run _ rfl (by simp only [List.map_toArray, List.map_cons, List.map_nil, e]) (fun _ => by rfl)) (ra.keep0 hk) (by omega) (by omega) hK
set_option maxRecDepth 100000 in
theorem dr_s6 {Q : Exit → Act → World → Prop} (na ca nb cb la lb : Nat) (pa pb : Option Addr) (ya yb : List Nat) (base : Nat) (f : Nat → Value) (df : List Deferred) (w0 : World) (hla : min (na : Int) 100 = (la : Int)) (hlb : min (nb : Int) 100 = (lb : Int)) (ra : Rb w0 pa la ya) (rb : Rb w0 pb lb yb) (hca : la ≤ ca ∧ la ≤ 100) (hcb : lb ≤ cb ∧ lb ≤ 100) (hbase : base = w0.heap.size) : (drC na ca nb cb la lb pa pb ya yb base f df).Step Tryz.prog Q w0 6 ⟨some 44, Op.buildSlice 34 1 #[(0, Operand.const (Value.int IntKind.u8 1))], 34, "", #[], none⟩ [] := by
  refine ⟨rfl, rfl, by decide, show drD 6 < 146 by decide, fun j h => ?_, show ∀ j ∈ drU 6, j ∈ ([] : List Nat) by decide, fun L a w hn hL hcl hB hk hd K hK => ?_⟩
  · have h2 : (none : Option Nat) = some j := h
    cases h2
  have hsz := hk.size
  have ec : ∀ c, a.eval (.const c) = c := fun c => rfl
  refine owr_one rfl 1 rfl ?_ (by omega) hK
  generalize a.eval = ev at ec
  go_simp
set_option maxRecDepth 100000 in
theorem dr_s7 {Q : Exit → Act → World → Prop} (na ca nb cb la lb : Nat) (pa pb : Option Addr) (ya yb : List Nat) (base : Nat) (f : Nat → Value) (df : List Deferred) (w0 : World) (hla : min (na : Int) 100 = (la : Int)) (hlb : min (nb : Int) 100 = (lb : Int)) (ra : Rb w0 pa la ya) (rb : Rb w0 pb lb yb) (hca : la ≤ ca ∧ la ≤ 100) (hcb : lb ≤ cb ∧ lb ≤ 100) (hbase : base = w0.heap.size) : (drC na ca nb cb la lb pa pb ya yb base f df).Step Tryz.prog Q w0 7 ⟨some 45, Op.call { callee := Callee.builtin Builtin.append, args := #[Operand.tmp 43, Operand.tmp 44], argTypes := #[34, 34] }, 34, "", #[], none⟩ [5, 6, 5] := by
  refine ⟨rfl, rfl, by decide, show drD 7 < 146 by decide, fun j h => ?_, show ∀ j ∈ drU 7, j ∈ ([5, 6, 5] : List Nat) by decide, fun L a w hn hL hcl hB hk hd K hK => ?_⟩
  · have h2 : (some 5 : Option Nat) = some j := h
    cases h2
    exact (show 5 ∈ drU 7 by decide)
  have hsz := hk.size
  have h1 := hd 5 (show 5 ∈ drU 7 by decide)
  have h2 := hd 6 (show 6 ∈ drU 7 by decide)
  exact owr_app rfl rfl (.tmp 43) (.tmp 44) rfl ya [1] rfl _ _ rfl rfl h1.1 h2.1 (by decide) (by rw [ra.len]; show _ + 1 ≤ _; omega) (by omega) (fun b hb => ⟨⟨5, rfl, hb⟩, ⟨5, rfl, hb⟩⟩) hK
set_option maxRecDepth 100000 in
theorem dr_s8 {Q : Exit → Act → World → Prop} (na ca nb cb la lb : Nat) (pa pb : Option Addr) (ya yb : List Nat) (base : Nat) (f : Nat → Value) (df : List Deferred) (w0 : World) (hla : min (na : Int) 100 = (la : Int)) (hlb : min (nb : Int) 100 = (lb : Int)) (ra : Rb w0 pa la ya) (rb : Rb w0 pb lb yb) (hca : la ≤ ca ∧ la ≤ 100) (hcb : lb ≤ cb ∧ lb ≤ 100) (hbase : base = w0.heap.size) : (drC na ca nb cb la lb pa pb ya yb base f df).Step Tryz.prog Q w0 8 ⟨some 46, Op.move (Operand.tmp 4), 34, "", #[], none⟩ [] := by
  refine ⟨rfl, rfl, by decide, show drD 8 < 146 by decide, fun j h => ?_, show ∀ j ∈ drU 8, j ∈ ([] : List Nat) by decide, fun L a w hn hL hcl hB hk hd K hK => ?_⟩
  · have h2 : (none : Option Nat) = some j := h
    cases h2
  have hsz := hk.size
  have hq : L 17 = false := by
    cases h : L 17 with
    | false => rfl
    | true =>
      have := hcl 17 _ rfl h 8 (show 8 ∈ ([15, 16, 0, 1, 2, 3, 4, 5, 6, 7, 8, 9, 10, 11, 12, 13, 14, 15, 16] : List Nat) by decide)
      rw [hL] at this
      cases this
  have e : a.eval (.tmp 4) = (.slice pb nb cb) := hB.2.1 hq
  refine owr_eq (X := True) (base := base) rfl rfl ?_ rfl hK
  generalize a.eval = ev at e
  go_simp
set_option maxRecDepth 100000 in
theorem dr_s9 {Q : Exit → Act → World → Prop} (na ca nb cb la lb : Nat) (pa pb : Option Addr) (ya yb : List Nat) (base : Nat) (f : Nat → Value) (df : List Deferred) (w0 : World) (hla : min (na : Int) 100 = (la : Int)) (hlb : min (nb : Int) 100 = (lb : Int)) (ra : Rb w0 pa la ya) (rb : Rb w0 pb lb yb) (hca : la ≤ ca ∧ la ≤ 100) (hcb : lb ≤ cb ∧ lb ≤ 100) (hbase : base = w0.heap.size) : (drC na ca nb cb la lb pa pb ya yb base f df).Step Tryz.prog Q w0 9 ⟨some 47, Op.move (Operand.tmp 4), 34, "", #[], none⟩ [] := by
  refine ⟨rfl, rfl, by decide, show drD 9 < 146 by decide, fun j h => ?_, show ∀ j ∈ drU 9, j ∈ ([] : List Nat) by decide, fun L a w hn hL hcl hB hk hd K hK => ?_⟩
  · have h2 : (none : Option Nat) = some j := h
    cases h2
  have hsz := hk.size
  have hq : L 17 = false := by
    cases h : L 17 with
    | false => rfl
    | true =>
      have := hcl 17 _ rfl h 9 (show 9 ∈ ([15, 16, 0, 1, 2, 3, 4, 5, 6, 7, 8, 9, 10, 11, 12, 13, 14, 15, 16] : List Nat) by decide)
      rw [hL] at this
      cases this
  have e : a.eval (.tmp 4) = (.slice pb nb cb) := hB.2.1 hq
  refine owr_eq (X := True) (base := base) rfl rfl ?_ rfl hK
  generalize a.eval = ev at e
  go_simp
set_option maxRecDepth 100000 in
theorem dr_s10 {Q : Exit → Act → World → Prop} (na ca nb cb la lb : Nat) (pa pb : Option Addr) (ya yb : List Nat) (base : Nat) (f : Nat → Value) (df : List Deferred) (w0 : World) (hla : min (na : Int) 100 = (la : Int)) (hlb : min (nb : Int) 100 = (lb : Int)) (ra : Rb w0 pa la ya) (rb : Rb w0 pb lb yb) (hca : la ≤ ca ∧ la ≤ 100) (hcb : lb ≤ cb ∧ lb ≤ 100) (hbase : base = w0.heap.size) : (drC na ca nb cb la lb pa pb ya yb base f df).Step Tryz.prog Q w0 10 ⟨some 48, Op.call { callee := Callee.builtin Builtin.len, args := #[Operand.tmp 47], argTypes := #[34] }, 3, "", #[], none⟩ [9] := by
  refine ⟨rfl, rfl, by decide, show drD 10 < 146 by decide, fun j h => ?_, show ∀ j ∈ drU 10, j ∈ ([9] : List Nat) by decide, fun L a w hn hL hcl hB hk hd K hK => ?_⟩
  · have h2 : (none : Option Nat) = some j := h
    cases h2
  have hsz := hk.size
  have e : a.eval (.tmp 47) = (.slice pb nb cb) := (hd 9 (show 9 ∈ drU 10 by decide)).1
  refine owr_eq (X := True) (base := base) rfl rfl ?_ rfl hK
  generalize a.eval = ev at e
  go_simp
set_option maxRecDepth 100000 in
theorem dr_s11 {Q : Exit → Act → World → Prop} (na ca nb cb la lb : Nat) (pa pb : Option Addr) (ya yb : List Nat) (base : Nat) (f : Nat → Value) (df : List Deferred) (w0 : World) (hla : min (na : Int) 100 = (la : Int)) (hlb : min (nb : Int) 100 = (lb : Int)) (ra : Rb w0 pa la ya) (rb : Rb w0 pb lb yb) (hca : la ≤ ca ∧ la ≤ 100) (hcb : lb ≤ cb ∧ lb ≤ 100) (hbase : base = w0.heap.size) : (drC na ca nb cb la lb pa pb ya yb base f df).Step Tryz.prog Q w0 11 ⟨some 49, Op.call { callee := Callee.builtin Builtin.min, args := #[Operand.tmp 48, Operand.const (Value.int IntKind.i64 100)], argTypes := #[3, 3] }, 3, "", #[], none⟩ [10] := by
  refine ⟨rfl, rfl, by decide, show drD 11 < 146 by decide, fun j h => ?_, show ∀ j ∈ drU 11, j ∈ ([10] : List Nat) by decide, fun L a w hn hL hcl hB hk hd K hK => ?_⟩
  · have h2 : (none : Option Nat) = some j := h
    cases h2
  have hsz := hk.size
  have e : a.eval (.tmp 48) = (.int .i64 (nb : Int)) := (hd 10 (show 10 ∈ drU 11 by decide)).1
  have ec : ∀ c, a.eval (.const c) = c := fun c => rfl
  refine owr_eq (X := True) (base := base) (v := .int .i64 (min (nb : Int) 100)) rfl rfl ?_ (congrArg (Value.int .i64) hlb) hK
  generalize a.eval = ev at e ec
  go_simp
set_option maxRecDepth 100000 in
theorem dr_s12 {Q : Exit → Act → World → Prop} (na ca nb cb la lb : Nat) (pa pb : Option Addr) (ya yb : List Nat) (base : Nat) (f : Nat → Value) (df : List Deferred) (w0 : World) (hla : min (na : Int) 100 = (la : Int)) (hlb : min (nb : Int) 100 = (lb : Int)) (ra : Rb w0 pa la ya) (rb : Rb w0 pb lb yb) (hca : la ≤ ca ∧ la ≤ 100) (hcb : lb ≤ cb ∧ lb ≤ 100) (hbase : base = w0.heap.size) : (drC na ca nb cb la lb pa pb ya yb base f df).Step Tryz.prog Q w0 12 ⟨some 50, Op.slice 34 (Operand.tmp 46) none (some (Operand.tmp 49)) none, 34, "", #[], none⟩ [8, 11] := by
  refine ⟨rfl, rfl, by decide, show drD 12 < 146 by decide, fun j h => ?_, show ∀ j ∈ drU 12, j ∈ ([8, 11] : List Nat) by decide, fun L a w hn hL hcl hB hk hd K hK => ?_⟩
  · have h2 : (none : Option Nat) = some j := h
    cases h2
  have hsz := hk.size
  have e1 : a.eval (.tmp 46) = (.slice pb nb cb) := (hd 8 (show 8 ∈ drU 12 by decide)).1
  have e2 : a.eval (.tmp 49) = (.int .i64 (lb : Int)) := (hd 11 (show 11 ∈ drU 12 by decide)).1
  have hs := slice_firstO pb nb cb lb hcb.1 w
  refine owr_eq (X := True) (base := base) rfl rfl ?_ rfl hK
  generalize a.eval = ev at e1 e2
  unfold execOp
  simp only [e1, e2, Option.map_some, Option.map_none]
  simp [Instr.sliceAt, run_underlying Tryz.underlying34, hs]
set_option maxRecDepth 100000 in
theorem dr_s13 {Q : Exit → Act → World → Prop} (na ca nb cb la lb : Nat) (pa pb : Option Addr) (ya yb : List Nat) (base : Nat) (f : Nat → Value) (df : List Deferred) (w0 : World) (hla : min (na : Int) 100 = (la : Int)) (hlb : min (nb : Int) 100 = (lb : Int)) (ra : Rb w0 pa la ya) (rb : Rb w0 pb lb yb) (hca : la ≤ ca ∧ la ≤ 100) (hcb : lb ≤ cb ∧ lb ≤ 100) (hbase : base = w0.heap.size) : (drC na ca nb cb la lb pa pb ya yb base f df).Step Tryz.prog Q w0 13 ⟨some 51, Op.call { callee := Callee.value (Operand.func 13), args := #[Operand.tmp 50], argTypes := #[34] }, 34, "", #[], none⟩ [12, 7] := by
  refine ⟨rfl, rfl, by decide, show drD 13 < 146 by decide, fun j h => ?_, show ∀ j ∈ drU 13, j ∈ ([12, 7] : List Nat) by decide, fun L a w hn hL hcl hB hk hd K hK => ?_⟩
  · have h2 : (none : Option Nat) = some j := h
    cases h2
  have hsz := hk.size
  have e : a.eval (.tmp 50) = (.slice pb lb cb) := (hd 12 (show 12 ∈ drU 13 by decide)).1
  exact owr_clone rfl pb lb cb yb rfl (enter_run _ rfl (by simp only [List.map_toArray, List.map_cons, List.map_nil, e]) (fun _ => by rfl)) (rb.keep0 hk) (by omega) (by omega) hK
set_option maxRecDepth 100000 in
theorem dr_s14 {Q : Exit → Act → World → Prop} (na ca nb cb la lb : Nat) (pa pb : Option Addr) (ya yb : List Nat) (base : Nat) (f : Nat → Value) (df : List Deferred) (w0 : World) (hla : min (na : Int) 100 = (la : Int)) (hlb : min (nb : Int) 100 = (lb : Int)) (ra : Rb w0 pa la ya) (rb : Rb w0 pb lb yb) (hca : la ≤ ca ∧ la ≤ 100) (hcb : lb ≤ cb ∧ lb ≤ 100) (hbase : base = w0.heap.size) : (drC na ca nb cb la lb pa pb ya yb base f df).Step Tryz.prog Q w0 14 ⟨some 52, Op.buildSlice 34 1 #[(0, Operand.const (Value.int IntKind.u8 2))], 34, "", #[], none⟩ [] := by
  refine ⟨rfl, rfl, by decide, show drD 14 < 146 by decide, fun j h => ?_, show ∀ j ∈ drU 14, j ∈ ([] : List Nat) by decide, fun L a w hn hL hcl hB hk hd K hK => ?_⟩
  · have h2 : (none : Option Nat) = some j := h
    cases h2
  have hsz := hk.size
  have ec : ∀ c, a.eval (.const c) = c := fun c => rfl
  refine owr_one rfl 2 rfl ?_ (by omega) hK
  generalize a.eval = ev at ec
  go_simp
set_option maxRecDepth 100000 in
theorem dr_s15 {Q : Exit → Act → World → Prop} (na ca nb cb la lb : Nat) (pa pb : Option Addr) (ya yb : List Nat) (base : Nat) (f : Nat → Value) (df : List Deferred) (w0 : World) (hla : min (na : Int) 100 = (la : Int)) (hlb : min (nb : Int) 100 = (lb : Int)) (ra : Rb w0 pa la ya) (rb : Rb w0 pb lb yb) (hca : la ≤ ca ∧ la ≤ 100) (hcb : lb ≤ cb ∧ lb ≤ 100) (hbase : base = w0.heap.size) : (drC na ca nb cb la lb pa pb ya yb base f df).Step Tryz.prog Q w0 15 ⟨some 53, Op.call { callee := Callee.builtin Builtin.append, args := #[Operand.tmp 51, Operand.tmp 52], argTypes := #[34, 34] }, 34, "", #[], none⟩ [13, 14, 13] := by
  refine ⟨rfl, rfl, by decide, show drD 15 < 146 by decide, fun j h => ?_, show ∀ j ∈ drU 15, j ∈ ([13, 14, 13] : List Nat) by decide, fun L a w hn hL hcl hB hk hd K hK => ?_⟩
  · have h2 : (some 13 : Option Nat) = some j := h
    cases h2
    exact (show 13 ∈ drU 15 by decide)
  have hsz := hk.size
  have h1 := hd 13 (show 13 ∈ drU 15 by decide)
  have h2 := hd 14 (show 14 ∈ drU 15 by decide)
  exact owr_app rfl rfl (.tmp 51) (.tmp 52) rfl yb [2] rfl _ _ rfl rfl h1.1 h2.1 (by decide) (by rw [rb.len]; show _ + 1 ≤ _; omega) (by omega) (fun b hb => ⟨⟨13, rfl, hb⟩, ⟨13, rfl, hb⟩⟩) hK
set_option maxRecDepth 100000 in
theorem dr_s16 {Q : Exit → Act → World → Prop} (na ca nb cb la lb : Nat) (pa pb : Option Addr) (ya yb : List Nat) (base : Nat) (f : Nat → Value) (df : List Deferred) (w0 : World) (hla : min (na : Int) 100 = (la : Int)) (hlb : min (nb : Int) 100 = (lb : Int)) (ra : Rb w0 pa la ya) (rb : Rb w0 pb lb yb) (hca : la ≤ ca ∧ la ≤ 100) (hcb : lb ≤ cb ∧ lb ≤ 100) (hbase : base = w0.heap.size) : (drC na ca nb cb la lb pa pb ya yb base f df).Step Tryz.prog Q w0 16 ⟨some 3, Op.assign (Operand.tmp 45), 34, "", #[], none⟩ [7, 15, 0, 1, 2, 3, 4, 5, 6, 7] := by
  refine ⟨rfl, rfl, by decide, show drD 16 < 146 by decide, fun j h => ?_, show ∀ j ∈ drU 16, j ∈ ([7, 15, 0, 1, 2, 3, 4, 5, 6, 7] : List Nat) by decide, fun L a w hn hL hcl hB hk hd K hK => ?_⟩
  · have h2 : (some 7 : Option Nat) = some j := h
    cases h2
    exact (show 7 ∈ drU 16 by decide)
  have hsz := hk.size
  have h1 := hd 7 (show 7 ∈ drU 16 by decide)
  refine owr_move rfl _ rfl (a.eval (.tmp 45)) ?_ h1.1 (fun b hb => ⟨7, rfl, hb⟩) hK
  generalize a.eval = ev
  go_simp
set_option maxRecDepth 100000 in
theorem dr_s17 {Q : Exit → Act → World → Prop} (na ca nb cb la lb : Nat) (pa pb : Option Addr) (ya yb : List Nat) (base : Nat) (f : Nat → Value) (df : List Deferred) (w0 : World) (hla : min (na : Int) 100 = (la : Int)) (hlb : min (nb : Int) 100 = (lb : Int)) (ra : Rb w0 pa la ya) (rb : Rb w0 pb lb yb) (hca : la ≤ ca ∧ la ≤ 100) (hcb : lb ≤ cb ∧ lb ≤ 100) (hbase : base = w0.heap.size) : (drC na ca nb cb la lb pa pb ya yb base f df).Step Tryz.prog Q w0 17 ⟨some 4, Op.assign (Operand.tmp 53), 34, "", #[], none⟩ [15, 16, 0, 1, 2, 3, 4, 5, 6, 7, 8, 9, 10, 11, 12, 13, 14, 15, 16] := by
  refine ⟨rfl, rfl, by decide, show drD 17 < 146 by decide, fun j h => ?_, show ∀ j ∈ drU 17, j ∈ ([15, 16, 0, 1, 2, 3, 4, 5, 6, 7, 8, 9, 10, 11, 12, 13, 14, 15, 16] : List Nat) by decide, fun L a w hn hL hcl hB hk hd K hK => ?_⟩
  · have h2 : (some 15 : Option Nat) = some j := h
    cases h2
    exact (show 15 ∈ drU 17 by decide)
  have hsz := hk.size
  have h1 := hd 15 (show 15 ∈ drU 17 by decide)
  refine owr_move rfl _ rfl (a.eval (.tmp 53)) ?_ h1.1 (fun b hb => ⟨15, rfl, hb⟩) hK
  generalize a.eval = ev
  go_simp
theorem dr_steps {Q : Exit → Act → World → Prop} (na ca nb cb la lb : Nat) (pa pb : Option Addr) (ya yb : List Nat) (base : Nat) (f : Nat → Value) (df : List Deferred) (w0 : World) (hla : min (na : Int) 100 = (la : Int)) (hlb : min (nb : Int) 100 = (lb : Int)) (ra : Rb w0 pa la ya) (rb : Rb w0 pb lb yb) (hca : la ≤ ca ∧ la ≤ 100) (hcb : lb ≤ cb ∧ lb ≤ 100) (hbase : base = w0.heap.size) : (drC na ca nb cb la lb pa pb ya yb base f df).Steps Tryz.prog Q w0 0 drT := ⟨dr_s0 na ca nb cb la lb pa pb ya yb base f df w0 hla hlb ra rb hca hcb hbase, dr_s1 na ca nb cb la lb pa pb ya yb base f df w0 hla hlb ra rb hca hcb hbase, dr_s2 na ca nb cb la lb pa pb ya yb base f df w0 hla hlb ra rb hca hcb hbase, dr_s3 na ca nb cb la lb pa pb ya yb base f df w0 hla hlb ra rb hca hcb hbase, dr_s4 na ca nb cb la lb pa pb ya yb base f df w0 hla hlb ra rb hca hcb hbase, dr_s5 na ca nb cb la lb pa pb ya yb base f df w0 hla hlb ra rb hca hcb hbase, dr_s6 na ca nb cb la lb pa pb ya yb base f df w0 hla hlb ra rb hca hcb hbase, dr_s7 na ca nb cb la lb pa pb ya yb base f df w0 hla hlb ra rb hca hcb hbase, dr_s8 na ca nb cb la lb pa pb ya yb base f df w0 hla hlb ra rb hca hcb hbase, dr_s9 na ca nb cb la lb pa pb ya yb base f df w0 hla hlb ra rb hca hcb hbase, dr_s10 na ca nb cb la lb pa pb ya yb base f df w0 hla hlb ra rb hca hcb hbase, dr_s11 na ca nb cb la lb pa pb ya yb base f df w0 hla hlb ra rb hca hcb hbase, dr_s12 na ca nb cb la lb pa pb ya yb base f df w0 hla hlb ra rb hca hcb hbase, dr_s13 na ca nb cb la lb pa pb ya yb base f df w0 hla hlb ra rb hca hcb hbase, dr_s14 na ca nb cb la lb pa pb ya yb base f df w0 hla hlb ra rb hca hcb hbase, dr_s15 na ca nb cb la lb pa pb ya yb base f df w0 hla hlb ra rb hca hcb hbase, dr_s16 na ca nb cb la lb pa pb ya yb base f df w0 hla hlb ra rb hca hcb hbase, dr_s17 na ca nb cb la lb pa pb ya yb base f df w0 hla hlb ra rb hca hcb hbase, trivial⟩
set_option maxRecDepth 100000 in
/-- the region as a whole -/
theorem dr_region {ops : Array Oper} {Q : Exit → Act → World → Prop} (hT : ops.toList.map (fun o => (bare o, deps o)) = drT) {id : Nat} {a0 : Act} {y : World} (na ca nb cb la lb : Nat) (pa pb : Option Addr) (ya yb : List Nat)
    (hn : a0.tmps.size = 146) (h3 : a0.eval (.tmp 3) = .slice pa na ca) (h4 : a0.eval (.tmp 4) = .slice pb nb cb) (hla : min (na : Int) 100 = (la : Int)) (hlb : min (nb : Int) 100 = (lb : Int)) (ra : Rb y pa la ya) (rb : Rb y pb lb yb) (hca : la ≤ ca ∧ la ≤ 100) (hcb : lb ≤ cb ∧ lb ≤ 100)
    (hend : ∀ q38 q39 q40 q41 q42 q43 q44 q45 q46 q47 q48 q49 q50 q51 q52 q53 q3 q4 w, Kp (fun _ => False) y w → Ow w y.heap.size q3 (ya ++ [1]) → Ow w y.heap.size q4 (yb ++ [2]) → Q .normal ((((((((((((((((((a0.put (some 38) q38).put (some 39) q39).put (some 40) q40).put (some 41) q41).put (some 42) q42).put (some 43) q43).put (some 44) q44).put (some 45) q45).put (some 46) q46).put (some 47) q47).put (some 48) q48).put (some 49) q49).put (some 50) q50).put (some 51) q51).put (some 52) q52).put (some 53) q53).put (some 3) q3).put (some 4) q4) w) :
    (Code.region id ops true).wp Tryz.prog Q a0 y := by
  have kd : Kp (fun _ => False) y y.drew := (Kp.refl _ _).drew
  have kx : (drC na ca nb cb la lb pa pb ya yb y.heap.size (fun t => a0.eval (.tmp t)) a0.defers).Steps Tryz.prog Q y.drew 0 drT := dr_steps na ca nb cb la lb pa pb ya yb y.heap.size (fun t => a0.eval (.tmp t)) a0.defers y.drew hla hlb (ra.keep0 kd) (rb.keep0 kd) hca hcb rfl
  refine own_region (drC na ca nb cb la lb pa pb ya yb y.heap.size (fun t => a0.eval (.tmp t)) a0.defers) (by kernel_rfl) hT hn ⟨fun _ => h3, fun _ => h4, fun _ _ => rfl, rfl⟩ (fun k v a L hk _ h => drB_put _ _ _ _ _ _ _ _ k v a L hk h) (fun i j h1 h2 => drDi i h1 j h2) (fun k k' h1 h2 j he hu => drEU k h1 k' h2 j hu he)
    (fun i v w w' S h k hS => Kd.keep h k hS) kx (fun L a w h1 h2 h3 h4 => ?_)
  obtain ⟨_, _, hfr, bd⟩ := h2
  have e := act_puts a drL a0 (h1.trans hn.symm) bd hfr
  rw [e]
  exact hend (a.eval (.tmp 38)) (a.eval (.tmp 39)) (a.eval (.tmp 40)) (a.eval (.tmp 41)) (a.eval (.tmp 42)) (a.eval (.tmp 43)) (a.eval (.tmp 44)) (a.eval (.tmp 45)) (a.eval (.tmp 46)) (a.eval (.tmp 47)) (a.eval (.tmp 48)) (a.eval (.tmp 49)) (a.eval (.tmp 50)) (a.eval (.tmp 51)) (a.eval (.tmp 52)) (a.eval (.tmp 53)) (a.eval (.tmp 3)) (a.eval (.tmp 4)) w (kd.trans h3 (fun _ _ e => e)) (h4 16 (show 16 < drT.length by decide) drE16).1 (h4 17 (show 17 < drT.length by decide) drE17).1
end Go.Proofs.YtmooddbhcccicaaGreatDoor

/- ShelfDrops. -/
namespace Go.Proofs.YtmooddbhcccicaaGreatDoor
set_option linter.unusedVariables false
set_option linter.unusedSimpArgs false
open Go.RowKit Go.Deep Go.Maps

theorem sh8 (z : Int) : ∃ b : Nat, wrap64 (IntKind.u64.wrap z / 256) = (b : Int) ∧ b ≤ 72057594037927936 := by
  have h1 : IntKind.u64.wrap z = z % 18446744073709551616 := by simp [IntKind.wrap, IntKind.bits, IntKind.signed]
  refine ⟨(IntKind.u64.wrap z / 256).toNat, ?_, ?_⟩
  · rw [h1]; unfold wrap64; omega
  · rw [h1]; omega
theorem md100 (z : Int) : ∃ f : Nat, wrap64 (1 + wrap64 ((IntKind.u64.wrap z).tmod 100)) = ((f + 1 : Nat) : Int) ∧ f ≤ 99 := by
  have h1 : IntKind.u64.wrap z = z % 18446744073709551616 := by simp [IntKind.wrap, IntKind.bits, IntKind.signed]
  have h0 : 0 ≤ IntKind.u64.wrap z := by rw [h1]; omega
  have h2 : (IntKind.u64.wrap z).tmod 100 = IntKind.u64.wrap z % 100 := Int.tmod_eq_emod_of_nonneg h0
  refine ⟨((IntKind.u64.wrap z).tmod 100).toNat, ?_, ?_⟩
  · rw [h2]; unfold wrap64; omega
  · rw [h2]; omega
theorem min100 (n : Nat) : min (n : Int) 100 = ((min n 100 : Nat) : Int) := by omega
theorem Rb.fst {w : World} {p : Option Addr} {n : Nat} {xs : List Nat} (h : Rb w p n xs) {m : Nat} (hm : m ≤ n) : Rb w p m (xs.take m) := by
  refine ⟨by rw [List.length_take, h.len]; omega, fun x hx => h.byte x (List.mem_of_mem_take hx), fun j hj => ?_⟩
  obtain ⟨b, o, e, c⟩ := h.cell j (by omega)
  refine ⟨b, o, e, ?_⟩
  rw [c, List.getD_eq_getElem?_getD, List.getD_eq_getElem?_getD, List.getElem?_take_of_lt hj]
theorem ne_last (xs ys : List Nat) : ¬ xs ++ [1] = ys ++ [2] := fun e => by
  have := congrArg List.getLast? e
  simp at this

set_option maxRecDepth 100000 in
set_option maxHeartbeats 64000000 in
theorem shelfDrops_walk (z0 z1 z2 : Int) (pa : Option Addr) (na ca : Nat) (xa : List Nat) (pb : Option Addr) (nb cb : Nat) (xb : List Nat) (w : World) (h0 : (Lit.int .i64 z0).wf = true) (h1 : (Lit.int .i64 z1).wf = true) (h2 : (Lit.int .i64 z2).wf = true)
    (ra : Rb w pa na xa) (lca : na ≤ ca) (sa : Hid (na ≤ 140737488355328)) (rb : Rb w pb nb xb) (lcb : nb ≤ cb) (sb : Hid (nb ≤ 140737488355328)) (ht : Turns w) :
    Calls Tryz.prog 7 #[.int .i64 z0, .int .i64 z1, .int .i64 z2, .slice pa na ca, .slice pb nb cb] w fun e w' => e = .returned (.bool true) ∧ Kp (fun _ => False) w w' := by
  have HFr : Hid (Calls _ _ _ w _) := fresh8_ok w ht
  have HA : Hid (Rb w pa na xa ∧ na ≤ ca ∧ na ≤ 140737488355328) := ⟨ra, lca, sa.out⟩
  have HB : Hid (Rb w pb nb xb ∧ nb ≤ cb ∧ nb ≤ 140737488355328) := ⟨rb, lcb, sb.out⟩
  clear ra lca sa rb lcb sb ht
  go_enter Tryz.func7, Tryz.ntmps7
  go_wp2_with fail
  refine HFr.out.mono ?_
  rintro e9 w1 ⟨sh, mp, g, gf, bp, d, m, dur, rfl, k1, hz1, s1⟩
  have HK1 : Hid (Kp (fun _ => False) w w1) := k1
  have HZ1 : Hid (w.heap.size ≤ sh ∧ w.heap.size ≤ mp ∧ w.heap.size ≤ g ∧ w.heap.size ≤ gf ∧ w.heap.size ≤ bp ∧ w.heap.size ≤ d ∧ w.heap.size ≤ m) := hz1
  have HS1 : Hid (Shf w1 (fun x => w1.heap.size ≤ x) sh mp g bp d m gf 298 1 1 0 1 0 dur []) := s1
  clear k1 hz1 s1 HFr
  obtain ⟨bl, e0, hbl⟩ := sh8 z0
  obtain ⟨ix, e1, hix⟩ := sh8 z1
  obtain ⟨f, e2, hf⟩ := md100 z2
  obtain ⟨F, hF⟩ : ∃ F, F = f + 1 := ⟨_, rfl⟩
  rw [← hF] at e2
  go_upto_region 5 with fail
  rw [e0, e1, e2]
  have HQ : Hid (bl ≤ 1152921504606846976 ∧ ix ≤ 1152921504606846976 ∧ F ≤ 1152921504606846976 ∧ f ≤ 1152921504606846976) := ⟨by omega, by omega, by omega, by omega⟩
  have HFf : Hid (F = f + 1) := hF
  have hwf : wrap64 ((F : Int) - 1) = (f : Int) := by unfold wrap64; omega
  clear h0 h1 h2 hbl hix hf e0 e1 e2 hF
  obtain ⟨a1, a2, a3⟩ := HA.out
  obtain ⟨b1, b2, b3⟩ := HB.out
  have ra := (a1.keep0 HK1.out).fst (m := min na 100) (by omega)
  have rb := (b1.keep0 HK1.out).fst (m := min nb 100) (by omega)
  refine dr_region (by kernel_rfl) na ca nb cb (min na 100) (min nb 100) pa pb (xa.take (min na 100)) (xb.take (min nb 100)) rfl rfl rfl (min100 na) (min100 nb) ra rb ⟨by omega, by omega⟩ ⟨by omega, by omega⟩ ?_
  have HL : Hid (1 ≤ (xa.take (min na 100) ++ [1]).length ∧ (xa.take (min na 100) ++ [1]).length ≤ 600 ∧ 1 ≤ (xb.take (min nb 100) ++ [2]).length ∧ (xb.take (min nb 100) ++ [2]).length ≤ 600) := by
    have l1 := ra.len
    have l2 := rb.len
    show 1 ≤ _ ∧ _ ≤ 600 ∧ 1 ≤ _ ∧ _ ≤ 600
    simp only [List.length_append, List.length_cons, List.length_nil]
    omega
  have HBy : Hid ((∀ x ∈ xa.take (min na 100) ++ [1], x < 256) ∧ ∀ x ∈ xb.take (min nb 100) ++ [2], x < 256) := by
    refine ⟨fun x hx => ?_, fun x hx => ?_⟩
    · rcases List.mem_append.1 hx with hx | hx
      · exact ra.byte x hx
      · rw [List.mem_singleton.1 hx]; decide
    · rcases List.mem_append.1 hx with hx | hx
      · exact rb.byte x hx
      · rw [List.mem_singleton.1 hx]; decide
  have HNe : Hid (¬ xa.take (min na 100) ++ [1] = xb.take (min nb 100) ++ [2]) := ne_last _ _
  clear ra rb a1 a2 a3 b1 b2 b3 HA HB
  obtain ⟨xa1, hxa⟩ : ∃ y, y = xa.take (min na 100) ++ [1] := ⟨_, rfl⟩
  obtain ⟨xb1, hxb⟩ : ∃ y, y = xb.take (min nb 100) ++ [2] := ⟨_, rfl⟩
  obtain ⟨N, hN⟩ : ∃ N, N = w1.heap.size := ⟨_, rfl⟩
  rw [← hxa, ← hxb] at HNe HL HBy
  rw [← hxa, ← hxb, ← hN]
  rw [← hN] at HS1
  have HN : Hid (N = w1.heap.size) := hN
  clear hxa hxb hN
  intro q38 q39 q40 q41 q42 q43 q44 q45 q46 q47 q48 q49 q50 q51 q52 q53 q3 q4 w2 k2 oa ob
  simp only [Act.put, List.setIfInBounds_toArray, List.set_cons_succ, List.set_cons_zero]
  have HX0 : Hid (D8 w w2 N sh mp g bp d m gf dur [] ∧ Ow w2 N q3 xa1 ∧ Ow w2 N q4 xb1) := by
    have z := HZ1.out
    exact ⟨⟨HS1.out.keep0 k2, HK1.out.trans k2 (fun _ _ e => e), by rw [HN.out]; exact k2.size, ⟨z.1, z.2.1, z.2.2.1, z.2.2.2.1, z.2.2.2.2.2.2⟩, fun r hr => absurd hr List.not_mem_nil⟩, oa, ob⟩
  clear k2 oa ob HS1 HK1 HZ1 HN
  obtain ⟨A, hA⟩ : ∃ A, A = (⟨1, bl, ix, 0, xa1⟩ : Rc) := ⟨_, rfl⟩
  have HSt : Hid ((stS ([] : List Rc)).1 ⟨1, (bl : Int), (ix : Int)⟩ = none ∧ fncd [] bl ix = 0 ∧
      (stS [⟨1, bl, ix, 0, xa1⟩]).1 ⟨1, (bl : Int), (ix : Int)⟩ = some ⟨1, bl, ix, 0, xa1⟩ ∧ fncd [⟨1, bl, ix, 0, xa1⟩] bl ix = 0 ∧
      (stS [⟨1, bl, ix, 0, xa1⟩, ⟨3, bl, ix, F, []⟩]).1 ⟨1, (bl : Int), (ix : Int)⟩ = some ⟨1, bl, ix, 0, xa1⟩ ∧
      (stS [⟨1, bl, ix, 0, xa1⟩, ⟨3, bl, ix, F, []⟩, ⟨2, bl, ix, 0, []⟩]).1 ⟨1, (bl : Int), (ix : Int)⟩ = none ∧ fncd [⟨1, bl, ix, 0, xa1⟩, ⟨3, bl, ix, F, []⟩, ⟨2, bl, ix, 0, []⟩] bl ix = F ∧
      (stS [⟨1, bl, ix, 0, xa1⟩, ⟨3, bl, ix, F, []⟩, ⟨2, bl, ix, 0, []⟩, ⟨1, bl, ix, 0, xb1⟩]).1 ⟨1, (bl : Int), (ix : Int)⟩ = some ⟨1, bl, ix, 0, xb1⟩ ∧ fncd [⟨1, bl, ix, 0, xa1⟩, ⟨3, bl, ix, F, []⟩, ⟨2, bl, ix, 0, []⟩, ⟨1, bl, ix, 0, xb1⟩] bl ix = F) := by
    have s1 := stS_shard [] bl ix xa1
    have s2 := stS_fence [⟨1, bl, ix, 0, xa1⟩] bl ix F (by have := HFf.out; omega)
    have s3 := stS_drop [⟨1, bl, ix, 0, xa1⟩, ⟨3, bl, ix, F, []⟩] bl ix
    have s4 := stS_shard [⟨1, bl, ix, 0, xa1⟩, ⟨3, bl, ix, F, []⟩, ⟨2, bl, ix, 0, []⟩] bl ix xb1
    refine ⟨rfl, fncd_nil bl ix, s1.1, (s1.2 bl ix).trans (fncd_nil bl ix), (s2.2 bl ix).trans s1.1, s3.1, (s3.2 bl ix).trans s2.1, s4.1, (s4.2 bl ix).trans ((s3.2 bl ix).trans s2.1)⟩
  clear hA
  have HC : Hid (Calls _ _ _ w2 _) := HX0.out.1.drop_none bl ix HQ.out.1 HQ.out.2.1 (by decide) HSt.out.1
  go_wp2_with fail
  refine HC.out.mono ?_
  rintro e9 w3 ⟨rfl, x, o⟩
  have HX1 : Hid (D8 w w3 N sh mp g bp d m gf dur [] ∧ Ow w3 N q3 xa1 ∧ Ow w3 N q4 xb1) := ⟨x, o.ow HX0.out.2.1, o.ow HX0.out.2.2⟩
  clear x o HX0 HC
  have HC : Hid (Calls Tryz.prog 14 #[.pointer (some ⟨sh, 0, none⟩), .int .i64 (bl : Int), .int .i64 (ix : Int), .int .i64 0, q3] w3 _) := HX1.out.1.store_new bl ix 0 HQ.out.1 HQ.out.2.1 (by decide) (show 0 ≤ 5 by decide) HX1.out.2.1 ⟨HL.out.1, HL.out.2.1⟩ HBy.out.1 (Nat.le_of_eq HSt.out.2.1) HSt.out.1
  go_wp2_with fail
  refine HC.out.mono ?_
  rintro e9 w4 ⟨rfl, x, o⟩
  have HX2 : Hid (D8 w w4 N sh mp g bp d m gf dur [⟨1, bl, ix, 0, xa1⟩] ∧ Ow w4 N q3 xa1 ∧ Ow w4 N q4 xb1) := ⟨x, o.ow HX1.out.2.1, o.ow HX1.out.2.2⟩
  clear x o HX1 HC
  have HC : Hid (Calls Tryz.prog 14 #[.pointer (some ⟨sh, 0, none⟩), .int .i64 (bl : Int), .int .i64 (ix : Int), .int .i64 0, q4] w4 fun e9 u' => e9 = .returned (.int .i64 82) ∧ D8 w u' N sh mp g bp d m gf dur [⟨1, bl, ix, 0, xa1⟩] ∧ Oks N w4 u') := by
    have h9 := HX2.out.1.store_there bl ix 0 HQ.out.1 HQ.out.2.1 (by decide) (show 1 ≤ 5 by decide) HX2.out.2.2 HL.out.2.2 HBy.out.2 (Nat.le_of_eq HSt.out.2.2.2.1) HSt.out.2.2.1
    rw [if_neg HNe.out] at h9
    exact h9
  go_wp2_with fail
  refine HC.out.mono ?_
  rintro e9 w5 ⟨rfl, x, o⟩
  have HX3 : Hid (D8 w w5 N sh mp g bp d m gf dur [⟨1, bl, ix, 0, xa1⟩] ∧ Ow w5 N q3 xa1 ∧ Ow w5 N q4 xb1) := ⟨x, o.ow HX2.out.2.1, o.ow HX2.out.2.2⟩
  clear x o HX2 HC
  have HC : Hid (Calls _ _ _ w5 _) := HX3.out.1.fence bl ix F HQ.out.1 HQ.out.2.1 HQ.out.2.2.1 (show 1 ≤ 5 by decide) (by rw [HSt.out.2.2.2.1]; have := HFf.out; omega)
  go_wp2_with fail
  refine HC.out.mono ?_
  rintro e9 w6 ⟨rfl, x, o⟩
  have HX4 : Hid (D8 w w6 N sh mp g bp d m gf dur [⟨1, bl, ix, 0, xa1⟩, ⟨3, bl, ix, F, []⟩] ∧ Ow w6 N q3 xa1 ∧ Ow w6 N q4 xb1) := ⟨x, o.ow HX3.out.2.1, o.ow HX3.out.2.2⟩
  clear x o HX3 HC
  have HC : Hid (Calls _ _ _ w6 _) := HX4.out.1.drop_some bl ix HQ.out.1 HQ.out.2.1 (show 2 ≤ 5 by decide) HSt.out.2.2.2.2.1
  go_wp2_with fail
  refine HC.out.mono ?_
  rintro e9 w7 ⟨rfl, x, o⟩
  have HX5 : Hid (D8 w w7 N sh mp g bp d m gf dur [⟨1, bl, ix, 0, xa1⟩, ⟨3, bl, ix, F, []⟩, ⟨2, bl, ix, 0, []⟩] ∧ Ow w7 N q3 xa1 ∧ Ow w7 N q4 xb1) := ⟨x, o.ow HX4.out.2.1, o.ow HX4.out.2.2⟩
  clear x o HX4 HC
  have HC : Hid (Calls _ _ _ w7 _) := HX5.out.1.fetch_none bl ix F HQ.out.1 HQ.out.2.1 HQ.out.2.2.1 (Nat.le_of_eq HSt.out.2.2.2.2.2.2.1) HSt.out.2.2.2.2.2.1
  go_wp2_with fail
  refine HC.out.mono ?_
  rintro e9 w8 ⟨rfl, x, o⟩
  have HX6 : Hid (D8 w w8 N sh mp g bp d m gf dur [⟨1, bl, ix, 0, xa1⟩, ⟨3, bl, ix, F, []⟩, ⟨2, bl, ix, 0, []⟩] ∧ Ow w8 N q3 xa1 ∧ Ow w8 N q4 xb1) := ⟨x, o.ow HX5.out.2.1, o.ow HX5.out.2.2⟩
  clear x o HX5 HC
  have HC : Hid (Calls _ _ _ w8 _) := HX6.out.1.store_low bl ix f HQ.out.1 HQ.out.2.1 HQ.out.2.2.2 (show 3 ≤ 5 by decide) HX6.out.2.2 HL.out.2.2 HBy.out.2 (by rw [HSt.out.2.2.2.2.2.2.1]; have := HFf.out; omega)
  go_wp2_with fail
  refine HC.out.mono ?_
  rintro e9 w9 ⟨rfl, x, o⟩
  have HX7 : Hid (D8 w w9 N sh mp g bp d m gf dur [⟨1, bl, ix, 0, xa1⟩, ⟨3, bl, ix, F, []⟩, ⟨2, bl, ix, 0, []⟩] ∧ Ow w9 N q3 xa1 ∧ Ow w9 N q4 xb1) := ⟨x, o.ow HX6.out.2.1, o.ow HX6.out.2.2⟩
  clear x o HX6 HC
  have HC : Hid (Calls _ _ _ w9 _) := HX7.out.1.store_new bl ix F HQ.out.1 HQ.out.2.1 HQ.out.2.2.1 (show 3 ≤ 5 by decide) HX7.out.2.2 HL.out.2.2 HBy.out.2 (Nat.le_of_eq HSt.out.2.2.2.2.2.2.1) HSt.out.2.2.2.2.2.1
  go_wp2_with fail
  refine HC.out.mono ?_
  rintro e9 wa ⟨rfl, x, o⟩
  have HX8 : Hid (D8 w wa N sh mp g bp d m gf dur [⟨1, bl, ix, 0, xa1⟩, ⟨3, bl, ix, F, []⟩, ⟨2, bl, ix, 0, []⟩, ⟨1, bl, ix, 0, xb1⟩] ∧ Ow wa N q3 xa1 ∧ Ow wa N q4 xb1) := ⟨x, o.ow HX7.out.2.1, o.ow HX7.out.2.2⟩
  clear x o HX7 HC
  have HC : Hid (Calls _ _ _ wa _) := HX8.out.1.fetch_some bl ix F HQ.out.1 HQ.out.2.1 HQ.out.2.2.1 (Nat.le_of_eq HSt.out.2.2.2.2.2.2.2.2) HSt.out.2.2.2.2.2.2.2.1
  go_wp2_with fail
  refine HC.out.mono ?_
  rintro e9 wb ⟨vx, rfl, ox, x, o⟩
  have HX9 : Hid (D8 w wb N sh mp g bp d m gf dur [⟨1, bl, ix, 0, xa1⟩, ⟨3, bl, ix, F, []⟩, ⟨2, bl, ix, 0, []⟩, ⟨1, bl, ix, 0, xb1⟩]) := x
  have HC2 : Hid (Calls Tryz.prog 20 #[vx, q4] wb fun e u' => e = .returned (.bool true) ∧ u' = wb) := by
    have h9 := eq_own ox (o.ow HX8.out.2.2) HBy.out.2 HBy.out.2
    rw [decide_eq_true rfl] at h9
    exact h9
  have HC3 : Hid (Calls Tryz.prog 19 #[.pointer (some ⟨sh, 0, none⟩), .int .i64 (bl : Int), .int .i64 (ix : Int)] wb fun e u' => e = .returned (.int .i64 (F : Int)) ∧ u' = wb) := by
    have h9 := x.fenced bl ix HQ.out.1 HQ.out.2.1
    rw [HSt.out.2.2.2.2.2.2.2.2] at h9
    exact h9
  clear x o HX8 HC ox
  go_wp2_with fail
  refine HC2.out.mono ?_
  rintro e9 wc ⟨rfl, hw9⟩
  have hw8 := hw9.symm
  subst hw8
  clear hw9 HC2
  go_wp2_with fail
  refine HC3.out.mono ?_
  rintro e9 wc ⟨rfl, hw9⟩
  have hw8 := hw9.symm
  subst hw8
  clear hw9 HC3
  go_wp2
  go_ret
  exact ⟨rfl, HX9.out.k⟩
end Go.Proofs.YtmooddbhcccicaaGreatDoor

/- ShelfRoom. -/
namespace Go.Proofs.YtmooddbhcccicaaGreatDoor
set_option linter.unusedVariables false
set_option linter.unusedSimpArgs false
open Go.RowKit Go.Deep Go.Maps

theorem md200 (z : Int) : ∃ f : Nat, wrap64 ((IntKind.u64.wrap z).tmod 200) = (f : Int) ∧ f ≤ 199 := by
  have h1 : IntKind.u64.wrap z = z % 18446744073709551616 := by simp [IntKind.wrap, IntKind.bits, IntKind.signed]
  have h0 : 0 ≤ IntKind.u64.wrap z := by rw [h1]; omega
  have h2 : (IntKind.u64.wrap z).tmod 200 = IntKind.u64.wrap z % 200 := Int.tmod_eq_emod_of_nonneg h0
  refine ⟨((IntKind.u64.wrap z).tmod 200).toNat, ?_, ?_⟩
  · rw [h2]; unfold wrap64; omega
  · rw [h2]; omega
/-- the things of a round -/
abbrev kN : K3 := ⟨4, 5, 0⟩
/-- what is there ahead of round i -/
def nt (xs : List Nat) : Nat → K3 → Option Rc
  | 0 => fun _ => none
  | i + 1 => fun x => if x = kN then some ⟨4, 5, 0, 0, [i, 0] ++ xs⟩ else none
theorem stS_two {h : List Rc} {U : K3} (hU : U ≠ kN) (h1 : ∀ x o, (stS h).1 x = some o → x = kN ∨ x = U) (h2 : ∀ x o, (stS h).1 x = some o → secS o ≤ 4) : (stS h).2 ≤ 8 := by
  rw [stS_sum h [kN, U] (List.nodup_cons.2 ⟨by rw [List.mem_singleton]; exact fun e => hU e.symm, List.nodup_cons.2 ⟨List.not_mem_nil, List.nodup_nil⟩⟩) (fun x o ho => by
    rcases h1 x o ho with e | e
    · rw [e]; exact List.mem_cons_self
    · rw [e]; exact List.mem_cons_of_mem _ List.mem_cons_self)]
  have hf : ∀ x, fS h x ≤ 4 := fun x => by
    unfold fS
    cases hx : (stS h).1 x with
    | none => decide
    | some o => have := h2 x o hx; dsimp only; omega
  have a1 := hf kN
  have a2 := hf U
  show fS h kN + (fS h U + 0) ≤ 8
  omega
theorem secS_4 {r : Rc} (hg : GoodR r) (hb : r.b.length ≤ 103) : secS r ≤ 4 := by
  have h1 := (wrS_len hg).2.2
  show needW (wrS r) ≤ 4
  unfold needW
  omega
theorem gd4r {i : Nat} {xs : List Nat} (hx : ∀ z ∈ xs, z < 256) (hl : xs.length ≤ 101) (hi : i < 200) : GoodR ⟨4, 5, 0, 0, [i, 0] ++ xs⟩ := ⟨⟨show 1 ≤ 4 by omega, show 4 ≤ 4 by omega⟩, show 5 ≤ 1152921504606846976 by omega, show 0 ≤ 1152921504606846976 by omega, show 0 ≤ 1152921504606846976 by omega, fun z hz => by
  have hz2 : z ∈ ([i, 0] ++ xs : List Nat) := hz
  rcases List.mem_append.1 hz2 with h | h
  · rcases List.mem_cons.1 h with h | h
    · omega
    · rw [List.mem_singleton.1 h]; decide
  · exact hx z h, show ([i, 0] ++ xs).length ≤ 1980 by simp only [List.length_append, List.length_cons, List.length_nil]; omega, fun e => by rcases e with e | e <;> cases e⟩
theorem gd1r {i : Nat} {xs : List Nat} (hx : ∀ z ∈ xs, z < 256) (hl : xs.length ≤ 101) (hi : i < 200) : GoodR ⟨1, i, 0, 0, xs⟩ := ⟨⟨show 1 ≤ 1 by omega, show 1 ≤ 4 by omega⟩, show i ≤ 1152921504606846976 by omega, show 0 ≤ 1152921504606846976 by omega, show 0 ≤ 1152921504606846976 by omega, hx, show xs.length ≤ 1980 by omega, fun e => by rcases e with e | e <;> cases e⟩
theorem gd2r {i : Nat} (hi : i < 200) : GoodR ⟨2, i, 0, 0, []⟩ := ⟨⟨show 1 ≤ 2 by omega, show 2 ≤ 4 by omega⟩, show i ≤ 1152921504606846976 by omega, show 0 ≤ 1152921504606846976 by omega, show 0 ≤ 1152921504606846976 by omega, fun z hz => absurd hz List.not_mem_nil, show 0 ≤ 1980 by omega, fun _ => rfl⟩
/-- ahead of round i, and within: i notes, perhaps a shard -/
def In0 (xs : List Nat) (i : Nat) (h : List Rc) : Prop := (stS h).1 = nt xs i
def In2 (xs : List Nat) (i : Nat) (h : List Rc) : Prop := (stS h).1 = fun x => if x = ⟨1, (i : Int), 0⟩ then some ⟨1, i, 0, 0, xs⟩ else nt xs (i + 1) x
theorem nt_kN {xs : List Nat} {i : Nat} {x : K3} {o : Rc} (h : nt xs i x = some o) : x = kN ∧ ∃ j, i = j + 1 ∧ o = ⟨4, 5, 0, 0, [j, 0] ++ xs⟩ := by
  cases i with
  | zero => cases h
  | succ j =>
    have h : (if x = kN then some (⟨4, 5, 0, 0, [j, 0] ++ xs⟩ : Rc) else none) = some o := h
    by_cases e : x = kN
    · rw [if_pos e] at h
      cases h
      exact ⟨e, j, rfl, rfl⟩
    · rw [if_neg e] at h
      cases h
section
variable {xs : List Nat} {i : Nat} {h h' : List Rc}
theorem kNU : (⟨1, (i : Int), 0⟩ : K3) ≠ kN := fun e => by cases e
theorem In0.note (x : In0 xs i h) (he : stS h' = stS (h ++ [⟨4, 5, 0, 0, [i, 0] ++ xs⟩])) : In0 xs (i + 1) h' := by
  show (stS h').1 = _
  rw [he]
  funext y
  rw [stS_at, x]
  show (if y = kN then some _ else nt xs i y) = if y = kN then some _ else none
  by_cases e : y = kN
  · rw [if_pos e, if_pos e]
  · rw [if_neg e, if_neg e]
    cases hy : nt xs i y with
    | none => rfl
    | some o => exact absurd (nt_kN hy).1 e
theorem In0.store (x : In0 xs (i + 1) h) (he : stS h' = stS (h ++ [⟨1, i, 0, 0, xs⟩])) : In2 xs i h' := by
  show (stS h').1 = _
  rw [he]
  funext y
  rw [stS_at, x]
  rfl
theorem In2.drop (x : In2 xs i h) (he : stS h' = stS (h ++ [⟨2, i, 0, 0, []⟩])) : In0 xs (i + 1) h' := by
  show (stS h').1 = _
  rw [he]
  funext y
  rw [stS_at, x]
  show (if y = ⟨1, (i : Int), 0⟩ then none else if y = ⟨1, (i : Int), 0⟩ then _ else nt xs (i + 1) y) = _
  by_cases e : y = ⟨1, (i : Int), 0⟩
  · rw [if_pos e, e]
    show none = if (⟨1, (i : Int), 0⟩ : K3) = kN then some (⟨4, 5, 0, 0, [i, 0] ++ xs⟩ : Rc) else none
    rw [if_neg kNU]
  · rw [if_neg e, if_neg e]
theorem In0.le (x : In0 xs i h) (hx : ∀ z ∈ xs, z < 256) (hl : xs.length ≤ 101) (hi : i ≤ 200) : (stS h).2 ≤ 8 := by
  refine stS_two (U := ⟨1, 0, 0⟩) (fun e => by cases e) (fun y o ho => Or.inl ?_) (fun y o ho => ?_)
  · rw [x] at ho
    exact (nt_kN ho).1
  · rw [x] at ho
    obtain ⟨_, j, e1, rfl⟩ := nt_kN ho
    exact secS_4 (gd4r hx hl (by omega)) (show ([j, 0] ++ xs).length ≤ 103 by simp only [List.length_append, List.length_cons, List.length_nil]; omega)
theorem In2.le (x : In2 xs i h) (hx : ∀ z ∈ xs, z < 256) (hl : xs.length ≤ 101) (hi : i < 200) : (stS h).2 ≤ 8 := by
  have hh : ∀ y o, (stS h).1 y = some o → (y = ⟨1, (i : Int), 0⟩ ∧ o = ⟨1, i, 0, 0, xs⟩) ∨ nt xs (i + 1) y = some o := fun y o ho => by
    rw [x] at ho
    have ho : (if y = ⟨1, (i : Int), 0⟩ then some (⟨1, i, 0, 0, xs⟩ : Rc) else nt xs (i + 1) y) = some o := ho
    by_cases e : y = ⟨1, (i : Int), 0⟩
    · exact Or.inl ⟨e, by rw [if_pos e] at ho; exact (Option.some.inj ho).symm⟩
    · exact Or.inr (by rw [if_neg e] at ho; exact ho)
  refine stS_two (U := ⟨1, (i : Int), 0⟩) kNU (fun y o ho => ?_) (fun y o ho => ?_)
  · rcases hh y o ho with e | e
    · exact Or.inr e.1
    · exact Or.inl (nt_kN e).1
  · rcases hh y o ho with e | e
    · rw [e.2]
      exact secS_4 (gd1r hx hl hi) (show xs.length ≤ 103 by omega)
    · obtain ⟨_, j, e1, rfl⟩ := nt_kN e
      exact secS_4 (gd4r hx hl (by omega)) (show ([j, 0] ++ xs).length ≤ 103 by simp only [List.length_append, List.length_cons, List.length_nil]; omega)
theorem In2.there (x : In2 xs i h) : ∃ o, (stS h).1 ⟨1, (i : Int), 0⟩ = some o := ⟨⟨1, i, 0, 0, xs⟩, by rw [x]; exact if_pos rfl⟩
theorem In0.noShard (x : In0 xs i h) : ∀ y : K3, y.k = 1 → (stS h).1 y = none := fun y hy => by
  rw [x]
  cases hn : nt xs i y with
  | none => rfl
  | some o =>
    rw [(nt_kN hn).1] at hy
    cases hy
theorem In0.fn (x : In0 xs i h) (a b : Nat) : fncd h a b = 0 := by
  unfold fncd
  rw [x]
  cases hn : nt xs i ⟨3, (a : Int), (b : Int)⟩ with
  | none => rfl
  | some o =>
    have := (nt_kN hn).1
    cases this
theorem In0.newer (x : In0 xs i h) : ∀ o, (stS h).1 ⟨4, ((5 : Nat) : Int), 0⟩ = some o → o.b ≠ [i, 0] ++ xs := fun o ho e => by
  rw [x] at ho
  obtain ⟨_, j, e1, rfl⟩ := nt_kN ho
  have e2 : j = i := (List.cons.inj (show j :: ([0] ++ xs) = i :: ([0] ++ xs) from e)).1
  omega
end
/-- the verifier's shelf in memory -/
structure R8 (w u : World) (Z : Nat → Prop) (v : Value) (xs : List Nat) (sh mp g bp d m gf N : Nat) (h : List Rc) : Prop where
  s : Shr u Z sh mp g bp d m gf 38 1 N h
  k : Kp (fun _ => False) w u
  z : ∀ b, SW6 sh mp g m gf d b → w.heap.size ≤ b
  o : Ow u w.heap.size v xs
  ob : ∀ c, v.ownBlock = some c → ¬ SW6 sh mp g m gf d c
section
variable {w u : World} {Z : Nat → Prop} {v : Value} {xs : List Nat} {sh mp g bp d m gf N : Nat} {h : List Rc}
theorem R8.keep0 (x : R8 w u Z v xs sh mp g bp d m gf N h) {u' : World} (k : Kp (fun _ => False) u u') : R8 w u' Z v xs sh mp g bp d m gf N h :=
  ⟨x.s.keep0 k, x.k.trans k (fun _ _ e => e), x.z, ownsRow_keep x.o k (fun _ _ e => e), x.ob⟩
theorem R8.step (x : R8 w u Z v xs sh mp g bp d m gf N h) {u' : World} {H : Nat} {r : Rc} (k : Kp (SW6 sh mp g m gf d) u u') (hW : Wrd u' H sh mp g bp d m gf 38 1 N h r) (hH : u.heap.size ≤ H) : ∃ Z' gf' h', R8 w u' Z' v xs sh mp g bp d m gf' (N + 1) h' ∧ stS h' = stS (h ++ [r]) := by
  obtain ⟨Z', gf', h', e, hs, he⟩ := hW
  have hz : ∀ b, SW6 sh mp g m gf' d b → SW6 sh mp g m gf d b ∨ u.heap.size ≤ b := fun b hb => by
    rcases e with rfl | e
    · exact Or.inl hb
    · rcases hb with h1 | h1 | h1 | h1 | h1 | h1
      · exact Or.inl (Or.inl h1)
      · exact Or.inl (Or.inr (Or.inl h1))
      · exact Or.inl (Or.inr (Or.inr (Or.inl h1)))
      · exact Or.inr (by omega)
      · exact Or.inl (Or.inr (Or.inr (Or.inr (Or.inr (Or.inl h1)))))
      · exact Or.inl (Or.inr (Or.inr (Or.inr (Or.inr (Or.inr h1)))))
  refine ⟨Z', gf', h', ⟨hs, x.k.trans k (fun b hb hw => by have := x.z b hw; omega), fun b hb => (hz b hb).elim (x.z b) (fun h1 => Nat.le_trans x.k.size h1), ownsRow_keep x.o k (fun b hb => x.ob b hb), fun c hc hw => ?_⟩, he⟩
  rcases hz c hw with h1 | h1
  · exact x.ob c hc h1
  · have := (ownBlock_lt x.o hc).2
    omega
theorem R8.step0 (x : R8 w u Z v xs sh mp g bp d m gf N h) {u' : World} (k : Kp (fun b => b = d ∨ b = m) u u') (hs : Shr u' Z sh mp g bp d m gf 38 1 N h) : R8 w u' Z v xs sh mp g bp d m gf N h := by
  have hb : ∀ b, (b = d ∨ b = m) → SW6 sh mp g m gf d b := fun b e => e.elim Or.inl (fun e => Or.inr (Or.inl e))
  exact ⟨hs, x.k.trans k (fun b hb9 e => by have := x.z b (hb b e); omega), x.z, ownsRow_keep x.o k (fun b hb9 e => x.ob b hb9 (hb b e)), x.ob⟩
end
theorem Shf.shr {w : World} {Z : Nat → Prop} {sh mp g bp d m gf s b y : Nat} {dur : List Nat} (x : Shf w Z sh mp g bp d m gf s 1 b 0 1 y dur []) (hd : d ≠ sh ∧ d ≠ mp) (hs : 4 ≤ s) : Shr w (fun _ => False) sh mp g bp d m gf s b 0 [] := by
  obtain ⟨q, lt, T, hl⟩ := x.lg
  have hlt := hl.hl
  refine ⟨⟨q, 1, 0, 1, lt, y, dur, T, hl, by omega, by simp only [List.map_nil, List.length_nil] at hlt; omega⟩, ⟨x.sk.l, ?_, x.sk.g, x.sk.n⟩, x.tu, fun _ e => e.elim, ⟨x.ap.1, id, id⟩, fun b hb => ⟨id, ?_⟩, ⟨x.ar.1, x.ar.2.1⟩, x.at_, ?_, Nat.le_refl _⟩
  · obtain ⟨c, T', h1, h2, h3⟩ := x.sk.m
    exact ⟨c, T', h1, h2, fun y hy => ⟨(h3 y hy).1, fun o ho => by rw [stS_nil] at ho; cases ho⟩⟩
  · rcases hb with e | e
    · rw [e]; exact hd
    · exact (x.aq b e).2
  · rw [stS_nil]
    show ((totW [] : Nat) : Int) + 0 ≤ _
    have : totW [] = 0 := rfl
    omega
theorem slice_firstR (p : Option Addr) (n c r : Nat) (hr : r ≤ c) (w : World) :
    (Instr.sliceAt 34 (.slice p n c) none (some (.int .i64 (r : Int))) none).run Tryz.prog w = .ok (.slice p r c) w := by
  have hs := slice_firstO p n c r hr w
  simp [Instr.sliceAt, run_underlying Tryz.underlying34, hs]
section
variable {w u : World} {Z : Nat → Prop} {v : Value} {xs : List Nat} {sh mp g bp d m gf N i : Nat} {h : List Rc}
theorem R8.note (x : R8 w u Z v xs sh mp g bp d m gf N h) (hi : In0 xs i h) (hx : ∀ z ∈ xs, z < 256) (hl : xs.length ≤ 101) (h2 : i < 200) (hN : N + 1 ≤ 1000) {B : Nat} {v5 : Value} (o5 : Ow u B v5 ([i, 0] ++ xs)) :
    Calls Tryz.prog 29 #[.pointer (some ⟨sh, 0, none⟩), .int .i64 5, v5] u fun e9 u' => e9 = .returned (.int .i64 0) ∧ ∃ Z' gf' h', R8 w u' Z' v xs sh mp g bp d m gf' (N + 1) h' ∧ In0 xs (i + 1) h' := by
  have hg := gd4r hx hl h2
  obtain ⟨_, _, _, _, hb, hbl, _⟩ := hg
  obtain ⟨p5, c5, rfl, _, hr5, _⟩ := o5.rb hb
  have hg := gd4r hx hl h2
  have hs := secS_4 hg (show ([i, 0] ++ xs).length ≤ 103 by simp only [List.length_append, List.length_cons, List.length_nil]; omega)
  have hle := hi.le hx hl (by omega)
  refine (rnote_ok x.s 5 (by omega) p5 _ c5 _ hr5 rfl hbl hb hN (by omega)).mono ?_
  rintro e9 u' (⟨⟨o, ho, e⟩, _, _⟩ | ⟨_, rfl, k, hW⟩)
  · exact absurd e (hi.newer o ho)
  · obtain ⟨Z', gf', h', hr, he⟩ := x.step k hW (Nat.le_refl _)
    exact ⟨rfl, Z', gf', h', hr, hi.note he⟩
theorem R8.store (x : R8 w u Z v xs sh mp g bp d m gf N h) (hi : In0 xs (i + 1) h) (hx : ∀ z ∈ xs, z < 256) (hl : 1 ≤ xs.length ∧ xs.length ≤ 101) (h2 : i < 200) (hN : N + 1 ≤ 1000) :
    Calls Tryz.prog 14 #[.pointer (some ⟨sh, 0, none⟩), .int .i64 (i : Int), .int .i64 0, .int .i64 0, v] u fun e9 u' => e9 = .returned (.int .i64 0) ∧ ∃ Z' gf' h', R8 w u' Z' v xs sh mp g bp d m gf' (N + 1) h' ∧ In2 xs i h' := by
  obtain ⟨p5, c5, rfl, _, hr5, _⟩ := x.o.rb hx
  have hs := secS_4 (gd1r hx hl.2 h2) (show xs.length ≤ 103 by omega)
  have hle := hi.le hx hl.2 (by omega)
  refine (rstore_ok x.s i 0 0 (by omega) (by omega) (by omega) p5 _ c5 xs hr5 rfl (by omega) hx hN (by omega)).mono ?_
  rintro e9 u' (⟨e, _, _⟩ | ⟨_, _, rfl, k, hW⟩ | ⟨_, o, ho, _⟩)
  · rw [hi.fn] at e
    exact absurd e (Nat.lt_irrefl _)
  · obtain ⟨Z', gf', h', hr, he⟩ := x.step k hW (Nat.le_refl _)
    exact ⟨rfl, Z', gf', h', hr, hi.store he⟩
  · have := hi.noShard ⟨1, (i : Int), ((0 : Nat) : Int)⟩ rfl
    rw [this] at ho
    cases ho
theorem R8.drop (x : R8 w u Z v xs sh mp g bp d m gf N h) (hi : In2 xs i h) (hx : ∀ z ∈ xs, z < 256) (hl : xs.length ≤ 101) (h2 : i < 200) (hN : N + 1 ≤ 1000) :
    Calls Tryz.prog 22 #[.pointer (some ⟨sh, 0, none⟩), .int .i64 (i : Int), .int .i64 0] u fun e9 u' => e9 = .returned (.int .i64 0) ∧ ∃ Z' gf' h', R8 w u' Z' v xs sh mp g bp d m gf' (N + 1) h' ∧ In0 xs (i + 1) h' := by
  have hs := secS_4 (gd2r h2) (Nat.zero_le _)
  have hle := hi.le hx hl h2
  refine (rdrop_ok x.s i 0 (by omega) (by omega) hN (by omega)).mono ?_
  rintro e9 u' (⟨e, _, _⟩ | ⟨_, rfl, k, hW⟩)
  · obtain ⟨o, ho⟩ := hi.there
    have e2 : (stS h).1 ⟨1, (i : Int), 0⟩ = none := e
    rw [ho] at e2
    cases e2
  · obtain ⟨Z', gf', h', hr, he⟩ := x.step k hW (Nat.le_refl _)
    exact ⟨rfl, Z', gf', h', hr, hi.drop he⟩
end
theorem In0.ntd0 {xs : List Nat} {h : List Rc} (x : In0 xs 0 h) : ntd h 5 = [] := by unfold ntd; rw [x]; rfl
theorem In0.ntd1 {xs : List Nat} {h : List Rc} {j : Nat} (x : In0 xs (j + 1) h) : ntd h 5 = [j, 0] ++ xs := by unfold ntd; rw [x]; rfl
theorem ow_one {w : World} : Ow (w.alloc (.cells #[.int .u8 1] 5)) w.heap.size (.slice (some ⟨w.heap.size, 0, none⟩) 1 1) [1] := ⟨rfl, .inr ⟨w.heap.size, 1, #[.int .u8 1], rfl, Nat.le_refl _, heap_alloc_new w _, Nat.le_refl _, by unfold maxLen; omega, rfl, rfl⟩⟩
theorem rb_one9 {w : World} : Rb (w.alloc (.cells #[.int .u8 1] 5)) (some ⟨w.heap.size, 0, none⟩) 1 [1] := rb_one w 1 (by decide)
theorem ow_two {w : World} (i : Nat) : Ow (w.alloc (.cells #[.int .u8 (i : Int), .int .u8 0] 5)) w.heap.size (.slice (some ⟨w.heap.size, 0, none⟩) 2 2) [i, 0] := ⟨rfl, .inr ⟨w.heap.size, 2, #[.int .u8 (i : Int), .int .u8 0], rfl, Nat.le_refl _, heap_alloc_new w _, Nat.le_refl _, by unfold maxLen; omega, rfl, rfl⟩⟩
theorem slice_twoR (p : Option Addr) (n c : Nat) (hc : n ≤ c) (h1 : 2 ≤ n) (w : World) :
    (Instr.sliceAt 34 (.slice p n c) (some (.int .i64 2)) none none).run Tryz.prog w = .ok (.slice (if c = 2 then p else p.map (·.add (2 * 1))) (n - 2) (c - 2)) w := by
  have h : (Instr.slice 34 (.slice p n c) (some (.int .i64 2)) none none).run Tryz.prog w = .ok (.slice (if c = 2 then p else p.map (·.add (2 * 1))) (n - 2) (c - 2)) w := by
    obtain ⟨i, hi, hz⟩ := Option.map_eq_some_iff.1 info5
    simp only [Prod.mk.injEq] at hz
    obtain ⟨hz, hs, hb⟩ := hz
    have h2 : (n : Int) ≤ (c : Int) := by omega
    have h3 : (2 : Int) ≤ (n : Int) := by omega
    have h4 : ¬ n < 2 := by omega
    simp [Instr.slice, Instr.sliceBounds, Instr.sliceBound, asIntOf, run_underlying Tryz.underlying34, sizeOf, typeInfo, hi, hs, h2, h3, hc, h1, h4]
  simp [Instr.sliceAt, run_underlying Tryz.underlying34, h]

set_option maxRecDepth 100000 in
set_option maxHeartbeats 6400000 in
theorem shelfRoom_walk (z0 : Int) (pb : Option Addr) (nb cb : Nat) (xb : List Nat) (w : World) (h0 : (Lit.int .i64 z0).wf = true)
    (rb : Rb w pb nb xb) (lcb : nb ≤ cb) (sb : Hid (nb ≤ 140737488355328)) (ht : Turns w) :
    Calls Tryz.prog 6 #[.int .i64 z0, .slice pb nb cb] w fun e w' => e = .returned (.bool true) ∧ Kp (fun _ => False) w w' := by
  have HTl : Hid ((0 : Nat) < w.heap.size) := World.block_lt_of_cell? _ _ (ht 0 (by decide))
  have HNw : Hid (Calls Tryz.prog 28 #[.int .i64 40] w _) := new_ok 40 w (by omega) (by omega)
  have HT : Hid (Turns w) := ht
  have HB : Hid (Rb w pb nb xb ∧ nb ≤ cb ∧ nb ≤ 140737488355328) := ⟨rb, lcb, sb.out⟩
  clear rb lcb sb ht
  go_enter Tryz.func6, Tryz.ntmps6
  go_wp2_with fail
  refine HNw.out.mono ?_
  rintro e9 w1 ⟨bp, d, m, rfl, k1, hb, hd, hm, p1⟩
  have HK1 : Hid (Kp (fun _ => False) w w1) := k1
  have HG : Hid (w.heap.size ≤ bp ∧ w.heap.size ≤ d ∧ w.heap.size ≤ m ∧ w.heap.size ≤ w1.heap.size ∧ d < w1.heap.size) := ⟨hb, hd, hm, k1.size, p1.row.lt⟩
  have HO : Hid (Calls _ _ _ w1 _) := sopen_new (s := 38) p1 (by decide) (fun j hj => k1.cellv (HT.out j hj) id) (by have h1 := HTl.out; exact ⟨by omega, by omega⟩)
  clear hb hd hm p1 k1 HNw
  go_wp2_with fail
  refine HO.out.mono ?_
  rintro e9 w2 ⟨sh, mp, g, gf, dur, rfl, k2, hz, s2⟩
  have HF2 : Hid (Kp (fun _ => False) w w2 ∧ (∀ b, SW6 sh mp g m gf d b → w.heap.size ≤ b) ∧ Shr w2 (fun _ => False) sh mp g bp d m gf 38 1 0 []) := by
    have := HG.out
    exact ⟨HK1.out.trans k2 (fun b hb9 e => by omega), fun b hb => by rcases hb with e | e | e | e | e | e <;> omega, s2.shr ⟨by omega, by omega⟩ (by decide)⟩
  clear k2 hz s2 HO HK1 HT HTl HG
  obtain ⟨L, eL, hL⟩ := md200 z0
  obtain ⟨lb, hlb⟩ : ∃ lb, lb = min nb 100 := ⟨_, rfl⟩
  have hmin : min (nb : Int) 100 = (lb : Int) := by rw [hlb]; exact min100 nb
  have hsl : ∀ z, (Instr.sliceAt 34 (.slice pb nb cb) none (some (.int .i64 (lb : Int))) none).run Tryz.prog z = .ok (.slice pb lb cb) z := fun z => slice_firstR pb nb cb lb (by have := HB.out; omega) z
  have HCl : Hid (Calls Tryz.prog 13 #[.slice pb lb cb] w2 _) := clone_any pb lb cb (xb.take lb) w2 ((HB.out.1.keep0 HF2.out.1).fst (m := lb) (by omega)) (by show _ ≤ _; omega)
  have HLb : Hid ((xb.take lb).length ≤ 100 ∧ (∀ x ∈ xb.take lb, x < 256) ∧ L ≤ 199) := ⟨by rw [List.length_take]; omega, fun x hx => HB.out.1.byte x (List.mem_of_mem_take hx), hL⟩
  obtain ⟨ya, hya⟩ : ∃ ya, ya = xb.take lb := ⟨_, rfl⟩
  rw [← hya] at HCl HLb
  clear h0 hlb hL hya HB
  go_wp2_with fail
  rw [eL]
  clear eL
  refine HCl.out.mono ?_
  rintro e9 w3 ⟨v3, rfl, k3, o3⟩
  obtain ⟨w4, hw4⟩ : ∃ z, z = w3.alloc (.cells #[.int .u8 1] 5) := ⟨_, rfl⟩
  have k4 : Kp (fun _ => False) w3 w4 := by rw [hw4]; exact (Kp.refl _ _).alloc _
  have HO4 : Hid (Ow w4 w2.heap.size v3 ya) := ownsRow_keep o3 k4 (fun _ _ e => e)
  have HR4 : Hid (Rb w4 (some ⟨w3.heap.size, 0, none⟩) 1 [1]) := by rw [hw4]; exact rb_one9
  have HK4 : Hid (Kp (fun _ => False) w2 w4) := k3.trans k4 (fun _ _ e => e)
  clear k3 o3 k4 HCl hsl hmin
  go_wp2_with (at_builtin; refine wpList_append_bytes (w3.alloc (.cells #[.int .u8 1] 5)) rfl _ _ rfl w2.heap.size v3 ya rfl (by rw [← hw4]; exact HO4.out) (some ⟨w3.heap.size, 0, none⟩) 1 1 [1] rfl (by rw [← hw4]; exact HR4.out) (by have := HLb.out; omega) (by rw [← hw4]; exact HK4.out.size) ?_; intro v5 w5 o5 k5 hv5; rw [← hw4] at k5 hv5)
  have HI : Hid (R8 w w5 (fun _ => False) v5 (ya ++ [1]) sh mp g bp d m gf 0 []) := by
    have hb3 : ∀ c, v3.ownBlock = some c → w2.heap.size ≤ c := fun c hc => (ownBlock_lt HO4.out hc).1
    have hb5 : ∀ c, v5.ownBlock = some c → w2.heap.size ≤ c := fun c hc => by
      rcases hv5 with e | e
      · exact hb3 c (e ▸ hc)
      · have := HK4.out.size
        rw [hc] at e
        have e2 := Option.some.inj e
        omega
    have hsz := HF2.out.1.size
    obtain ⟨q, a, c, e, lt, y, dur', T, hl, _⟩ := HF2.out.2.2.lg
    have hbp := hl.blk.2.1
    have htl := HF2.out.2.2.tu.lt
    refine ⟨(HF2.out.2.2.keep0 HK4.out).keep k5 (fun b hb hc => ?_), (HF2.out.1.trans HK4.out (fun _ _ e => e)).trans k5 (fun b hb hc => by have := hb3 b hc; omega), HF2.out.2.1, ownsRow_base o5 hsz, fun c hc hw => ?_⟩
    · have h1 := hb3 b hc
      rcases hb with rfl | hb | hb | rfl
      · omega
      · have := HF2.out.2.2.blk b hb
        omega
      · exact hb
      · omega
    · have h1 := hb5 c hc
      have := HF2.out.2.2.blk c hw
      omega
  obtain ⟨xs, hxs⟩ : ∃ xs, xs = ya ++ [1] := ⟨_, rfl⟩
  have HX : Hid ((∀ z ∈ xs, z < 256) ∧ 1 ≤ xs.length ∧ xs.length ≤ 101 ∧ L ≤ 199) := by
    have := HLb.out
    refine ⟨fun z hz => ?_, ?_, ?_, this.2.2⟩
    · rw [hxs] at hz
      rcases List.mem_append.1 hz with h | h
      · exact this.2.1 z h
      · rw [List.mem_singleton.1 h]; decide
    · rw [hxs]; simp only [List.length_append, List.length_cons, List.length_nil]; omega
    · rw [hxs]; simp only [List.length_append, List.length_cons, List.length_nil]; omega
  rw [← hxs] at HI
  clear hxs HO4 HR4 HK4 HF2 HLb o5 k5 hv5 hw4
  obtain ⟨p5, c5, hv5, hc5, _, _⟩ := HI.out.o.rb HX.out.1
  subst hv5
  obtain ⟨M, hM⟩ : ∃ M, M = xs.length := ⟨_, rfl⟩
  have HM : Hid (M = xs.length ∧ M ≤ c5) := ⟨hM, by rw [hM]; exact hc5⟩
  rw [← hM] at HI
  rw [← hM]
  clear hc5 hM
  go_loopg [39] L (fun gk iv wr => ∃ (i : Nat) (Z : Nat → Prop) (gf' : Nat) (h : List Rc), i ≤ L ∧ gk = L - i ∧ iv = .int .i64 (i : Int) ∧ Hid (R8 w wr Z (.slice p5 M c5) xs sh mp g bp d m gf' (3 * i) h ∧ In0 xs i h))
  case atStart => exact ⟨0, _, _, _, Nat.zero_le _, rfl, rfl, HI.out, by show (stS []).1 = _; rw [stS_nil]; rfl⟩
  case round =>
    obtain ⟨i, Z, gf', h, hi, rfl, rfl, HR⟩ := hrel
    by_cases hlt : i < L
    · have hlt2 : (i : Int) < (L : Int) := by omega
      have hw1 : wrap64 ((i : Int) + 1) = ((i + 1 : Nat) : Int) := by have := HX.out; unfold wrap64; omega
      have hu7 : (i : Int) % 256 = (i : Int) := by have := HX.out; omega
      have hu8 : (i : Int) / 256 % 256 = 0 := by have := HX.out; omega
      have HJ : Hid (i < L) := hlt
      obtain ⟨u1, hu1⟩ : ∃ z, z = wr.alloc (.cells #[.int .u8 ((i : Int) % 256), .int .u8 ((i : Int) / 256 % 256)] 5) := ⟨_, rfl⟩
      have k1 : Kp (fun _ => False) wr u1 := by rw [hu1]; exact (Kp.refl _ _).alloc _
      have HO1 : Hid (Ow u1 wr.heap.size (.slice (some ⟨wr.heap.size, 0, none⟩) 2 2) [i, 0] ∧ wr.heap.size < u1.heap.size) := by rw [hu1, hu8, hu7]; exact ⟨ow_two i, by simp⟩
      have HRb : Hid (Rb u1 p5 M xs) := by
        obtain ⟨p9, c9, e, _, hr, _⟩ := HR.out.1.o.rb HX.out.1
        cases e
        exact hr.keep0 k1
      have HK1 : Hid (Kp (fun _ => False) wr u1) := k1
      clear hlt k1 hu8 hu7
      go_wp2_with (at_builtin; refine wpList_append_bytes (wr.alloc (.cells #[.int .u8 ((i : Int) % 256), .int .u8 ((i : Int) / 256 % 256)] 5)) rfl _ _ rfl wr.heap.size (.slice (some ⟨wr.heap.size, 0, none⟩) 2 2) [i, 0] rfl (by rw [← hu1]; exact HO1.out.1) p5 M c5 xs rfl (by rw [← hu1]; exact HRb.out) (by have := HX.out; have := HM.out; show 2 + M ≤ _; omega) (by rw [← hu1]; exact HK1.out.size) ?_; intro v2 u2 o2 k2 hv2; rw [← hu1] at k2)
      have kk2 : Kp (fun _ => False) wr u2 := HK1.out.trans k2 (fun b hb e => by have := (ownBlock_lt HO1.out.1 e).1; omega)
      have HC : Hid (Calls _ _ _ u2 _) := (HR.out.1.keep0 kk2).note HR.out.2 HX.out.1 HX.out.2.2.1 (by have := HX.out; have := HJ.out; omega) (by have := HX.out; have := HJ.out; omega) o2
      clear HR o2 k2 hv2 kk2 HO1 HRb HK1 hu1
      refine HC.out.mono ?_
      rintro e9 u3 ⟨rfl, Z3, gf3, h3, r3, i3⟩
      have HC3 : Hid (Calls _ _ _ u3 _) := r3.store i3 HX.out.1 ⟨HX.out.2.1, HX.out.2.2.1⟩ (by have := HX.out; have := HJ.out; omega) (by have := HX.out; have := HJ.out; omega)
      go_wp2_with fail
      refine HC3.out.mono ?_
      rintro e9 u4 ⟨rfl, Z4, gf4, h4, r4, i4⟩
      have HC4 : Hid (Calls _ _ _ u4 _) := r4.drop i4 HX.out.1 HX.out.2.2.1 (by have := HX.out; have := HJ.out; omega) (by have := HX.out; have := HJ.out; omega)
      clear r4 i4 r3 i3 HC HC3
      go_wp2_with fail
      refine HC4.out.mono ?_
      rintro e9 u5 ⟨rfl, Z5, gf5, h5, r5, i5⟩
      have HE5 : Hid (R8 w u5 Z5 (.slice p5 M c5) xs sh mp g bp d m gf5 (3 * (i + 1)) h5 ∧ In0 xs (i + 1) h5) := ⟨r5, i5⟩
      clear r5 i5 HC4
      go_wp2
      go_roundg (L - (i + 1))
      case rel => exact ⟨i + 1, Z5, gf5, h5, HJ.out, rfl, by first | rw [hw1] | (simp; done), HE5.out⟩
      case measure => exact Nat.sub_lt_sub_left HJ.out (Nat.lt_succ_self i)
    · have hiL : i = L := by omega
      subst hiL
      have hlt2 : ¬ ((i : Int) < (i : Int)) := by omega
      have HN : Hid (Calls _ _ _ wr _) := r8noted_ok HR.out.1.s.sk 5 (by omega)
      clear hlt
      go_wp2_with fail
      refine HN.out.mono ?_
      rintro e9 u1 ⟨v1, rfl, k1, o1, b1⟩
      have HR1 : Hid (R8 w u1 Z (.slice p5 M c5) xs sh mp g bp d m gf' (3 * i) h ∧ In0 xs i h) := ⟨HR.out.1.keep0 k1, HR.out.2⟩
      have HO1 : Hid (Ow u1 wr.heap.size v1 (ntd h 5) ∧ ∀ z ∈ ntd h 5, z < 256) := ⟨o1, b1⟩
      have HH : Hid (Calls _ _ _ u1 _) := r8held_none HR1.out.1.s.sk HR1.out.2.noShard
      have HDM : Hid (d < wr.heap.size ∧ m < wr.heap.size) := ⟨HR.out.1.s.blk d (Or.inl rfl), HR.out.1.s.blk m (Or.inr (Or.inl rfl))⟩
      clear k1 o1 b1 HN HR
      obtain ⟨q1, c1, hv1, hc1, _, _⟩ := HO1.out.1.rb HO1.out.2
      subst hv1
      obtain ⟨K, hK⟩ : ∃ K, K = (ntd h 5).length := ⟨_, rfl⟩
      have HKK : Hid (K = (ntd h 5).length ∧ K ≤ c1) := ⟨hK, by rw [hK]; exact hc1⟩
      rw [← hK] at HO1
      rw [← hK]
      clear hK hc1
      go_wp2_with fail
      refine HH.out.mono ?_
      rintro e9 u2 ⟨⟨q2, c2, rfl⟩, k2⟩
      have HR2 : Hid (R8 w u2 Z (.slice p5 M c5) xs sh mp g bp d m gf' (3 * i) h ∧ In0 xs i h) := ⟨HR1.out.1.keep0 k2, HR1.out.2⟩
      have HO2 : Hid (Ow u2 wr.heap.size (.slice q1 K c1) (ntd h 5) ∧ ∀ z ∈ ntd h 5, z < 256) := ⟨ownsRow_keep HO1.out.1 k2 (fun _ _ e => e), HO1.out.2⟩
      have HSy : Hid (Calls _ _ _ u2 _) := r8sync_ok HR2.out.1.s
      clear k2 HR1 HO1 HH
      go_wp2_with fail
      refine HSy.out.mono ?_
      rintro e9 u3 ⟨rfl, k3, s3⟩
      have HR3 : Hid (R8 w u3 Z (.slice p5 M c5) xs sh mp g bp d m gf' (3 * i) h ∧ In0 xs i h) := ⟨HR2.out.1.step0 k3 s3, HR2.out.2⟩
      have HO3 : Hid (Ow u3 wr.heap.size (.slice q1 K c1) (ntd h 5)) := ownsRow_keep HO2.out.1 k3 (fun b hb e => by
        have h1 := (ownBlock_lt HO2.out.1 hb).1
        have h2 := HDM.out
        rcases e with e | e <;> omega)
      have HB3 : Hid (∀ z ∈ ntd h 5, z < 256) := HO2.out.2
      have HLf : Hid (Calls _ _ _ u3 _) := r8life_ok HR3.out.1.s
      clear HSy HO2 HR2 k3 s3 HDM
      rcases Nat.eq_zero_or_pos i with h0 | h0
      · subst h0
        have hK0 : K = 0 := by rw [HKK.out.1, HR3.out.2.ntd0]; rfl
        subst hK0
        go_wp2_with fail
        refine HLf.out.mono ?_
        rintro e9 w9 ⟨rfl, hw9⟩
        have hw8 := hw9.symm
        subst hw8
        clear hw9 HLf
        go_wp2
        go_ret
        exact ⟨rfl, HR3.out.1.k⟩
      · obtain ⟨j, rfl⟩ : ∃ j, i = j + 1 := ⟨i - 1, by omega⟩
        have hne : ((((j + 1 : Nat) : Int)) == (0 : Int)) = false := by rw [beq_eq_false_iff_ne]; omega
        have hnt := HR3.out.2.ntd1
        have hKM : K = M + 2 := by
          rw [HKK.out.1, hnt, HM.out.1, List.length_append]
          exact Nat.add_comm _ _
        have hwm : wrap64 ((M : Int) + 2) = (K : Int) := by have := HM.out; have := HX.out; unfold wrap64; omega
        obtain ⟨q3, hq3⟩ : ∃ q3, q3 = (if c1 = 2 then q1 else q1.map (·.add (2 * 1))) := ⟨_, rfl⟩
        have hsl : ∀ z, (Instr.sliceAt 34 (.slice q1 K c1) (some (.int .i64 2)) none none).run Tryz.prog z = .ok (.slice q3 M (c1 - 2)) z := fun z => by
          have h1 := slice_twoR q1 K c1 HKK.out.2 (by omega) z
          rw [h1, ← hq3]
          congr 2
          omega
        have HEq : Hid (Calls Tryz.prog 20 #[.slice q3 M (c1 - 2), .slice p5 M c5] u3 fun e w' => e = .returned (.bool true) ∧ w' = u3) := by
          obtain ⟨p9, c9, e, _, hr, _⟩ := HR3.out.1.o.rb HX.out.1
          cases e
          obtain ⟨p8, c8, e, hc8, hr8, _⟩ := HO3.out.rb HB3.out
          cases e
          have hp := hr8.part hc8 (l := 2) (r := (ntd h 5).length) (by have := HKK.out.1; omega) (Nat.le_refl _)
          rw [List.take_length, ← hq3, hnt] at hp
          have hp2 : Rb u3 q3 xs.length xs := by
            have e2 : ([j, 0] ++ xs).length - 2 = xs.length := by simp only [List.length_append, List.length_cons, List.length_nil]; omega
            rw [e2] at hp
            exact hp
          have h9 := equal_any (c1 - 2) c5 u3 hp2 hr
          rw [decide_eq_true rfl] at h9
          exact h9
        have HJ1 : Hid (True) := trivial
        clear hnt hKM hq3 h0
        go_wp2_with fail
        refine HEq.out.mono ?_
        rintro e9 w9 ⟨rfl, hw9⟩
        have hw8 := hw9.symm
        subst hw8
        clear hw9 HEq
        go_wp2_with fail
        refine HLf.out.mono ?_
        rintro e9 w9 ⟨rfl, hw9⟩
        have hw8 := hw9.symm
        subst hw8
        clear hw9 HLf
        go_wp2
        go_ret
        exact ⟨rfl, HR3.out.1.k⟩
end Go.Proofs.YtmooddbhcccicaaGreatDoor
