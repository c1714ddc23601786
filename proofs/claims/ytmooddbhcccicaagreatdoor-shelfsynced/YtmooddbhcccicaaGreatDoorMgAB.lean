/- Texts of this proof, joined: Ia, Na. -/
import Derived.Test.YtmooddbhcccicaaGreatDoorMgAA
import Derived.Maps.OwnSet
import Derived.Maps.OwnOps
import Derived.Maps.Views
import Derived.StillTailTactics
import Derived.WideKeyEntry
import Derived.DeepKeys4
import Derived.MapViews
/- Maps by things (structs of three numbers), of whatever values (out of Jb). -/
namespace Go.Proofs.YtmooddbhcccicaaGreatDoor
set_option linter.unusedVariables false
set_option linter.unusedSimpArgs false
open Go.RowKit Go.Deep Go.Maps

/-- a value that is kept as it is -/
def idK (v : Value) : Option (DataW Value × List MemPlace) := some (.held v, [])

structure K3 where
  (k n i : Int)
deriving DecidableEq
abbrev pv3 (a : K3) : Value := .agg #[.int .i64 a.k, .int .i64 a.n, .int .i64 a.i]
/-- what a thing reads as -/
def pk3 (a : K3) : Lit := .string (keyBytes [.int .i64 a.k, .int .i64 a.n, .int .i64 a.i])
def wf3 (a : K3) : Prop := (Lit.int .i64 a.k).wf = true ∧ (Lit.int .i64 a.n).wf = true ∧ (Lit.int .i64 a.i).wf = true
theorem laidOut3 : laidOutB Tryz.prog = true := by kernel_rfl
theorem wideP3 : (match Tryz.prog.underlying 83 with | some (.array _ _) | some (.struct _) => true | _ => false) = true := by rw [Tryz.underlying83]
set_option maxRecDepth 100000 in
theorem p3Key : WideMaps.KeyLaw Tryz.prog 83 := deep_law_laid laidOut3 (m := 2) (by omega) (of_decide_eq_true (by kernel_rfl)) (by kernel_rfl) wideP3
theorem p3Law : Keyed Tryz.prog 83 := Keyed.of_law p3Key
theorem p3t : ∃ m, Tryz.prog.types.size = m + 1 := ⟨Tryz.prog.types.size - 1, by kernel_rfl⟩
theorem p3c : Tryz.prog.cellsOf 83 = 3 ∧ Tryz.prog.cellsOf 3 = 1 := ⟨by kernel_rfl, by kernel_rfl⟩
theorem p3k : Tryz.prog.keyType 83 = true := by kernel_rfl
theorem p3f (a : K3) : (pv3 a).formed Tryz.prog 83 = true := by
  simp [Value.formed, Tryz.underlying83]; kernel_rfl
set_option maxRecDepth 100000 in
theorem pk3_key {a : K3} (h : wf3 a) : keyOf Tryz.prog 83 (pv3 a) = some (pk3 a) := by
  obtain ⟨m, hm⟩ := p3t
  have l1 : ∀ c : Int, (Lit.int .i64 c).wf = true → Tryz.prog.keyLits (m + 1) 3 [.int .i64 c] = some [.int .i64 c] := fun c hc => by
    simp [Program.keyLits, Tryz.underlying3, hc]
  have l2 : Tryz.prog.keyLits (Tryz.prog.types.size + 1) 83 [.int .i64 a.k, .int .i64 a.n, .int .i64 a.i] = some [.int .i64 a.k, .int .i64 a.n, .int .i64 a.i] := by
    rw [hm]
    unfold Program.keyLits
    simp only [Tryz.underlying83, p3c.1, p3c.2]
    simp [List.range_succ, l1 a.k h.1, l1 a.n h.2.1, l1 a.i h.2.2, p3c.2]
  unfold keyOf
  simp only [Tryz.underlying83, p3k, p3f, Bool.and_self, if_true]
  show ((Tryz.prog.keyLits (Tryz.prog.types.size + 1) 83 [.int .i64 a.k, .int .i64 a.n, .int .i64 a.i]).map fun ls => Lit.string (keyBytes ls)) = _
  rw [l2]
  rfl
theorem pk3_inj {a b : K3} (h : wf3 a) (h' : wf3 b) (e : pk3 a = pk3 b) : a = b := by
  have h1 := pk3_key h
  have h2 := pk3_key h'
  rw [e] at h1
  have := p3Law.inj h1 h2
  simp at this
  cases a
  cases b
  simpa using this
theorem pk3_lit {a : K3} (h : wf3 a) : WideAt.IsKeyLit (pk3 a) := p3Law.key (pk3_key h)

/-- what D has under pairs: T, c of them -/
structure Pd3 (D : DataW Value) (c : Nat) (T : K3 → Option Value) : Prop where
  no : ∀ a, wf3 a → T a = none → Maps.has D (pk3 a) = false
  yes : ∀ a, wf3 a → ∀ v, T a = some v → Maps.has D (pk3 a) = true ∧ ∀ y, D.atKey (pk3 a) y = .held v
  size : Maps.size D = c
  keys : ∀ kl, Maps.has D kl = true → ∃ a, wf3 a ∧ kl = pk3 a
/-- block m is a map of c values by pairs -/
def Px3 (w : World) (m c : Nat) (T : K3 → Option Value) : Prop := ∃ D, w.ownsMap Tryz.prog 83 idK m c D ∧ Pd3 D c T
theorem Px3.lt {w : World} {m c : Nat} {T : K3 → Option Value} (h : Px3 w m c T) : m < w.heap.size := by
  obtain ⟨D, h1, h2⟩ := h
  exact h1.lt
theorem Px3.keep {S : Nat → Prop} {w w' : World} {m c : Nat} {T : K3 → Option Value} (h : Px3 w m c T) (k : Kp S w w') (hS : ¬ S m) : Px3 w' m c T := by
  have hlt := h.lt
  obtain ⟨D, ⟨es, clock, hb, r⟩, h2⟩ := h
  exact ⟨D, ⟨es, clock, (k.block m hlt hS).trans hb, r⟩, h2⟩
theorem Px3.of_block {w w' : World} {m c : Nat} {T : K3 → Option Value} (h : Px3 w m c T) (e : w'.heap[m]? = w.heap[m]?) : Px3 w' m c T := by
  obtain ⟨D, ⟨es, clock, hb, r⟩, h2⟩ := h
  exact ⟨D, ⟨es, clock, e.trans hb, r⟩, h2⟩
theorem Px3.made (w : World) : Px3 (w.alloc (.map #[] 0)) w.heap.size 0 (fun _ => none) :=
  ⟨_, World.ownsMap_made w _ _ _, fun _ _ _ => rfl, fun _ _ _ h => (by cases h), rfl, fun _ h => (by cases h)⟩
theorem Px3.congr {w : World} {m c : Nat} {T T' : K3 → Option Value} (h : Px3 w m c T) (e : ∀ a, wf3 a → T a = T' a) : Px3 w m c T' := by
  obtain ⟨D, h1, h2⟩ := h
  exact ⟨D, h1, fun a hw ht => h2.no a hw ((e a hw).trans ht), fun a hw v ht => h2.yes a hw v ((e a hw).trans ht), h2.size, h2.keys⟩
theorem own_size3 {w : World} {k : TypeId} {m q : Nat} {D : DataW Value} (h : w.ownsMap Tryz.prog k idK m q D) : w.ownsMap Tryz.prog k idK m (Maps.size D) D := by
  obtain ⟨es, clock, hb, F, hs, hD⟩ := h
  refine ⟨es, clock, hb, F, ?_, hD⟩
  rw [hD]
  show es.size ≤ List.length _
  rw [length_sorted]
  simp
/-- T with v at a, b -/
def upd3 (T : K3 → Option Value) (a : K3) (v : Value) : K3 → Option Value := fun x => if x = a then some v else T x
def del3 (T : K3 → Option Value) (a : K3) : K3 → Option Value := fun x => if x = a then none else T x
theorem Pd3.put {D : DataW Value} {c : Nat} {T : K3 → Option Value} {v : Value} {a : K3} (hT : Tidy D) (h : Pd3 D c T) (hw : wf3 a) : Pd3 (D.put (pk3 a) (.held v)) (c + (if (T a).isSome then 0 else 1)) (upd3 T a v) := by
  have hM := hT.isMap
  have hzz := pk3_lit hw
  refine ⟨fun x hxy hx => ?_, fun x hxy u hx => ?_, ?_, fun kl hk => ?_⟩
  · unfold upd3 at hx
    by_cases e : x = a
    · rw [if_pos e] at hx; cases hx
    · rw [if_neg e] at hx
      rw [has_put_other (fun h => e (pk3_inj hxy hw h))]
      exact h.no x hxy hx
  · unfold upd3 at hx
    by_cases e : x = a
    · rw [if_pos e] at hx
      injection hx with hx
      subst hx
      subst e
      exact ⟨has_put_same hM hzz _, fun y => atKey_put_same hM hzz _ y⟩
    · rw [if_neg e] at hx
      have hne : pk3 x ≠ pk3 a := fun h => e (pk3_inj hxy hw h)
      obtain ⟨b, c⟩ := h.yes x hxy u hx
      exact ⟨by rw [has_put_other hne]; exact b, fun y => by rw [atKey_put_other hne]; exact c y⟩
  · rw [size_put hT, h.size]
    cases hz : T a with
    | none => rw [h.no a hw hz]; rfl
    | some u => rw [(h.yes a hw u hz).1]; rfl
  · by_cases e : kl = pk3 a
    · exact ⟨a, hw, e⟩
    · rw [has_put_other e] at hk
      exact h.keys kl hk
theorem Pd3.del {D : DataW Value} {c : Nat} {T : K3 → Option Value} {a : K3} (hT : Tidy D) (h : Pd3 D c T) (hw : wf3 a) : Pd3 (D.del (pk3 a)) (c - (if (T a).isSome then 1 else 0)) (del3 T a) := by
  refine ⟨fun x hxy hx => ?_, fun x hxy u hx => ?_, ?_, fun kl hk => ?_⟩
  · unfold del3 at hx
    by_cases e : x = a
    · subst e
      exact has_del_same
    · rw [if_neg e] at hx
      rw [has_del_other (fun h => e (pk3_inj hxy hw h))]
      exact h.no x hxy hx
  · unfold del3 at hx
    by_cases e : x = a
    · rw [if_pos e] at hx; cases hx
    · rw [if_neg e] at hx
      have hne : pk3 x ≠ pk3 a := fun h => e (pk3_inj hxy hw h)
      obtain ⟨b, c⟩ := h.yes x hxy u hx
      exact ⟨by rw [has_del_other hne]; exact b, fun y => by rw [atKey_del_other hne]; exact c y⟩
  · have := size_del hT (k := pk3 a)
    rw [h.size] at this
    cases hz : T a with
    | none => rw [h.no a hw hz] at this; simpa using this
    | some u => rw [(h.yes a hw u hz).1] at this; simp at this ⊢; omega
  · by_cases e : kl = pk3 a
    · rw [e, has_del_same] at hk; cases hk
    · rw [has_del_other e] at hk
      exact h.keys kl hk
theorem Pd3.look {D : DataW Value} {c : Nat} {T : K3 → Option Value} (h : Pd3 D c T) {a : K3} (hw : wf3 a) (y : Value) : Maps.has D (pk3 a) = (T a).isSome ∧ D.atKey (pk3 a) (.held y) = .held ((T a).getD y) := by
  cases hz : T a with
  | none => exact ⟨h.no a hw hz, atKey_of_not_has (h.no a hw hz) _⟩
  | some v => exact ⟨(h.yes a hw v hz).1, (h.yes a hw v hz).2 _⟩

section
variable {MT ET : TypeId} {zv : Value}
set_option maxRecDepth 100000 in
theorem look_px3_ok {w : World} {m c : Nat} {T : K3 → Option Value} (hu : Tryz.prog.underlying MT = some (.map 83 ET)) (hz : ∀ w, (zeroValue ET).run Tryz.prog w = .ok zv w) (h : Px3 w m c T) {a : K3} (hw : wf3 a) : (Instr.lookup MT (.map (some m)) (pv3 a) true).run Tryz.prog w = .ok (.tuple #[(T a).getD zv, .bool (T a).isSome]) w := by
  obtain ⟨D, h1, h2⟩ := h
  obtain ⟨e1, e2⟩ := h2.look hw zv
  obtain ⟨v, ps, hrun, hv⟩ := h1.look_ok p3Law hu (hz w) (zd := .held zv) (zp := []) rfl (pk3_key hw)
  rw [e2] at hv
  injection hv with hv
  injection hv with hv _
  injection hv with hv
  rw [hrun, hv, e1]
theorem put_px3 {w : World} {m c : Nat} {T : K3 → Option Value} (hu : Tryz.prog.underlying MT = some (.map 83 ET)) (h : Px3 w m c T) (hq : c < 4611686018427387904) {a : K3} (hw : wf3 a) (u : Value) :
    ∃ w', (Instr.mapUpdate MT (.map (some m)) (pv3 a) u).run Tryz.prog w = .ok () w' ∧ Px3 w' m (c + (if (T a).isSome then 0 else 1)) (upd3 T a u) ∧ Kp (fun x => x = m) w w' := by
  obtain ⟨D, h1, h2⟩ := h
  obtain ⟨w', hr, r1, r2⟩ := h1.update p3Law hu (by unfold maxLen; omega) (pk3_key hw) (d := .held u) (ps := []) (val := u) rfl
  have h3 := h2.put (v := u) (h1.tidy p3Law) hw
  exact ⟨w', hr, ⟨_, by rw [← h3.size]; exact own_size3 r1, h3⟩, (grownBy_kp r2).mono (fun b _ e => by cases e; rfl)⟩
theorem wpList_put_px3 {ops : Array Oper} {rest : List Oper} {o : Oper} {ac : Act} {w : World} {Q : Exit → Act → World → Prop} (hg : o.guard = none) (mm x v : Operand) (hop : o.op = Op.mapUpdate MT mm x v)
    (hu : Tryz.prog.underlying MT = some (.map 83 ET))
    (m c : Nat) (T : K3 → Option Value) (h : Px3 w m c T) (hm : ac.eval mm = .map (some m)) (hq : c < 4611686018427387904) {a : K3} (hw : wf3 a) (hx : ac.eval x = pv3 a) (u : Value) (hv : ac.eval v = u)
    (hK : ∀ w', Px3 w' m (c + (if (T a).isSome then 0 else 1)) (upd3 T a u) → Kp (fun x => x = m) w w' → wpList Tryz.prog ops Q rest (ac.put o.dst undef) w') : wpList Tryz.prog ops Q (o :: rest) ac w := by
  obtain ⟨D, h1, h2⟩ := h
  refine wpList_mapUpdate_own _ hg mm x v MT hop 83 ET p3Law hu _ m c D hm h1 (by unfold maxLen; omega) _ _ _ hx hv (pk3_key hw) (.held u) [] rfl ?_
  intro w' h3 hg'
  have h4 := h2.put (v := u) (h1.tidy p3Law) hw
  exact hK w' ⟨_, by rw [← h4.size]; exact own_size3 h3, h4⟩ ((grownBy_kp hg').mono (fun b _ e => by cases e; rfl))
theorem wpList_del_px3 {ops : Array Oper} {rest : List Oper} {o : Oper} {ac : Act} {w : World} {Q : Exit → Act → World → Prop} (hg : o.guard = none) (mm x : Operand) (hop : o.op = Op.call { callee := Callee.builtin Builtin.delete, args := #[mm, x], argTypes := #[MT, 83] })
    (hu : Tryz.prog.underlying MT = some (.map 83 ET))
    (m c : Nat) (T : K3 → Option Value) (h : Px3 w m c T) (hm : ac.eval mm = .map (some m)) {a : K3} (hw : wf3 a) (hx : ac.eval x = pv3 a)
    (hK : ∀ w', Px3 w' m (c - (if (T a).isSome then 1 else 0)) (del3 T a) → Kp (fun x => x = m) w w' → wpList Tryz.prog ops Q rest (ac.put o.dst (.tuple #[])) w') : wpList Tryz.prog ops Q (o :: rest) ac w := by
  obtain ⟨D, h1, h2⟩ := h
  refine wpList_delete_own _ hg mm x MT 83 hop ET p3Law hu _ m c D hm h1 _ _ hx (pk3_key hw) ?_
  intro w' h3 hg'
  have h4 := h2.del (h1.tidy p3Law) hw
  exact hK w' ⟨_, by rw [← h4.size]; exact own_size3 h3, h4⟩ ((grownBy_kp hg'.grown).mono (fun b _ e => by cases e; rfl))
end

end Go.Proofs.YtmooddbhcccicaaGreatDoor

/- Numbers as bytes, plain: how many bytes, which, and back. -/
namespace Go.Proofs.YtmooddbhcccicaaGreatDoor
set_option linter.unusedVariables false

/-- the number of bytes, the highest first -/
def valB (xs : List Nat) : Nat := xs.foldl (fun a x => a * 256 + x) 0
/-- w bytes of a number, the highest first -/
def digs : Nat → Nat → List Nat
  | 0, _ => []
  | w + 1, n => (n / 256 ^ w) % 256 :: digs w n
/-- how many bytes a number takes -/
def numW (n : Nat) : Nat := if h : n = 0 then 0 else numW (n / 256) + 1
termination_by n
decreasing_by exact Nat.div_lt_self (Nat.pos_of_ne_zero h) (by decide)
/-- a number's bytes -/
def numB (n : Nat) : List Nat := numW n :: digs (numW n) n
theorem foldl_val (xs : List Nat) (a : Nat) : xs.foldl (fun a x => a * 256 + x) a = a * 256 ^ xs.length + valB xs := by
  induction xs generalizing a with
  | nil => simp [valB]
  | cons x l ih =>
    simp only [List.foldl_cons, List.length_cons, valB]
    rw [ih, ih (0 * 256 + x), Nat.pow_succ, Nat.add_mul, Nat.zero_mul, Nat.zero_add, Nat.mul_assoc, Nat.mul_comm 256, Nat.add_assoc]
theorem valB_cons (x : Nat) (l : List Nat) : valB (x :: l) = x * 256 ^ l.length + valB l := by
  show (x :: l).foldl _ 0 = _
  rw [List.foldl_cons, foldl_val, Nat.zero_mul, Nat.zero_add]
theorem valB_lt : ∀ (xs : List Nat), (∀ x ∈ xs, x < 256) → valB xs < 256 ^ xs.length
  | [], _ => by simp [valB]
  | x :: l, h => by
    have h1 := valB_lt l (fun y hy => h y (List.mem_cons_of_mem _ hy))
    have h2 := h x (List.mem_cons_self ..)
    rw [valB_cons, List.length_cons, Nat.pow_succ]
    have : (x + 1) * 256 ^ l.length ≤ 256 * 256 ^ l.length := Nat.mul_le_mul_right _ (by omega)
    rw [Nat.add_mul] at this
    rw [Nat.mul_comm (256 ^ l.length)]
    omega
theorem digs_len : ∀ w n, (digs w n).length = w
  | 0, _ => rfl
  | w + 1, n => by show (digs w n).length + 1 = _; rw [digs_len w n]
theorem digs_lt : ∀ w n, ∀ x ∈ digs w n, x < 256
  | 0, _, _, h => by cases h
  | w + 1, n, x, h => by
    rcases List.mem_cons.1 h with e | e
    · rw [e]; exact Nat.mod_lt _ (by decide)
    · exact digs_lt w n x e
theorem val_digs : ∀ w n, valB (digs w n) = n % 256 ^ w
  | 0, n => by simp [digs, valB, Nat.mod_one]
  | w + 1, n => by
    show valB ((n / 256 ^ w) % 256 :: digs w n) = _
    rw [valB_cons, digs_len, val_digs w n, Nat.pow_succ, Nat.mod_mul, Nat.mul_comm (n / 256 ^ w % 256), Nat.add_comm]
theorem digs_add (w n a : Nat) : digs w (a * 256 ^ w + n) = digs w n := by
  have : ∀ k m, k ≤ w → digs k (a * 256 ^ w + m) = digs k m := by
    intro k
    induction k with
    | zero => intros; rfl
    | succ k ih =>
      intro m hk
      show _ :: _ = _ :: _
      rw [ih m (by omega)]
      congr 1
      have e : 256 ^ w = 256 ^ k * (256 * 256 ^ (w - k - 1)) := by
        rw [← Nat.pow_succ', ← Nat.pow_add]
        congr 1
        omega
      rw [e, show a * (256 ^ k * (256 * 256 ^ (w - k - 1))) + m = m + 256 ^ k * (256 * (a * 256 ^ (w - k - 1))) by
        rw [Nat.add_comm]
        congr 1
        rw [Nat.mul_left_comm, Nat.mul_left_comm a]]
      rw [Nat.add_mul_div_left _ _ (Nat.pow_pos (by decide)), Nat.add_mul_mod_self_left]
  exact this w n (Nat.le_refl _)
theorem digs_val : ∀ xs : List Nat, (∀ x ∈ xs, x < 256) → digs xs.length (valB xs) = xs
  | [], _ => rfl
  | x :: l, h => by
    have h1 := digs_val l (fun y hy => h y (List.mem_cons_of_mem _ hy))
    have h2 := valB_lt l (fun y hy => h y (List.mem_cons_of_mem _ hy))
    have h3 := h x (List.mem_cons_self ..)
    show (valB (x :: l) / 256 ^ l.length) % 256 :: digs l.length (valB (x :: l)) = _
    rw [valB_cons, digs_add, h1]
    congr 1
    rw [Nat.add_comm, Nat.add_mul_div_right _ _ (Nat.pow_pos (by decide)), Nat.div_eq_of_lt h2, Nat.zero_add, Nat.mod_eq_of_lt h3]
theorem numW_zero : numW 0 = 0 := by unfold numW; rfl
theorem numW_pos {n : Nat} (h : n ≠ 0) : numW n = numW (n / 256) + 1 := by rw [numW, dif_neg h]
theorem numW_lt (n : Nat) : n < 256 ^ numW n := by
  induction n using Nat.strongRecOn with
  | _ n ih =>
    by_cases h : n = 0
    · subst h; rw [numW_zero]; decide
    · have := ih (n / 256) (Nat.div_lt_self (Nat.pos_of_ne_zero h) (by decide))
      rw [numW_pos h, Nat.pow_succ]
      have h2 := Nat.div_add_mod n 256
      have h3 := Nat.mod_lt n (show 256 > 0 by decide)
      omega
theorem numW_le {n k : Nat} (h : n < 256 ^ k) : numW n ≤ k := by
  induction k generalizing n with
  | zero =>
    have : n = 0 := by simpa using h
    rw [this, numW_zero]
    exact Nat.le_refl 0
  | succ k ih =>
    by_cases h0 : n = 0
    · rw [h0, numW_zero]; exact Nat.zero_le _
    · rw [numW_pos h0]
      have : n / 256 < 256 ^ k := Nat.div_lt_of_lt_mul (by rw [Nat.mul_comm, ← Nat.pow_succ]; exact h)
      have := ih this
      omega
theorem numW_ge {n k : Nat} (h : 256 ^ k ≤ n) : k < numW n := by
  induction k generalizing n with
  | zero =>
    have h0 : n ≠ 0 := by simp at h; omega
    rw [numW_pos h0]
    exact Nat.succ_pos _
  | succ k ih =>
    have hp : 0 < 256 ^ (k + 1) := Nat.pow_pos (by decide)
    have h0 : n ≠ 0 := by omega
    rw [numW_pos h0]
    have : 256 ^ k ≤ n / 256 := (Nat.le_div_iff_mul_le (by decide)).2 (by rw [← Nat.pow_succ]; exact h)
    have := ih this
    omega
theorem val_num (n : Nat) : valB (digs (numW n) n) = n := by rw [val_digs, Nat.mod_eq_of_lt (numW_lt n)]
/-- bytes whose first is no nought are those of their number -/
theorem numW_val {x : Nat} {l : List Nat} (h : ∀ y ∈ x :: l, y < 256) (hx : x ≠ 0) : numW (valB (x :: l)) = l.length + 1 := by
  have h1 : numW (valB (x :: l)) ≤ l.length + 1 := numW_le (valB_lt (x :: l) h)
  have h2 : l.length < numW (valB (x :: l)) := numW_ge (by
    rw [valB_cons]
    have : 1 * 256 ^ l.length ≤ x * 256 ^ l.length := Nat.mul_le_mul_right _ (by omega)
    omega)
  omega
theorem digs_head {n : Nat} (h : n ≠ 0) : ∃ x l, digs (numW n) n = x :: l ∧ x ≠ 0 := by
  cases hd : digs (numW n) n with
  | nil =>
    have := digs_len (numW n) n
    rw [hd, numW_pos h] at this
    cases this
  | cons x l =>
    refine ⟨x, l, rfl, fun e => ?_⟩
    have h1 := val_num n
    rw [hd, e, valB_cons, Nat.zero_mul, Nat.zero_add] at h1
    have h2 := valB_lt l (fun y hy => digs_lt (numW n) n y (by rw [hd]; exact List.mem_cons_of_mem _ hy))
    have h3 : l.length + 1 = numW n := by rw [← digs_len (numW n) n, hd]; rfl
    rw [h1] at h2
    have := numW_le h2
    omega
/-- a number of at most so much, and what is left -/
def rdNum (most : Nat) : List Nat → Option (Nat × List Nat)
  | [] => none
  | w :: t => if w ≤ 8 ∧ w ≤ t.length ∧ (t.take w).head? ≠ some 0 ∧ valB (t.take w) ≤ most then some (valB (t.take w), t.drop w) else none
theorem rdNum_cons (most w : Nat) (t : List Nat) : rdNum most (w :: t) = if w ≤ 8 ∧ w ≤ t.length ∧ (t.take w).head? ≠ some 0 ∧ valB (t.take w) ≤ most then some (valB (t.take w), t.drop w) else none := rfl
theorem rdNum_num {n most : Nat} (hn : n ≤ most) (hm : n < 256 ^ 8) (t : List Nat) : rdNum most (numB n ++ t) = some (n, t) := by
  have hw : numW n ≤ 8 := numW_le hm
  have ht : (digs (numW n) n ++ t).take (numW n) = digs (numW n) n := by rw [List.take_left' (digs_len _ _)]
  have hd : (digs (numW n) n ++ t).drop (numW n) = t := by rw [List.drop_left' (digs_len _ _)]
  rw [show numB n ++ t = numW n :: (digs (numW n) n ++ t) from rfl, rdNum_cons, ht, hd, val_num, if_pos]
  refine ⟨hw, by rw [List.length_append, digs_len]; omega, fun e => ?_, hn⟩
  by_cases h0 : n = 0
  · rw [h0, numW_zero] at e; cases e
  · obtain ⟨x, l, hx, h1⟩ := digs_head h0
    rw [hx] at e
    simp at e
    exact h1 e
theorem rdNum_back {n most : Nat} {xs t : List Nat} (hb : ∀ x ∈ xs, x < 256) (h : rdNum most xs = some (n, t)) : xs = numB n ++ t ∧ n ≤ most ∧ n < 256 ^ 8 ∧ ∀ x ∈ t, x < 256 := by
  cases xs with
  | nil => cases h
  | cons w l =>
    rw [rdNum_cons] at h
    by_cases hc : w ≤ 8 ∧ w ≤ l.length ∧ (l.take w).head? ≠ some 0 ∧ valB (l.take w) ≤ most
    · rw [if_pos hc] at h
      injection h with h
      injection h with h1 h2
      have hbt : ∀ x ∈ l.take w, x < 256 := fun x hx => hb x (List.mem_cons_of_mem _ (List.mem_of_mem_take hx))
      have hl : (l.take w).length = w := by rw [List.length_take]; omega
      have hn : n < 256 ^ w := by
        rw [← h1]
        have := valB_lt _ hbt
        rwa [hl] at this
      have hnw : numW n = w := by
        cases hq : l.take w with
        | nil =>
          rw [hq] at hl h1
          have : n = 0 := by rw [← h1]; rfl
          rw [this, numW_zero]
          exact hl
        | cons x m =>
          rw [hq] at hl h1 hbt
          have := numW_val hbt (fun e => hc.2.2.1 (by rw [hq, e]; rfl))
          rw [h1] at this
          rw [this]
          exact hl
      refine ⟨?_, by rw [← h1]; exact hc.2.2.2, Nat.lt_of_lt_of_le hn (Nat.pow_le_pow_right (by decide) hc.1), fun x hx => ?_⟩
      · show w :: l = numW n :: digs (numW n) n ++ t
        rw [hnw, List.cons_append]
        congr 1
        have : digs w n = l.take w := by
          have := digs_val _ hbt
          rw [hl, h1] at this
          exact this
        rw [this, ← h2, List.take_append_drop]
      · rw [← h2] at hx
        exact hb x (List.mem_cons_of_mem _ (List.mem_of_mem_drop hx))
    · rw [if_neg hc] at h
      cases h
end Go.Proofs.YtmooddbhcccicaaGreatDoor
