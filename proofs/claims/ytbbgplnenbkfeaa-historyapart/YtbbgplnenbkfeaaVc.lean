/- The maps of served; its drawn region (laid by scripts/mkvc.py). -/
import Derived.Test.YtbbgplnenbkfeaaVb
import Derived.Test.YtbbgplnenbkfeaaUx
namespace Go.Proofs.Ytbbgplnenbkfeaa
set_option linter.unusedVariables false
set_option linter.unusedSimpArgs false
open Go.RowKit Go.Deep Go.Maps

theorem wpList_lk0 {ops : Array Oper} {rest : List Oper} {o : Oper} {a : Act} {w : World} {Q : Exit → Act → World → Prop} {MT : TypeId} {mv kv v : Value} (hg : o.guard = none) (mm x : Operand) (hop : o.op = Op.lookup MT mm x false) (hm : a.eval mm = mv) (hx : a.eval x = kv) (hr : (Instr.lookup MT mv kv false).run Try.prog w = .ok v w)
    (hK : wpList Try.prog ops Q rest (a.put o.dst v) w) : wpList Try.prog ops Q (o :: rest) a w := by
  refine wpList_plain hg fun K' hK' => ?_
  unfold Oper.wp
  simp [execOp, hop, hm, hx, hr, Result.andThen]
  exact hK' _ _ hK
theorem exec_mu {ev : Operand → Value} {d : Option Tmp} {g : Option (Nat × Bool)} {t ty2 : TypeId} {x y v : Operand} {mv kv vv : Value} {z z2 : World} {r : Unit} (e1 : ev x = mv) (e2 : ev y = kv) (e3 : ev v = vv) (hr : (Instr.mapUpdate t mv kv vv).run Try.prog z = .ok r z2) : (execOp ev ⟨d, Op.mapUpdate t x y v, ty2, "", #[], g⟩).run Try.prog z = .ok .skip z2 := by
  unfold execOp
  simp [e1, e2, e3, hr, Result.andThen]
theorem uSt : Try.prog.underlying 56 = some (.map 9 3) := Try.underlying56
theorem uBy : Try.prog.underlying 57 = some (.map 9 27) := Try.underlying57
theorem zBy (w : World) : (zeroValue 27).run Try.prog w = .ok (.slice none 0 0) w := by kernel_rfl
theorem row_ne_map {v : World} {base sz n m q c : Nat} {e : TypeId} {a : Value} {xs : List Value} {T : List UInt8 → Option Value} (h : v.ownsRow base e sz a n xs) (y : Yt v m q c T) : a.ownBlock ≠ some m := by
  intro hm
  obtain ⟨D, ⟨es, clock, hb, _⟩, _⟩ := y
  rcases h.2 with ⟨h0, _⟩ | ⟨g, cap, cur, hv, hg, hh, _⟩
  · rw [h0] at hm; cases hm
  · rw [hv] at hm
    have : g = m := Option.some.inj (show some g = some m from hm)
    subst this
    rw [hh] at hb
    cases hb
/-- both maps of served -/
structure Sm (w0 v : World) (m1 m2 n : Nat) (st : List UInt8 → Int) (B : List UInt8 → By) : Prop where
  a : ∃ q c T, Yt v m1 q c T ∧ q ≤ n ∧ ∀ s, (T s).getD (.int .i64 0) = .int .i64 (st s)
  b : ∃ q c T, Yt v m2 q c T ∧ q ≤ n ∧ ∀ s, (T s).getD (.slice none 0 0) = (B s).v
  o : ∀ s, (B s).ok w0
  ne : m1 ≠ m2 ∧ w0.heap.size ≤ m1 ∧ w0.heap.size ≤ m2
theorem Sm.lt {w0 v : World} {m1 m2 n : Nat} {st : List UInt8 → Int} {B : List UInt8 → By} (h : Sm w0 v m1 m2 n st B) : m1 < v.heap.size ∧ m2 < v.heap.size := by
  obtain ⟨q, c, T, h1, _⟩ := h.a
  obtain ⟨q', c', T', h1', _⟩ := h.b
  exact ⟨h1.lt, h1'.lt⟩
theorem Sm.keep {S : Nat → Prop} {w0 v v' : World} {m1 m2 n : Nat} {st : List UInt8 → Int} {B : List UInt8 → By} (h : Sm w0 v m1 m2 n st B) (k : Kp S v v') (h1 : ¬ S m1) (h2 : ¬ S m2) : Sm w0 v' m1 m2 n st B := by
  obtain ⟨q, c, T, y1, y2, y3⟩ := h.a
  obtain ⟨q', c', T', z1, z2, z3⟩ := h.b
  exact ⟨⟨q, c, T, y1.keep k h1, y2, y3⟩, ⟨q', c', T', z1.keep k h2, z2, z3⟩, h.o, h.ne⟩
theorem Sm.mono {w0 v : World} {m1 m2 n n' : Nat} {st : List UInt8 → Int} {B : List UInt8 → By} (h : Sm w0 v m1 m2 n st B) (hn : n ≤ n') : Sm w0 v m1 m2 n' st B := by
  obtain ⟨q, c, T, y1, y2, y3⟩ := h.a
  obtain ⟨q', c', T', z1, z2, z3⟩ := h.b
  exact ⟨⟨q, c, T, y1, by omega, y3⟩, ⟨q', c', T', z1, by omega, z3⟩, h.o, h.ne⟩
theorem Sm.look1 {w0 v : World} {m1 m2 n : Nat} {st : List UInt8 → Int} {B : List UInt8 → By} (h : Sm w0 v m1 m2 n st B) (key : ByteArray) (hk : key.size ≤ maxLen) : (Instr.lookup 56 (.map (some m1)) (.string key) false).run Try.prog v = .ok (.int .i64 (st key.data.toList)) v := by
  obtain ⟨q, c, T, y1, y2, y3⟩ := h.a
  have := look_yt uSt zPl y1 key hk
  rw [y3] at this
  exact this
theorem Sm.look2 {w0 v : World} {m1 m2 n : Nat} {st : List UInt8 → Int} {B : List UInt8 → By} (h : Sm w0 v m1 m2 n st B) (key : ByteArray) (hk : key.size ≤ maxLen) : (Instr.lookup 57 (.map (some m2)) (.string key) false).run Try.prog v = .ok (B key.data.toList).v v := by
  obtain ⟨q, c, T, y1, y2, y3⟩ := h.b
  have := look_yt uBy zBy y1 key hk
  rw [y3] at this
  exact this
theorem yt_update {MT ET : TypeId} {w : World} {m q c : Nat} {T : List UInt8 → Option Value} (hu : Try.prog.underlying MT = some (.map 9 ET)) (h : Yt w m q c T) (hq : q < 4611686018427387904) (s : ByteArray) (hw : s.size ≤ maxLen) (u : Value) : ∃ r w', (Instr.mapUpdate MT (.map (some m)) (.string s) u).run Try.prog w = .ok r w' ∧ (∃ c', Yt w' m (q + 1) c' (updS T s.data.toList u)) ∧ Kp (fun x => x = m) w w' := by
  obtain ⟨D, h1, h2⟩ := h
  obtain ⟨w', hrun, r1, r2⟩ := h1.update strL hu (by unfold maxLen; omega) (s_key s hw) (show idR u = some (.held u, []) from rfl)
  exact ⟨_, w', hrun, ⟨_, _, r1, h2.put (h1.tidy strL)⟩, (grownBy_kp r2).mono (fun b _ e => by cases e; rfl)⟩
theorem Sm.put1 {w0 v : World} {m1 m2 n : Nat} {st : List UInt8 → Int} {B : List UInt8 → By} (h : Sm w0 v m1 m2 n st B) (hn : n ≤ 1000) (key : ByteArray) (hk : key.size ≤ maxLen) (z : Int) : ∃ r v', (Instr.mapUpdate 56 (.map (some m1)) (.string key) (.int .i64 z)).run Try.prog v = .ok r v' ∧ Sm w0 v' m1 m2 (n + 1) (setI st key.data.toList z) B ∧ Kp (fun x => x = m1) v v' := by
  obtain ⟨q, c, T, y1, y2, y3⟩ := h.a
  obtain ⟨q', c', T', z1, z2, z3⟩ := h.b
  obtain ⟨r, v', hr, ⟨c9, hy⟩, hk9⟩ := yt_update uSt y1 (by omega) key hk (.int .i64 z)
  refine ⟨r, v', hr, ⟨⟨q + 1, c9, _, hy, by omega, fun s => ?_⟩, ⟨q', c', T', z1.keep hk9 (fun e => h.ne.1 e.symm), by omega, z3⟩, h.o, h.ne⟩, hk9⟩
  unfold updS setI
  by_cases e : s = key.data.toList
  · rw [if_pos e, if_pos e]; rfl
  · rw [if_neg e, if_neg e]; exact y3 s
theorem Sm.put2 {w0 v : World} {m1 m2 n : Nat} {st : List UInt8 → Int} {B : List UInt8 → By} (h : Sm w0 v m1 m2 n st B) (hn : n ≤ 1000) (key : ByteArray) (hk : key.size ≤ maxLen) (b : By) (hb : b.ok w0) : ∃ r v', (Instr.mapUpdate 57 (.map (some m2)) (.string key) b.v).run Try.prog v = .ok r v' ∧ Sm w0 v' m1 m2 (n + 1) st (setI B key.data.toList b) ∧ Kp (fun x => x = m2) v v' := by
  obtain ⟨q, c, T, y1, y2, y3⟩ := h.a
  obtain ⟨q', c', T', z1, z2, z3⟩ := h.b
  obtain ⟨r, v', hr, ⟨c9, hy⟩, hk9⟩ := yt_update uBy z1 (by omega) key hk b.v
  refine ⟨r, v', hr, ⟨⟨q, c, T, y1.keep hk9 (fun e => h.ne.1 e), by omega, y3⟩, ⟨q' + 1, c9, _, hy, by omega, fun s => ?_⟩, fun s => ?_, h.ne⟩, hk9⟩
  · unfold updS setI
    by_cases e : s = key.data.toList
    · rw [if_pos e, if_pos e]; rfl
    · rw [if_neg e, if_neg e]; exact z3 s
  · unfold setI
    split
    · exact hb
    · exact h.o s

theorem sv_0 (bx m1 m2 : Nat) (key : ByteArray) (bv : Value) (ev : Operand → Value) (z : World) (ec : ∀ c, ev (.const c) = c) (e5 : ev (.tmp 5) = .map (some m1)) (hS : z.cell? ⟨bx, 2, none⟩ = some (.string key) ∧ z.cell? ⟨bx, 3, none⟩ = some bv) : (execOp ev ⟨some 70, Op.move (Operand.tmp 5), 56, "", #[], none⟩).run Try.prog z = .ok (.value (.map (some m1))) z := by
  obtain ⟨s2, s3⟩ := hS
  go_simp
theorem sv_1 (bx m1 m2 : Nat) (key : ByteArray) (bv : Value) (ev : Operand → Value) (z : World) (ec : ∀ c, ev (.const c) = c) (e9 : ev (.tmp 9) = .pointer (some ⟨bx, 0, none⟩)) (hS : z.cell? ⟨bx, 2, none⟩ = some (.string key) ∧ z.cell? ⟨bx, 3, none⟩ = some bv) : (execOp ev ⟨some 71, Op.fieldAddr 38 (Operand.tmp 9) 2, 0, "", #[], none⟩).run Try.prog z = .ok (.value (.pointer (some ⟨bx, 2, none⟩))) z := by
  obtain ⟨s2, s3⟩ := hS
  go_simp
theorem sv_2 (bx m1 m2 : Nat) (key : ByteArray) (bv : Value) (ev : Operand → Value) (z : World) (ec : ∀ c, ev (.const c) = c) (e71 : ev (.tmp 71) = .pointer (some ⟨bx, 2, none⟩)) (hS : z.cell? ⟨bx, 2, none⟩ = some (.string key) ∧ z.cell? ⟨bx, 3, none⟩ = some bv) : (execOp ev ⟨some 72, Op.load 9 (Operand.tmp 71), 9, "", #[], none⟩).run Try.prog z = .ok (.value (.string key)) z := by
  obtain ⟨s2, s3⟩ := hS
  go_simp
theorem sv_3 (bx m1 m2 : Nat) (key : ByteArray) (bv : Value) (ev : Operand → Value) (z : World) (ec : ∀ c, ev (.const c) = c) (e6 : ev (.tmp 6) = .map (some m2)) (hS : z.cell? ⟨bx, 2, none⟩ = some (.string key) ∧ z.cell? ⟨bx, 3, none⟩ = some bv) : (execOp ev ⟨some 73, Op.move (Operand.tmp 6), 57, "", #[], none⟩).run Try.prog z = .ok (.value (.map (some m2))) z := by
  obtain ⟨s2, s3⟩ := hS
  go_simp
theorem sv_4 (bx m1 m2 : Nat) (key : ByteArray) (bv : Value) (ev : Operand → Value) (z : World) (ec : ∀ c, ev (.const c) = c) (e9 : ev (.tmp 9) = .pointer (some ⟨bx, 0, none⟩)) (hS : z.cell? ⟨bx, 2, none⟩ = some (.string key) ∧ z.cell? ⟨bx, 3, none⟩ = some bv) : (execOp ev ⟨some 74, Op.fieldAddr 38 (Operand.tmp 9) 2, 0, "", #[], none⟩).run Try.prog z = .ok (.value (.pointer (some ⟨bx, 2, none⟩))) z := by
  obtain ⟨s2, s3⟩ := hS
  go_simp
theorem sv_5 (bx m1 m2 : Nat) (key : ByteArray) (bv : Value) (ev : Operand → Value) (z : World) (ec : ∀ c, ev (.const c) = c) (e74 : ev (.tmp 74) = .pointer (some ⟨bx, 2, none⟩)) (hS : z.cell? ⟨bx, 2, none⟩ = some (.string key) ∧ z.cell? ⟨bx, 3, none⟩ = some bv) : (execOp ev ⟨some 75, Op.load 9 (Operand.tmp 74), 9, "", #[], none⟩).run Try.prog z = .ok (.value (.string key)) z := by
  obtain ⟨s2, s3⟩ := hS
  go_simp
theorem sv_6 (bx m1 m2 : Nat) (key : ByteArray) (bv : Value) (ev : Operand → Value) (z : World) (ec : ∀ c, ev (.const c) = c) (e9 : ev (.tmp 9) = .pointer (some ⟨bx, 0, none⟩)) (hS : z.cell? ⟨bx, 2, none⟩ = some (.string key) ∧ z.cell? ⟨bx, 3, none⟩ = some bv) : (execOp ev ⟨some 76, Op.fieldAddr 38 (Operand.tmp 9) 3, 0, "", #[], none⟩).run Try.prog z = .ok (.value (.pointer (some ⟨bx, 3, none⟩))) z := by
  obtain ⟨s2, s3⟩ := hS
  go_simp
theorem sv_7 (bx m1 m2 : Nat) (key : ByteArray) (bv : Value) (ev : Operand → Value) (z : World) (ec : ∀ c, ev (.const c) = c) (e76 : ev (.tmp 76) = .pointer (some ⟨bx, 3, none⟩)) (hS : z.cell? ⟨bx, 2, none⟩ = some (.string key) ∧ z.cell? ⟨bx, 3, none⟩ = some bv) : (execOp ev ⟨some 77, Op.load 27 (Operand.tmp 76), 27, "", #[], none⟩).run Try.prog z = .ok (.value (bv)) z := by
  obtain ⟨s2, s3⟩ := hS
  go_simp
structure svR (ops : Array Oper) : Prop where
  size : ops.size = 10
  sel : Region.noSelect ops = true
  o0 : (ops[0]?).map bare = some ⟨some 70, Op.move (Operand.tmp 5), 56, "", #[], none⟩
  o1 : (ops[1]?).map bare = some ⟨some 71, Op.fieldAddr 38 (Operand.tmp 9) 2, 0, "", #[], none⟩
  o2 : (ops[2]?).map bare = some ⟨some 72, Op.load 9 (Operand.tmp 71), 9, "", #[], none⟩
  o3 : (ops[3]?).map bare = some ⟨some 73, Op.move (Operand.tmp 6), 57, "", #[], none⟩
  o4 : (ops[4]?).map bare = some ⟨some 74, Op.fieldAddr 38 (Operand.tmp 9) 2, 0, "", #[], none⟩
  o5 : (ops[5]?).map bare = some ⟨some 75, Op.load 9 (Operand.tmp 74), 9, "", #[], none⟩
  o6 : (ops[6]?).map bare = some ⟨some 76, Op.fieldAddr 38 (Operand.tmp 9) 3, 0, "", #[], none⟩
  o7 : (ops[7]?).map bare = some ⟨some 77, Op.load 27 (Operand.tmp 76), 27, "", #[], none⟩
  o8 : (ops[8]?).map bare = some ⟨none, Op.mapUpdate 56 (Operand.tmp 70) (Operand.tmp 72) (Operand.const (Value.int IntKind.i64 1)), 0, "", #[], none⟩
  o9 : (ops[9]?).map bare = some ⟨none, Op.mapUpdate 57 (Operand.tmp 73) (Operand.tmp 75) (Operand.tmp 77), 0, "", #[], none⟩
  may0 : takeB .any ops [0, 1, 2, 3, 4, 5, 6, 7] (Array.replicate 10 false) = true
  r8 : Region.ready .any ops (mark [0, 1, 2, 3, 4, 5, 6, 7] (Array.replicate 10 false)) = [8]
  r9 : Region.ready .any ops ((mark [0, 1, 2, 3, 4, 5, 6, 7] (Array.replicate 10 false)).setIfInBounds 8 true) = [9]
  fin : Region.ready .any ops (((mark [0, 1, 2, 3, 4, 5, 6, 7] (Array.replicate 10 false)).setIfInBounds 8 true).setIfInBounds 9 true) = []

set_option maxRecDepth 100000 in
set_option maxHeartbeats 3200000 in
theorem sv_region {ops : Array Oper} {id : Nat} {Q : Exit → Act → World → Prop} {a : Act} {y : World} (R : svR ops) (bx m1 m2 : Nat) (key : ByteArray) (bv : Value)
    (hQ : ∀ d v c a w, Q (.panic c) (a.put d v) w → Q (.panic c) a w) (hsz : a.tmps.size = 110) (e5 : a.eval (.tmp 5) = .map (some m1)) (e6 : a.eval (.tmp 6) = .map (some m2)) (e9 : a.eval (.tmp 9) = .pointer (some ⟨bx, 0, none⟩)) (w1 w2 : World) (r1 r2 : Unit) (hS0 : y.drew.cell? ⟨bx, 2, none⟩ = some (.string key) ∧ y.drew.cell? ⟨bx, 3, none⟩ = some bv) (hS1 : w1.cell? ⟨bx, 2, none⟩ = some (.string key) ∧ w1.cell? ⟨bx, 3, none⟩ = some bv) (hS2 : w2.cell? ⟨bx, 2, none⟩ = some (.string key) ∧ w2.cell? ⟨bx, 3, none⟩ = some bv) (hr1 : (Instr.mapUpdate 56 (.map (some m1)) (.string key) (.int .i64 1)).run Try.prog y.drew = .ok r1 w1) (hr2 : (Instr.mapUpdate 57 (.map (some m2)) (.string key) bv).run Try.prog w1 = .ok r2 w2)
    (hK :  Q .normal ((((((((a.put (some 70) (.map (some m1))).put (some 71) (.pointer (some ⟨bx, 2, none⟩))).put (some 72) (.string key)).put (some 73) (.map (some m2))).put (some 74) (.pointer (some ⟨bx, 2, none⟩))).put (some 75) (.string key)).put (some 76) (.pointer (some ⟨bx, 3, none⟩))).put (some 77) (bv)) w2) : (Code.region id ops true).wp Try.prog Q a y := by
  have HR : Hid (svR ops) := R
  have hdf : a.defers = a.defers := rfl
  refine wp_region_held_drew (S := (fun z : World => z.cell? ⟨bx, 2, none⟩ = some (.string key) ∧ z.cell? ⟨bx, 3, none⟩ = some bv)) (by kernel_rfl) (hS0) (fun hHeld => ?_)
  rw [R.size]
  clear R
  refine wpAnyH_takes HR.out.sel hQ hHeld [0, 1, 2, 3, 4, 5, 6, 7] 2 _ _ HR.out.may0 ?_
  refine wpTake_stepE ⟨some 70, Op.move (Operand.tmp 5), 56, "", #[], none⟩ 70 (.map (some m1)) HR.out.o0 rfl (by rw [hsz]; decide) (wanted_none rfl) (fun z hS => sv_0 bx m1 m2 key bv _ z (fun _ => rfl) e5 hS) ?_
  intro a1 ha1 s1 f1 n1 k1
  replace hsz := s1.trans hsz
  replace hdf := f1.trans hdf
  replace e6 := (k1 6 (by decide)).trans e6
  replace e9 := (k1 9 (by decide)).trans e9
  have e70 := n1
  clear s1 f1 n1 k1
  refine wpTake_stepE ⟨some 71, Op.fieldAddr 38 (Operand.tmp 9) 2, 0, "", #[], none⟩ 71 (.pointer (some ⟨bx, 2, none⟩)) HR.out.o1 rfl (by rw [hsz]; decide) (wanted_none rfl) (fun z hS => sv_1 bx m1 m2 key bv _ z (fun _ => rfl) e9 hS) ?_
  intro a2 ha2 s1 f1 n1 k1
  replace hsz := s1.trans hsz
  replace hdf := f1.trans hdf
  replace e6 := (k1 6 (by decide)).trans e6
  replace e9 := (k1 9 (by decide)).trans e9
  replace e70 := (k1 70 (by decide)).trans e70
  have e71 := n1
  clear s1 f1 n1 k1
  refine wpTake_stepE ⟨some 72, Op.load 9 (Operand.tmp 71), 9, "", #[], none⟩ 72 (.string key) HR.out.o2 rfl (by rw [hsz]; decide) (wanted_none rfl) (fun z hS => sv_2 bx m1 m2 key bv _ z (fun _ => rfl) e71 hS) ?_
  intro a3 ha3 s1 f1 n1 k1
  replace hsz := s1.trans hsz
  replace hdf := f1.trans hdf
  replace e6 := (k1 6 (by decide)).trans e6
  replace e9 := (k1 9 (by decide)).trans e9
  replace e70 := (k1 70 (by decide)).trans e70
  have e72 := n1
  clear s1 f1 n1 k1
  refine wpTake_stepE ⟨some 73, Op.move (Operand.tmp 6), 57, "", #[], none⟩ 73 (.map (some m2)) HR.out.o3 rfl (by rw [hsz]; decide) (wanted_none rfl) (fun z hS => sv_3 bx m1 m2 key bv _ z (fun _ => rfl) e6 hS) ?_
  intro a4 ha4 s1 f1 n1 k1
  replace hsz := s1.trans hsz
  replace hdf := f1.trans hdf
  replace e9 := (k1 9 (by decide)).trans e9
  replace e70 := (k1 70 (by decide)).trans e70
  replace e72 := (k1 72 (by decide)).trans e72
  have e73 := n1
  clear s1 f1 n1 k1
  refine wpTake_stepE ⟨some 74, Op.fieldAddr 38 (Operand.tmp 9) 2, 0, "", #[], none⟩ 74 (.pointer (some ⟨bx, 2, none⟩)) HR.out.o4 rfl (by rw [hsz]; decide) (wanted_none rfl) (fun z hS => sv_4 bx m1 m2 key bv _ z (fun _ => rfl) e9 hS) ?_
  intro a5 ha5 s1 f1 n1 k1
  replace hsz := s1.trans hsz
  replace hdf := f1.trans hdf
  replace e9 := (k1 9 (by decide)).trans e9
  replace e70 := (k1 70 (by decide)).trans e70
  replace e72 := (k1 72 (by decide)).trans e72
  replace e73 := (k1 73 (by decide)).trans e73
  have e74 := n1
  clear s1 f1 n1 k1
  refine wpTake_stepE ⟨some 75, Op.load 9 (Operand.tmp 74), 9, "", #[], none⟩ 75 (.string key) HR.out.o5 rfl (by rw [hsz]; decide) (wanted_none rfl) (fun z hS => sv_5 bx m1 m2 key bv _ z (fun _ => rfl) e74 hS) ?_
  intro a6 ha6 s1 f1 n1 k1
  replace hsz := s1.trans hsz
  replace hdf := f1.trans hdf
  replace e9 := (k1 9 (by decide)).trans e9
  replace e70 := (k1 70 (by decide)).trans e70
  replace e72 := (k1 72 (by decide)).trans e72
  replace e73 := (k1 73 (by decide)).trans e73
  have e75 := n1
  clear s1 f1 n1 k1
  refine wpTake_stepE ⟨some 76, Op.fieldAddr 38 (Operand.tmp 9) 3, 0, "", #[], none⟩ 76 (.pointer (some ⟨bx, 3, none⟩)) HR.out.o6 rfl (by rw [hsz]; decide) (wanted_none rfl) (fun z hS => sv_6 bx m1 m2 key bv _ z (fun _ => rfl) e9 hS) ?_
  intro a7 ha7 s1 f1 n1 k1
  replace hsz := s1.trans hsz
  replace hdf := f1.trans hdf
  replace e70 := (k1 70 (by decide)).trans e70
  replace e72 := (k1 72 (by decide)).trans e72
  replace e73 := (k1 73 (by decide)).trans e73
  replace e75 := (k1 75 (by decide)).trans e75
  have e76 := n1
  clear s1 f1 n1 k1
  refine wpTake_stepE ⟨some 77, Op.load 27 (Operand.tmp 76), 27, "", #[], none⟩ 77 (bv) HR.out.o7 rfl (by rw [hsz]; decide) (wanted_none rfl) (fun z hS => sv_7 bx m1 m2 key bv _ z (fun _ => rfl) e76 hS) ?_
  intro a8 ha8 s1 f1 n1 k1
  replace hsz := s1.trans hsz
  replace hdf := f1.trans hdf
  replace e70 := (k1 70 (by decide)).trans e70
  replace e72 := (k1 72 (by decide)).trans e72
  replace e73 := (k1 73 (by decide)).trans e73
  replace e75 := (k1 75 (by decide)).trans e75
  have e77 := n1
  clear s1 f1 n1 k1
  refine wpTake_nil ?_
  refine wpAnyH_skip ⟨none, Op.mapUpdate 56 (Operand.tmp 70) (Operand.tmp 72) (Operand.const (Value.int IntKind.i64 1)), 0, "", #[], none⟩ w1 HR.out.r8 HR.out.o8 rfl rfl (exec_mu e70 e72 rfl hr1) (hS1) ?_
  replace hHeld := hS1
  refine wpAnyH_skip ⟨none, Op.mapUpdate 57 (Operand.tmp 73) (Operand.tmp 75) (Operand.tmp 77), 0, "", #[], none⟩ w2 HR.out.r9 HR.out.o9 rfl rfl (exec_mu e73 e75 e77 hr2) (hS2) ?_
  replace hHeld := hS2
  refine wpAnyH_done HR.out.fin ?_ _
  rw [ha8, ha7, ha6, ha5, ha4, ha3, ha2, ha1]
  exact hK
-- R: ⟨by kernel_rfl, by kernel_rfl, by kernel_rfl, by kernel_rfl, by kernel_rfl, by kernel_rfl, by kernel_rfl, by kernel_rfl, by kernel_rfl, by kernel_rfl, by kernel_rfl, by kernel_rfl, by kernel_rfl, by kernel_rfl, by kernel_rfl, by kernel_rfl⟩

end Go.Proofs.Ytbbgplnenbkfeaa
