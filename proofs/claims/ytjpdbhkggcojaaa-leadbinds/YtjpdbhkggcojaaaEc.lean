/- Maps by whatever numbers; a try to lead in memory; New. -/
import Derived.Test.YtjpdbhkggcojaaaEb
import Derived.Test.YtjpdbhkggcojaaaQv
namespace Go.Proofs.Ytjpdbhkggcojaaa
set_option linter.unusedVariables false
open Go.RowKit Go.Deep Go.Maps

/-- what D has under numbers: T, c of them -/
structure Md (D : DataW Value) (c : Nat) (T : Int → Option Value) : Prop where
  no : ∀ z, T z = none → Maps.has D (.int .i64 z) = false
  yes : ∀ z v, T z = some v → Maps.has D (.int .i64 z) = true ∧ ∀ y, D.atKey (.int .i64 z) y = .held v
  size : Maps.size D = c
/-- block m is a map of c values by numbers -/
def Mm (w : World) (m q c : Nat) (T : Int → Option Value) : Prop := ∃ D, w.ownsMap Try.prog 3 idR m q D ∧ Md D c T
theorem Mm.lt {w : World} {m q c : Nat} {T : Int → Option Value} (h : Mm w m q c T) : m < w.heap.size := by
  obtain ⟨D, h1, h2⟩ := h
  exact h1.lt
theorem Mm.keep {S : Nat → Prop} {w w' : World} {m q c : Nat} {T : Int → Option Value} (h : Mm w m q c T) (k : Kp S w w') (hS : ¬ S m) : Mm w' m q c T := by
  have hlt := h.lt
  obtain ⟨D, ⟨es, clock, hb, r⟩, h2⟩ := h
  exact ⟨D, ⟨es, clock, (k.block m hlt hS).trans hb, r⟩, h2⟩
theorem Mm.made (w : World) : Mm (w.alloc (.map #[] 0)) w.heap.size 0 0 (fun _ => none) :=
  ⟨_, World.ownsMap_made w _ _ _, fun _ _ => rfl, fun _ _ h => (by cases h), rfl⟩
/-- T with v at z -/
def upd (T : Int → Option Value) (z : Int) (v : Value) : Int → Option Value := fun x => if x = z then some v else T x
theorem Md.put {D : DataW Value} {c : Nat} {T : Int → Option Value} {v : Value} {z : Int} (hT : Tidy D) (h : Md D c T) : Md (D.put (.int .i64 z) (.held v)) (c + (if (T z).isSome then 0 else 1)) (upd T z v) := by
  have hM := hT.isMap
  have hzz : WideAt.IsKeyLit (Lit.int .i64 z) := trivial
  refine ⟨fun x hx => ?_, fun x u hx => ?_, ?_⟩
  · unfold upd at hx
    by_cases e : x = z
    · rw [if_pos e] at hx; cases hx
    · rw [if_neg e] at hx
      rw [has_put_other (fun h => e (by injection h))]
      exact h.no x hx
  · unfold upd at hx
    by_cases e : x = z
    · rw [if_pos e] at hx
      injection hx with hx
      subst hx e
      exact ⟨has_put_same hM hzz _, fun y => atKey_put_same hM hzz _ y⟩
    · rw [if_neg e] at hx
      have hne : Lit.int .i64 x ≠ Lit.int .i64 z := fun h => e (by injection h)
      obtain ⟨b, c⟩ := h.yes x u hx
      exact ⟨by rw [has_put_other hne]; exact b, fun y => by rw [atKey_put_other hne]; exact c y⟩
  · rw [size_put hT, h.size]
    cases hz : T z with
    | none => rw [h.no z hz]; rfl
    | some u => rw [(h.yes z u hz).1]; rfl
theorem Md.look {D : DataW Value} {c : Nat} {T : Int → Option Value} (h : Md D c T) (z : Int) (y : Value) : Maps.has D (.int .i64 z) = (T z).isSome ∧ D.atKey (.int .i64 z) (.held y) = .held ((T z).getD y) := by
  cases hz : T z with
  | none => exact ⟨h.no z hz, atKey_of_not_has (h.no z hz) _⟩
  | some v => exact ⟨(h.yes z v hz).1, (h.yes z v hz).2 _⟩
theorem z_key (z : Int) (h : (Lit.int .i64 z).wf = true) : keyOf Try.prog 3 (.int .i64 z) = some (.int .i64 z) := keyOf_int_mk Try.underlying3 h
theorem z_wf {z : Int} (h : -9223372036854775808 ≤ z ∧ z ≤ 9223372036854775807) : (Lit.int .i64 z).wf = true := WalkArith.wf_i64 h

section
variable {MT ET : TypeId} {zv : Value}
theorem wpList_look_mm {ops : Array Oper} {rest : List Oper} {o : Oper} {a : Act} {w : World} {Q : Exit → Act → World → Prop} (hg : o.guard = none) (mm x : Operand) (hop : o.op = Op.lookup MT mm x true)
    (hu : Try.prog.underlying MT = some (.map 3 ET)) (hz : ∀ w, (zeroValue ET).run Try.prog w = .ok zv w)
    (m q c : Nat) (T : Int → Option Value) (h : Mm w m q c T) (hm : a.eval mm = .map (some m)) (z : Int) (hw : (Lit.int .i64 z).wf = true) (hx : a.eval x = .int .i64 z)
    (hK : wpList Try.prog ops Q rest (a.put o.dst (.tuple #[(T z).getD zv, .bool (T z).isSome])) w) : wpList Try.prog ops Q (o :: rest) a w := by
  obtain ⟨D, h1, h2⟩ := h
  obtain ⟨e1, e2⟩ := h2.look z zv
  refine wpList_lookup_own_ok _ hg mm x MT hop 3 ET intLaw hu idR (hz w) (.held zv) [] rfl m q D hm h1 _ _ hx (z_key z hw) ?_
  intro v ps hv
  rw [e2] at hv
  injection hv with hv
  injection hv with hv _
  injection hv with hv
  rw [hv, e1]
  exact hK
set_option maxRecDepth 100000 in
theorem look_mm_ok {w : World} {m q c : Nat} {T : Int → Option Value} (hu : Try.prog.underlying MT = some (.map 3 ET)) (hz : ∀ w, (zeroValue ET).run Try.prog w = .ok zv w) (h : Mm w m q c T) (z : Int) (hw : (Lit.int .i64 z).wf = true) : (Instr.lookup MT (.map (some m)) (.int .i64 z) true).run Try.prog w = .ok (.tuple #[(T z).getD zv, .bool (T z).isSome]) w := by
  obtain ⟨D, h1, h2⟩ := h
  obtain ⟨e1, e2⟩ := h2.look z zv
  obtain ⟨v, ps, hrun, hv⟩ := h1.look_ok intLaw hu (hz w) (zd := .held zv) (zp := []) rfl (z_key z hw)
  rw [e2] at hv
  injection hv with hv
  injection hv with hv _
  injection hv with hv
  rw [hrun, hv, e1]
set_option maxRecDepth 100000 in
theorem look_mm {w : World} {m q c : Nat} {T : Int → Option Value} (hu : Try.prog.underlying MT = some (.map 3 ET)) (hz : ∀ w, (zeroValue ET).run Try.prog w = .ok zv w) (h : Mm w m q c T) (z : Int) (hw : (Lit.int .i64 z).wf = true) : (Instr.lookup MT (.map (some m)) (.int .i64 z) false).run Try.prog w = .ok ((T z).getD zv) w := by
  obtain ⟨D, h1, h2⟩ := h
  obtain ⟨e1, e2⟩ := h2.look z zv
  obtain ⟨v, ps, hrun, hv⟩ := h1.lookup intLaw hu (hz w) (zd := .held zv) (zp := []) rfl (z_key z hw)
  rw [e2] at hv
  injection hv with hv
  injection hv with hv _
  injection hv with hv
  rw [hrun, hv]
theorem wpList_put_mm {ops : Array Oper} {rest : List Oper} {o : Oper} {a : Act} {w : World} {Q : Exit → Act → World → Prop} (hg : o.guard = none) (mm x v : Operand) (hop : o.op = Op.mapUpdate MT mm x v)
    (hu : Try.prog.underlying MT = some (.map 3 ET))
    (m q c : Nat) (T : Int → Option Value) (h : Mm w m q c T) (hm : a.eval mm = .map (some m)) (hq : q < 4611686018427387904) (z : Int) (hw : (Lit.int .i64 z).wf = true) (hx : a.eval x = .int .i64 z) (u : Value) (hv : a.eval v = u)
    (hK : ∀ w', Mm w' m (q + 1) (c + (if (T z).isSome then 0 else 1)) (upd T z u) → Kp (fun x => x = m) w w' → wpList Try.prog ops Q rest (a.put o.dst undef) w') : wpList Try.prog ops Q (o :: rest) a w := by
  obtain ⟨D, h1, h2⟩ := h
  refine wpList_mapUpdate_own _ hg mm x v MT hop 3 ET intLaw hu _ m q D hm h1 (by unfold maxLen; omega) _ _ _ hx hv (z_key _ hw) (.held u) [] rfl ?_
  intro w' h3 hg'
  exact hK w' ⟨_, h3, h2.put (h1.tidy intLaw)⟩ ((grownBy_kp hg').mono (fun b _ e => by cases e; rfl))
theorem len_mm {w : World} {m q c : Nat} {T : Int → Option Value} (hu : Try.prog.underlying MT = some (.map 3 ET)) (h : Mm w m q c T) (ty : TypeId) : (Builtin.len_ #[MT] ty #[.map (some m)]).run Try.prog w = .ok (.int .i64 (c : Int)) w := by
  obtain ⟨D, h1, h2⟩ := h
  rw [h1.len hu ty, h2.size]
end

/-- a proposal: its command, who accepted -/
structure Pq where
  (c : Cs0) (nodes : List Int) (acc : List Bool)
abbrev pcell (x : Pq) (nv : Value) : List Value := (cmdA x.c nv).toList ++ bools x.acc
/-- a try's cells -/
abbrev tcells (bal frm nxt : Int) (pr : List Bool) (mb mp : Nat) : List Value := .int .i64 bal :: .int .i64 frm :: .int .i64 nxt :: (bools pr ++ [.map (some mb), .map (some mp)])
abbrev Zt (t mb mp : Nat) : Nat → Prop := fun b => b ≠ t ∧ b ≠ mb ∧ b ≠ mp
/-- a list of numbers, as a slice, in blocks of which Z holds -/
def Ni (w : World) (Z : Nat → Prop) (zs : List Int) (nv : Value) : Prop := ∃ p cap, nv = .slice p zs.length cap ∧ Fl w Z p (zs.map encI) ∧ zs.length * 8 ≤ 140737488355328
theorem Ni.keep {S Z : Nat → Prop} {w w' : World} {zs : List Int} {nv : Value} (h : Ni w Z zs nv) (k : Kp S w w') (hS : ∀ b, Z b → ¬ S b) : Ni w' Z zs nv := by
  obtain ⟨p, cap, e, hf, hn⟩ := h
  exact ⟨p, cap, e, hf.keep k hS, hn⟩
theorem Ni.mono {Z Z' : Nat → Prop} {w : World} {zs : List Int} {nv : Value} (h : Ni w Z zs nv) (hz : ∀ b, Z b → Z' b) : Ni w Z' zs nv := by
  obtain ⟨p, cap, e, hf, hn⟩ := h
  exact ⟨p, cap, e, hf.mono hz, hn⟩
/-- votes as the map's values -/
def vmap (B : Int → Option (Vo × Value)) : Int → Option Value := fun z => (B z).map (fun x => .agg (vcell x.1 x.2).toArray)
def pmap (O : Int → Option (Pq × Value)) : Int → Option Value := fun z => (O z).map (fun x => .agg (pcell x.1 x.2).toArray)

/-- a try in memory: block t, its maps mb (votes that bind: B) and mp (what is proposed: O, cp of them) -/
structure Tr (w : World) (t mb mp qb qp cb cp : Nat) (bal frm nxt : Int) (pr : List Bool) (B : Int → Option (Vo × Value)) (O : Int → Option (Pq × Value)) : Prop where
  lv : Lv w t (tcells bal frm nxt pr mb mp)
  len : pr.length = 16
  b : Mm w mb qb cb (vmap B)
  o : Mm w mp qp cp (pmap O)
  ne : t ≠ mb ∧ t ≠ mp ∧ mb ≠ mp
  nb : ∀ z x, B z = some x → Ni w (Zt t mb mp) x.1.nodes x.2
  no : ∀ z x, O z = some x → Ni w (Zt t mb mp) x.1.nodes x.2 ∧ x.1.acc.length = 16
  pos : 0 < bal
section
variable {w : World} {t mb mp qb qp cb cp : Nat} {bal frm nxt : Int} {pr : List Bool} {B : Int → Option (Vo × Value)} {O : Int → Option (Pq × Value)}
theorem Tr.keep {w' : World} (h : Tr w t mb mp qb qp cb cp bal frm nxt pr B O) (k : Kp (fun _ => False) w w') : Tr w' t mb mp qb qp cb cp bal frm nxt pr B O :=
  ⟨h.lv.keep k id, h.len, h.b.keep k id, h.o.keep k id, h.ne, fun z x hx => (h.nb z x hx).keep k (fun _ _ => id), fun z x hx => ⟨(h.no z x hx).1.keep k (fun _ _ => id), (h.no z x hx).2⟩, h.pos⟩
theorem Tr.keepS {S : Nat → Prop} {w' : World} (h : Tr w t mb mp qb qp cb cp bal frm nxt pr B O) (k : Kp S w w') (hS : ∀ b, b < w.heap.size → ¬ S b) : Tr w' t mb mp qb qp cb cp bal frm nxt pr B O :=
  h.keep (k.mono (fun b hb hs => hS b hb hs))
theorem Tr.lt (h : Tr w t mb mp qb qp cb cp bal frm nxt pr B O) : t < w.heap.size ∧ mb < w.heap.size ∧ mp < w.heap.size := ⟨h.lv.lt (by simp), h.b.lt, h.o.lt⟩
theorem Tr.c0 (h : Tr w t mb mp qb qp cb cp bal frm nxt pr B O) : w.cell? ⟨t, 0, none⟩ = some (.int .i64 bal) := h.lv.cell (j := 0) rfl
theorem Tr.c1 (h : Tr w t mb mp qb qp cb cp bal frm nxt pr B O) : w.cell? ⟨t, 1, none⟩ = some (.int .i64 frm) := h.lv.cell (j := 1) rfl
theorem Tr.c2 (h : Tr w t mb mp qb qp cb cp bal frm nxt pr B O) : w.cell? ⟨t, 2, none⟩ = some (.int .i64 nxt) := h.lv.cell (j := 2) rfl
theorem Tr.c19 (h : Tr w t mb mp qb qp cb cp bal frm nxt pr B O) : w.cell? ⟨t, 19, none⟩ = some (.map (some mb)) := h.lv.cell (j := 19) (by
  show (bools pr ++ [.map (some mb), .map (some mp)])[16]? = _
  rw [List.getElem?_append_right (by simp [h.len]), List.length_map, h.len]; rfl)
theorem Tr.c20 (h : Tr w t mb mp qb qp cb cp bal frm nxt pr B O) : w.cell? ⟨t, 20, none⟩ = some (.map (some mp)) := h.lv.cell (j := 20) (by
  show (bools pr ++ [.map (some mb), .map (some mp)])[17]? = _
  rw [List.getElem?_append_right (by simp [h.len]), List.length_map, h.len]; rfl)
theorem Tr.len21 (h : Tr w t mb mp qb qp cb cp bal frm nxt pr B O) : (tcells bal frm nxt pr mb mp).length = 21 := by simp [h.len]
theorem Tr.fz (h : Tr w t mb mp qb qp cb cp bal frm nxt pr B O) {j : Nat} (hj : j < 21) : w.frozen? ⟨t, j, none⟩ = false := h.lv.fz (by rw [h.len21]; exact hj)
end

theorem uVote : Try.prog.underlying 62 = some (.map 3 55) := Try.underlying62
theorem uProp : Try.prog.underlying 63 = some (.map 3 77) := Try.underlying63
def cs00 : Cs0 := ⟨0, 0, ⟨#[]⟩, 0, 0, 0, 0, 0, 0, 0, 0⟩
def vo0 : Vo := ⟨0, 0, cs00, []⟩
def pq0 : Pq := ⟨cs00, [], List.replicate 16 false⟩
abbrev nil0 : Value := .slice none 0 0
theorem zVote (w : World) : (zeroValue 55).run Try.prog w = .ok (.agg (vcell vo0 nil0).toArray) w := by kernel_rfl
theorem zProp (w : World) : (zeroValue 77).run Try.prog w = .ok (.agg (pcell pq0 nil0).toArray) w := by kernel_rfl
theorem szVo : (Try.prog.info? 55).map (·.size) = some 14 := by kernel_rfl
theorem dsVo : ∃ d, Try.prog.underlying 55 = some d ∧ d.isRow = true := ⟨_, Try.underlying55, rfl⟩
theorem szPq : (Try.prog.info? 77).map (·.size) = some 28 := by kernel_rfl
theorem dsPq : ∃ d, Try.prog.underlying 77 = some d ∧ d.isRow = true := ⟨_, Try.underlying77, rfl⟩
theorem szNd : (Try.prog.info? 61).map (·.size) = some 16 := by kernel_rfl
theorem dsNd : ∃ d, Try.prog.underlying 61 = some d ∧ d.isRow = true := ⟨_, Try.underlying61, rfl⟩
theorem vget (B : Int → Option (Vo × Value)) (z : Int) : (vmap B z).getD (.agg (vcell vo0 nil0).toArray) = .agg (vcell ((B z).getD (vo0, nil0)).1 ((B z).getD (vo0, nil0)).2).toArray := by
  unfold vmap; cases B z <;> rfl
theorem vsome (B : Int → Option (Vo × Value)) (z : Int) : (vmap B z).isSome = (B z).isSome := by unfold vmap; cases B z <;> rfl
theorem pget (O : Int → Option (Pq × Value)) (z : Int) : (pmap O z).getD (.agg (pcell pq0 nil0).toArray) = .agg (pcell ((O z).getD (pq0, nil0)).1 ((O z).getD (pq0, nil0)).2).toArray := by
  unfold pmap; cases O z <;> rfl
theorem psome (O : Int → Option (Pq × Value)) (z : Int) : (pmap O z).isSome = (O z).isSome := by unfold pmap; cases O z <;> rfl

set_option maxRecDepth 100000 in
set_option maxHeartbeats 800000 in
theorem tmade_ok {w : World} {t mb mp qb qp cb cp : Nat} {bal frm nxt : Int} {pr : List Bool} {B : Int → Option (Vo × Value)} {O : Int → Option (Pq × Value)} (h : Tr w t mb mp qb qp cb cp bal frm nxt pr B O) :
    Calls Try.prog 33 #[.pointer (some ⟨t, 0, none⟩)] w fun e w' => e = .returned (.bool true) ∧ w' = w := by
  have c0 := h.c0
  have hp := h.pos
  clear h
  go_enter Try.func33, Try.ntmps33
  go_wp2
  go_ret
  exact ⟨rfl, rfl⟩

set_option maxRecDepth 100000 in
set_option maxHeartbeats 800000 in
theorem tnext_ok {w : World} {t mb mp qb qp cb cp : Nat} {bal frm nxt : Int} {pr : List Bool} {B : Int → Option (Vo × Value)} {O : Int → Option (Pq × Value)} (h : Tr w t mb mp qb qp cb cp bal frm nxt pr B O) :
    Calls Try.prog 26 #[.pointer (some ⟨t, 0, none⟩)] w fun e w' => e = .returned (.int .i64 nxt) ∧ w' = w := by
  have c2 := h.c2
  have H : Hid (Calls _ _ _ w _) := tmade_ok h
  clear h
  go_enter Try.func26, Try.ntmps26
  go_wp2_with (go_at_call 33; refine H.out.mono ?_; rintro e w' ⟨rfl, hw'⟩; obtain rfl := hw'.symm; clear hw')
  go_ret
  exact ⟨rfl, rfl⟩

set_option maxRecDepth 100000 in
set_option maxHeartbeats 800000 in
theorem tballot_ok {w : World} {t mb mp qb qp cb cp : Nat} {bal frm nxt : Int} {pr : List Bool} {B : Int → Option (Vo × Value)} {O : Int → Option (Pq × Value)} (h : Tr w t mb mp qb qp cb cp bal frm nxt pr B O) :
    Calls Try.prog 31 #[.pointer (some ⟨t, 0, none⟩)] w fun e w' => e = .returned (.int .i64 bal) ∧ w' = w := by
  have c0 := h.c0
  have H : Hid (Calls _ _ _ w _) := tmade_ok h
  clear h
  go_enter Try.func31, Try.ntmps31
  go_wp2_with (go_at_call 33; refine H.out.mono ?_; rintro e w' ⟨rfl, hw'⟩; obtain rfl := hw'.symm; clear hw')
  go_ret
  exact ⟨rfl, rfl⟩

set_option maxRecDepth 100000 in
set_option maxHeartbeats 1600000 in
theorem tnew_ok (bal frm : Int) (w : World) (hb : 1 ≤ bal ∧ bal ≤ 1152921504606846976) (hf : 1 ≤ frm ∧ frm ≤ 1152921504606846976) :
    Calls Try.prog 9 #[.int .i64 bal, .int .i64 frm] w fun e w' => ∃ t mb mp, e = .returned (.tuple #[.pointer (some ⟨t, 0, none⟩), .int .i64 0]) ∧ Kp (fun _ => False) w w' ∧ w.heap.size ≤ t ∧ w.heap.size ≤ mb ∧ w.heap.size ≤ mp ∧ Tr w' t mb mp 0 0 0 0 bal frm frm (List.replicate 16 false) (fun _ => none) (fun _ => none) := by
  have hmm : ∀ (t : TypeId) (w : World), (Instr.makeMap t none).run Try.prog w = .ok (.map (some w.heap.size)) (w.alloc (.map #[] 0)) := fun _ _ => rfl
  obtain ⟨hb1, hb2⟩ := hb
  obtain ⟨hf1, hf2⟩ := hf
  go_enter Try.func9, Try.ntmps9
  go_wp2
  go_ret2
  obtain ⟨w1, hw1⟩ : ∃ x, x = w.alloc (.map #[] 0) := ⟨_, rfl⟩
  have z1 : w1.heap.size = w.heap.size + 1 := by rw [hw1]; simp
  have k1 : Kp (fun _ => False) w w1 := by rw [hw1]; exact (Kp.refl _ _).alloc _
  have m1 : Mm w1 w.heap.size 0 0 (fun _ => none) := by rw [hw1]; exact Mm.made w
  rw [← hw1]
  obtain ⟨w2, hw2⟩ : ∃ x, x = w1.alloc (.map #[] 0) := ⟨_, rfl⟩
  have z2 : w2.heap.size = w.heap.size + 1 + 1 := by rw [hw2]; simp [z1]
  have k2 : Kp (fun _ => False) w1 w2 := by rw [hw2]; exact (Kp.refl _ _).alloc _
  have m2 : Mm w2 w1.heap.size 0 0 (fun _ => none) := by rw [hw2]; exact Mm.made w1
  rw [← hw2]
  obtain ⟨cs, hcs⟩ : ∃ cs, cs = tcells bal frm frm (List.replicate 16 false) w.heap.size w1.heap.size := ⟨_, rfl⟩
  have hl3 := Lv.new w2 cs.toArray 65
  have k3 : Kp (fun _ => False) w2 (w2.alloc (.cells cs.toArray 65)) := (Kp.refl _ _).alloc _
  rw [hcs] at hl3 k3
  rw [z1] at m2 hl3 k3
  rw [z2] at hl3
  exact ⟨w.heap.size + 1 + 1, w.heap.size, w.heap.size + 1, rfl, (k1.trans k2 (fun _ _ e => e)).trans k3 (fun _ _ e => e), by omega, Nat.le_refl _, by omega,
    ⟨hl3, by simp, (m1.keep k2 id).keep k3 id, m2.keep k3 id, ⟨by omega, by omega, by omega⟩, fun _ _ h => (by cases h), fun _ _ h => (by cases h), by omega⟩⟩
end Go.Proofs.Ytjpdbhkggcojaaa
