/- A vote is counted; a promise is heard. -/
import Derived.Test.YtjpdbhkggcojaaaEc
namespace Go.Proofs.Ytjpdbhkggcojaaa
set_option linter.unusedVariables false
open Go.RowKit Go.Deep Go.Maps

theorem wpStill_ld {P : Program} {ops : Array Oper} {w : World} {Q : Act → Prop} {rest : List Oper} {o : Oper} {a : Act} (hg : o.guard = none) (ty : TypeId) (x : Operand) (ho : o.op = .load ty x) (v : Value)
    (hrun : (Instr.loadAt ty (a.eval x)).run P w = .ok v w) (h : wpStill P ops w Q rest (a.put o.dst v)) : wpStill P ops w Q (o :: rest) a := by
  unfold wpStill
  have hw : Region.wanted o (yielded ops a.tmps) = true := by simp [Region.wanted, hg]
  rw [if_pos hw]
  simp [Oper.still, execOp, ho, hrun, Oper.stillUpon, h]
theorem wpStill_lk {P : Program} {ops : Array Oper} {w : World} {Q : Act → Prop} {rest : List Oper} {o : Oper} {a : Act} (hg : o.guard = none) (ty : TypeId) (m x : Operand) (b : Bool) (ho : o.op = .lookup ty m x b) (v : Value)
    (hrun : (Instr.lookup ty (a.eval m) (a.eval x) b).run P w = .ok v w) (h : wpStill P ops w Q rest (a.put o.dst v)) : wpStill P ops w Q (o :: rest) a := by
  unfold wpStill
  have hw : Region.wanted o (yielded ops a.tmps) = true := by simp [Region.wanted, hg]
  rw [if_pos hw]
  simp [Oper.still, execOp, ho, hrun, Oper.stillUpon, h]

theorem Lv.loadAt {u : World} {g : Nat} {cs : List Value} (h : Lv u g cs) {ty : TypeId} {n : Nat} (hd : ∃ d, Try.prog.underlying ty = some d ∧ d.isRow = true) (hi : (Try.prog.info? ty).map (·.size) = some n) (hn : cs.length = n) : (Instr.loadAt ty (.pointer (some ⟨g, 0, none⟩))).run Try.prog u = .ok (.agg cs.toArray) u := by
  obtain ⟨d, hd1, hd2⟩ := hd
  exact run_loadAt_mid u g 0 ty cs d h.r hd1 hd2 (by rw [hi, hn])

section
variable {w : World} {t mb mp qb qp cb cp : Nat} {bal frm nxt : Int} {pr : List Bool} {B : Int → Option (Vo × Value)} {O : Int → Option (Pq × Value)}
theorem Tr.own {w' : World} {nxt' : Int} {pr' : List Bool} (h : Tr w t mb mp qb qp cb cp bal frm nxt pr B O) (k : Kp (fun b => b = t) w w') (hl : Lv w' t (tcells bal frm nxt' pr' mb mp)) (hp : pr'.length = 16) : Tr w' t mb mp qb qp cb cp bal frm nxt' pr' B O :=
  ⟨hl, hp, h.b.keep k (fun e => h.ne.1 e.symm), h.o.keep k (fun e => h.ne.2.1 e.symm), h.ne, fun z x hx => (h.nb z x hx).keep k (fun b hb e => hb.1 e), fun z x hx => ⟨(h.no z x hx).1.keep k (fun b hb e => hb.1 e), (h.no z x hx).2⟩, h.pos⟩
theorem Tr.putb {w' : World} {qb' cb' : Nat} {B' : Int → Option (Vo × Value)} (h : Tr w t mb mp qb qp cb cp bal frm nxt pr B O) (k : Kp (fun b => b = mb) w w') (hm : Mm w' mb qb' cb' (vmap B')) (hn : ∀ z x, B' z = some x → Ni w (Zt t mb mp) x.1.nodes x.2) : Tr w' t mb mp qb' qp cb' cp bal frm nxt pr B' O :=
  ⟨h.lv.keep k h.ne.1, h.len, hm, h.o.keep k (fun e => h.ne.2.2 e.symm), h.ne, fun z x hx => (hn z x hx).keep k (fun b hb e => hb.2.1 e), fun z x hx => ⟨(h.no z x hx).1.keep k (fun b hb e => hb.2.1 e), (h.no z x hx).2⟩, h.pos⟩
theorem Tr.puto {w' : World} {qp' cp' : Nat} {O' : Int → Option (Pq × Value)} (h : Tr w t mb mp qb qp cb cp bal frm nxt pr B O) (k : Kp (fun b => b = mp) w w') (hm : Mm w' mp qp' cp' (pmap O')) (hn : ∀ z x, O' z = some x → Ni w (Zt t mb mp) x.1.nodes x.2 ∧ x.1.acc.length = 16) : Tr w' t mb mp qb qp' cb cp' bal frm nxt pr B O' :=
  ⟨h.lv.keep k h.ne.2.1, h.len, h.b.keep k h.ne.2.2, hm, h.ne, fun z x hx => (h.nb z x hx).keep k (fun b hb e => hb.2.2 e), fun z x hx => ⟨(hn z x hx).1.keep k (fun b hb e => hb.2.2 e), (hn z x hx).2⟩, h.pos⟩
end

/-- the slot behind one; no number is behind the greatest -/
def nextOf (z : Int) : Int := if z < 9223372036854775807 then z + 1 else z
set_option maxRecDepth 100000 in
set_option maxHeartbeats 1600000 in
theorem tpass_ok {w : World} {t mb mp qb qp cb cp : Nat} {bal frm nxt : Int} {pr : List Bool} {B : Int → Option (Vo × Value)} {O : Int → Option (Pq × Value)} (h : Tr w t mb mp qb qp cb cp bal frm nxt pr B O) (z : Int) (hz : -9223372036854775808 ≤ z ∧ z ≤ 9223372036854775807) :
    Calls Try.prog 40 #[.pointer (some ⟨t, 0, none⟩), .int .i64 z] w fun e w' => e = .returned (.tuple #[]) ∧ Kp (fun b => b = t) w w' ∧ Tr w' t mb mp qb qp cb cp bal frm (max nxt (nextOf z)) pr B O := by
  have HT : Hid (Tr w t mb mp qb qp cb cp bal frm nxt pr B O) := h
  have c2 := h.c2
  have f2 := h.fz (j := 2) (by omega)
  have HE : Hid (∀ v, Lv (w.setCell ⟨t, 2, none⟩ (.int .i64 v)) t (tcells bal frm v pr mb mp)) := fun v => h.lv.set1 2 _ (by rw [h.len21]; omega)
  obtain ⟨m, hm⟩ : ∃ m, m = max nxt (nextOf z) := ⟨_, rfl⟩
  have HM : Hid (m = max nxt (nextOf z)) := hm
  rw [← hm]
  have fin : ∀ u : World, u = w.setCell ⟨t, 2, none⟩ (.int .i64 m) → Kp (fun b => b = t) w u ∧ Tr u t mb mp qb qp cb cp bal frm m pr B O := fun u e => by
    rw [e]
    have ks : Kp (fun b => b = t) w (w.setCell ⟨t, 2, none⟩ (.int .i64 m)) := (Kp.refl (fun b => b = t) w).setCell (fun _ => rfl) _
    exact ⟨ks, HT.out.own ks (HE.out m) HT.out.len⟩
  have HFn : Hid (∀ u : World, u = w.setCell ⟨t, 2, none⟩ (.int .i64 m) → Kp (fun b => b = t) w u ∧ Tr u t mb mp qb qp cb cp bal frm m pr B O) := fin
  by_cases hlt : z < 9223372036854775807
  · have hwr : wrap64 (z + 1) = z + 1 := by unfold wrap64; omega
    have hmx : max nxt (z + 1) = m := by rw [hm]; unfold nextOf; rw [if_pos hlt]
    clear fin hm h hz
    go_enter Try.func40, Try.ntmps40
    go_wp2
    go_end0
    exact ⟨rfl, HFn.out _ rfl⟩
  · have hmx : max nxt z = m := by rw [hm]; unfold nextOf; rw [if_neg hlt]
    clear fin hm h hz
    go_enter Try.func40, Try.ntmps40
    go_wp2
    go_end0
    exact ⟨rfl, HFn.out _ rfl⟩

/-- does a vote go ahead of v -/
def ahead (b : Option Vo) (v : Vo) : Bool := match b with
  | some x => decide (v.ballot ≤ x.ballot)
  | none => false
def plainB (B : Int → Option (Vo × Value)) : Int → Option Vo := fun z => (B z).map (·.1)
/-- v counts -/
def cntV (b : Int → Option Vo) (v : Vo) : Int → Option Vo := if ahead (b v.slot) v then b else fun z => if z = v.slot then some v else b z
def cntN (b : Int → Option Vo) (n : Int) (v : Vo) : Int := if ahead (b v.slot) v then n else max n (nextOf v.slot)
def updB (B : Int → Option (Vo × Value)) (z : Int) (x : Vo × Value) : Int → Option (Vo × Value) := fun y => if y = z then some x else B y
theorem vmap_upd (B : Int → Option (Vo × Value)) (z : Int) (x : Vo × Value) : upd (vmap B) z (.agg (vcell x.1 x.2).toArray) = vmap (updB B z x) := by
  funext y
  unfold upd vmap updB
  by_cases e : y = z
  · rw [if_pos e, if_pos e]; rfl
  · rw [if_neg e, if_neg e]
theorem plain_upd (B : Int → Option (Vo × Value)) (z : Int) (x : Vo × Value) : plainB (updB B z x) = fun y => if y = z then some x.1 else plainB B y := by
  funext y
  unfold plainB updB
  by_cases e : y = z
  · rw [if_pos e, if_pos e]; rfl
  · rw [if_neg e, if_neg e]
theorem vc_one (v : Vo) {nv : Value} (h : nv.oneCell' = true) : (vcell v nv).toArray.all (·.oneCell') = true := all_oneCell_toArray (fun x hx => by
  simp only [vcell, List.mem_cons, List.not_mem_nil, or_false] at hx
  rcases hx with rfl | rfl | rfl | rfl | rfl | rfl | rfl | rfl | rfl | rfl | rfl | rfl | rfl | rfl <;> first | rfl | exact h)

/-- behind a vote that was counted -/
def Cn (w' : World) (t mb mp qb qp cp : Nat) (bal frm nxt : Int) (pr : List Bool) (B : Int → Option (Vo × Value)) (O : Int → Option (Pq × Value)) (v : Vo) : Prop :=
  ∃ nxt' B' qb' cb', Tr w' t mb mp qb' qp cb' cp bal frm nxt' pr B' O ∧ qb' ≤ qb + 1 ∧ plainB B' = cntV (plainB B) v ∧ nxt' = cntN (plainB B) nxt v

set_option maxRecDepth 100000 in
set_option maxHeartbeats 4000000 in
theorem tcount_ok {w : World} {t mb mp qb qp cb cp : Nat} {bal frm nxt : Int} {pr : List Bool} {B : Int → Option (Vo × Value)} {O : Int → Option (Pq × Value)} (h : Tr w t mb mp qb qp cb cp bal frm nxt pr B O) (v : Vo) (nv : Value) (hn : Ni w (· < w.heap.size) v.nodes nv) (hz : -9223372036854775808 ≤ v.slot ∧ v.slot ≤ 9223372036854775807) (hq : qb < 4611686018427387904) :
    Calls Try.prog 36 #[.pointer (some ⟨t, 0, none⟩), .agg (vcell v nv).toArray] w fun e w' => e = .returned (.tuple #[]) ∧ Kp (fun b => b = t ∨ b = mb) w w' ∧ Cn w' t mb mp qb qp cp bal frm nxt pr B O v := by
  obtain ⟨va, hva⟩ : ∃ va : Array Value, va = (vcell v nv).toArray := ⟨_, rfl⟩
  rw [← hva]
  obtain ⟨pn, capn, hnv, hfn, hln⟩ := hn
  have HFn : Hid (Fl w (· < w.heap.size) pn (v.nodes.map encI)) := hfn
  have HLn : Hid (v.nodes.length * 8 ≤ 140737488355328) := hln
  have HNv : Hid (nv = .slice pn v.nodes.length capn) := hnv
  have HT : Hid (Tr w t mb mp qb qp cb cp bal frm nxt pr B O) := h
  have HQ : Hid (qb < 4611686018427387904) := hq
  have HZ : Hid (-9223372036854775808 ≤ v.slot ∧ v.slot ≤ 9223372036854775807) := hz
  have HVA : Hid (va = (vcell v nv).toArray) := hva
  clear hfn hln hnv h hq hz hva
  go_enter Try.func36, Try.ntmps36
  go_wp2_with fail
  obtain ⟨u, hu⟩ : ∃ x, x = w.alloc (.cells va 55) := ⟨_, rfl⟩
  rw [← hu]
  have HLv : Hid (Lv u w.heap.size (vcell v nv)) := by rw [hu, HVA.out]; exact Lv.new w _ _
  have k0 : Kp (fun _ => False) w u := by rw [hu]; exact (Kp.refl _ _).alloc _
  clear hu
  obtain ⟨g, hg⟩ : ∃ g, g = w.heap.size := ⟨_, rfl⟩
  rw [← hg] at HLv ⊢
  have HG : Hid (w.heap.size ≤ g ∧ g < u.heap.size ∧ t < w.heap.size ∧ mb < w.heap.size ∧ mp < w.heap.size) := ⟨by omega, HLv.out.lt (by simp), HT.out.lt⟩
  clear hg
  have HS : Hid (∀ z, Kp (fun _ => False) u z → z.cell? ⟨t, 19, none⟩ = some (.map (some mb)) ∧ z.cell? ⟨g, 0, none⟩ = some (.int .i64 v.slot) ∧ (Instr.lookup 62 (.map (some mb)) (.int .i64 v.slot) true).run Try.prog z = .ok (.tuple #[.agg (vcell ((B v.slot).getD (vo0, nil0)).1 ((B v.slot).getD (vo0, nil0)).2).toArray, .bool (B v.slot).isSome]) z) := fun z kz => by
    have hT := HT.out.keep (k0.trans kz (fun _ _ e => e))
    have hlk := look_mm_ok uVote zVote hT.b v.slot (z_wf HZ.out)
    rw [vget, vsome] at hlk
    exact ⟨hT.c19, (HLv.out.keep kz id).cell (j := 0) rfl, hlk⟩
  have HXN : Hid (((B v.slot).getD (vo0, nil0)).2.oneCell' = true) := by
    show _ = _
    cases hB : B v.slot with
    | none => rfl
    | some x =>
      obtain ⟨p, cap, e, _⟩ := HT.out.nb _ x hB
      show x.2.oneCell' = true
      rw [e]; rfl
  obtain ⟨y, hy⟩ : ∃ y, y = (B v.slot).getD (vo0, nil0) := ⟨_, rfl⟩
  obtain ⟨ok, hok⟩ : ∃ ok, ok = (B v.slot).isSome := ⟨_, rfl⟩
  rw [← hy, ← hok] at HS
  rw [← hy] at HXN
  have HY : Hid (y = (B v.slot).getD (vo0, nil0)) := hy
  have HK : Hid (ok = (B v.slot).isSome) := hok
  have HO2 : Hid ((vcell y.1 y.2).toArray.all (·.oneCell') = true) := vc_one y.1 HXN.out
  obtain ⟨xa, hxa⟩ : ∃ xa : Array Value, xa = (vcell y.1 y.2).toArray := ⟨_, rfl⟩
  rw [← hxa] at HS HO2
  have HXA : Hid (xa = (vcell y.1 y.2).toArray) := hxa
  clear hxa hy hok
  have kd0 : Kp (fun _ => False) u u.drew := (Kp.refl _ _).drew
  obtain ⟨wd, hwd⟩ : ∃ x, x = u.drew := ⟨_, rfl⟩
  refine wp_region_held_drew (S := (fun z => z.cell? ⟨t, 19, none⟩ = some (.map (some mb)) ∧ z.cell? ⟨g, 0, none⟩ = some (.int .i64 v.slot) ∧ (Instr.lookup 62 (.map (some mb)) (.int .i64 v.slot) true).run Try.prog z = .ok (.tuple #[.agg xa, .bool ok]) z)) (by kernel_rfl) (HS.out _ kd0) (fun hHeld => ?_)
  rw [← hwd] at kd0 hHeld ⊢
  clear hwd
  simp only [List.size_toArray, List.length_cons, List.length_nil, Nat.zero_add, Nat.reduceAdd]
  refine wpAnyH_take (i := 0) (v := ?zv0) (List.getElem?_toArray.trans rfl) (by kernel_rfl) (by kernel_rfl) (by kernel_rfl) (fun _ _ _ h => h) (Or.inl ⟨by rfl, ?zy0⟩) (by assumption) ?zr0
  case zy0 => (intro w hSw; obtain ⟨hs1, hs2, hs3⟩ := hSw; go_simp; try with_reducible rfl)
  simp only [Act.put, List.setIfInBounds_toArray, List.set_cons_zero, List.set_cons_succ]
  refine wpAnyH_take (i := 1) (v := ?zv1) (List.getElem?_toArray.trans rfl) (by kernel_rfl) (by kernel_rfl) (by kernel_rfl) (fun _ _ _ h => h) (Or.inl ⟨by rfl, ?zy1⟩) (by assumption) ?zr1
  case zy1 => (intro w hSw; obtain ⟨hs1, hs2, hs3⟩ := hSw; go_simp; try with_reducible rfl)
  simp only [Act.put, List.setIfInBounds_toArray, List.set_cons_zero, List.set_cons_succ]
  refine wpAnyH_take (i := 2) (v := ?zv2) (List.getElem?_toArray.trans rfl) (by kernel_rfl) (by kernel_rfl) (by kernel_rfl) (fun _ _ _ h => h) (Or.inl ⟨by rfl, ?zy2⟩) (by assumption) ?zr2
  case zy2 => (intro w hSw; obtain ⟨hs1, hs2, hs3⟩ := hSw; go_simp; try with_reducible rfl)
  simp only [Act.put, List.setIfInBounds_toArray, List.set_cons_zero, List.set_cons_succ]
  refine wpAnyH_take (i := 3) (v := ?zv3) (List.getElem?_toArray.trans rfl) (by kernel_rfl) (by kernel_rfl) (by kernel_rfl) (fun _ _ _ h => h) (Or.inl ⟨by rfl, ?zy3⟩) (by assumption) ?zr3
  case zy3 => (intro w hSw; obtain ⟨hs1, hs2, hs3⟩ := hSw; go_simp; try with_reducible rfl)
  simp only [Act.put, List.setIfInBounds_toArray, List.set_cons_zero, List.set_cons_succ]
  refine wpAnyH_take (i := 4) (v := ?zv4) (List.getElem?_toArray.trans rfl) (by kernel_rfl) (by kernel_rfl) (by kernel_rfl) (fun _ _ _ h => h) (Or.inl ⟨by rfl, ?zy4⟩) (by assumption) ?zr4
  case zy4 => (intro w hSw; obtain ⟨hs1, hs2, hs3⟩ := hSw; go_simp; try with_reducible rfl)
  simp only [Act.put, List.setIfInBounds_toArray, List.set_cons_zero, List.set_cons_succ]
  refine wpAnyH_take (i := 5) (v := ?zv5) (List.getElem?_toArray.trans rfl) (by kernel_rfl) (by kernel_rfl) (by kernel_rfl) (fun _ _ _ h => h) (Or.inl ⟨by rfl, ?zy5⟩) (by assumption) ?zr5
  case zy5 => (intro w hSw; obtain ⟨hs1, hs2, hs3⟩ := hSw; go_simp; try with_reducible rfl)
  simp only [Act.put, List.setIfInBounds_toArray, List.set_cons_zero, List.set_cons_succ]
  refine wpAnyH_take (i := 6) (v := ?zv6) (List.getElem?_toArray.trans rfl) (by kernel_rfl) (by kernel_rfl) (by kernel_rfl) (fun _ _ _ h => h) (Or.inl ⟨by rfl, ?zy6⟩) (by assumption) ?zr6
  case zy6 => (intro w hSw; obtain ⟨hs1, hs2, hs3⟩ := hSw; go_simp; try with_reducible rfl)
  simp only [Act.put, List.setIfInBounds_toArray, List.set_cons_zero, List.set_cons_succ]
  refine wpAnyH_take (i := 7) (v := ?zv7) (List.getElem?_toArray.trans rfl) (by kernel_rfl) (by kernel_rfl) (by kernel_rfl) (fun _ _ _ h => h) (Or.inl ⟨by rfl, ?zy7⟩) (by assumption) ?zr7
  case zy7 => (intro w hSw; obtain ⟨hs1, hs2, hs3⟩ := hSw; go_simp; try with_reducible rfl)
  simp only [Act.put, List.setIfInBounds_toArray, List.set_cons_zero, List.set_cons_succ]
  refine wpAnyH_take (i := 8) (v := ?zv8) (List.getElem?_toArray.trans rfl) (by kernel_rfl) (by kernel_rfl) (by kernel_rfl) (fun _ _ _ h => h) (Or.inl ⟨by rfl, ?zy8⟩) (by assumption) ?zr8
  case zy8 => (intro w hSw; obtain ⟨hs1, hs2, hs3⟩ := hSw; go_simp; try with_reducible rfl)
  simp only [Act.put, List.setIfInBounds_toArray, List.set_cons_zero, List.set_cons_succ]
  refine wpAnyH_take (i := 9) (v := ?zv9) (List.getElem?_toArray.trans rfl) (by kernel_rfl) (by kernel_rfl) (by kernel_rfl) (fun _ _ _ h => h) (Or.inl ⟨by rfl, ?zy9⟩) (by assumption) ?zr9
  case zy9 => (intro w hSw; obtain ⟨hs1, hs2, hs3⟩ := hSw; go_simp; try with_reducible rfl)
  simp only [Act.put, List.setIfInBounds_toArray, List.set_cons_zero, List.set_cons_succ]
  refine wpAnyH_ready (rs := [10]) (by kernel_rfl) (by simp) ?_
  refine AllReadyH.cons rfl (fun Ka hKa => ?_) AllReadyH.nil
  go_simp
  obtain ⟨wa, hwa⟩ : ∃ x, x = wd.alloc (.cells (vcell vo0 nil0).toArray 55) := ⟨_, rfl⟩
  rw [show wd.alloc (.cells #[.int .i64 0, .int .i64 0, .int .i64 0, .int .i64 0, .string ⟨#[]⟩, .int .i64 0, .int .i64 0, .int .i64 0, .int .i64 0, .int .i64 0, .int .u32 0, .int .i64 0, .int .i64 0, .slice none 0 0] 55) = wa from hwa.symm]
  have ka0 : Kp (fun _ => False) u wa := by rw [hwa]; exact kd0.alloc _
  have HLa : Hid (Lv wa wd.heap.size (vcell vo0 nil0)) := by rw [hwa]; exact Lv.new wd _ _
  clear hwa
  clear hHeld
  refine hKa.out _ _ (HS.out _ ka0) (fun hHeld => ?_)
  clear hKa Ka
  refine wpAnyH_ready (rs := [11]) (by kernel_rfl) (by simp) ?_
  refine AllReadyH.cons rfl (fun Ka hKa => ?_) AllReadyH.nil
  rw [if_pos (by rfl)]
  refine wp_store_mid 55 _ _ rfl wd.heap.size 0 xa rfl rfl (by have := HLa.out.t; rw [HXA.out]; exact this) (by rw [szVo, HXA.out]; rfl) HO2.out ?_
  simp only [List.getElem_toArray, List.getElem_cons_succ, List.getElem_cons_zero, Act.put]
  obtain ⟨w2, hw2⟩ : ∃ x, x = wa.setCells wd.heap.size 0 xa.toList := ⟨_, rfl⟩
  rw [← hw2]
  have HL2 : Hid (Lv w2 wd.heap.size (vcell y.1 y.2)) := by
    have h1 := HLa.out.set 0 (vcell y.1 y.2) (by simp)
    have hxl : xa.toList = vcell y.1 y.2 := by rw [HXA.out]
    rw [hw2, hxl]
    exact h1
  have ku2 : Kp (fun _ => False) u w2 := ka0.trans (by rw [hw2]; exact kp_setCells wd.heap.size _ _ _) (fun b hb e => by have := kd0.size; omega)
  clear hHeld
  refine hKa.out _ _ (HS.out _ ku2) (fun hHeld => ?_)
  clear hKa Ka hw2 HLa ka0
  refine wpAnyH_take (i := 12) (v := ?zv12) (List.getElem?_toArray.trans rfl) (by kernel_rfl) (by kernel_rfl) (by kernel_rfl) (fun _ _ _ h => h) (Or.inl ⟨by rfl, ?zy12⟩) (by assumption) ?zr12
  case zy12 => (intro w hSw; obtain ⟨hs1, hs2, hs3⟩ := hSw; go_simp; try with_reducible rfl)
  simp only [Act.put, List.setIfInBounds_toArray, List.set_cons_zero, List.set_cons_succ]
  refine wpAnyH_done (by kernel_rfl) ?_ _
  clear hHeld HS
  have HT2 : Hid (Tr w2 t mb mp qb qp cb cp bal frm nxt pr B O) := HT.out.keep (k0.trans ku2 (fun _ _ e => e))
  have HLg : Hid (Lv w2 g (vcell v nv)) := HLv.out.keep ku2 id
  have k02 := k0.trans ku2 (fun _ _ e => e)
  obtain ⟨g2, hg2⟩ : ∃ g2, g2 = wd.heap.size := ⟨_, rfl⟩
  rw [← hg2] at HL2 ⊢
  have HG2 : Hid (w.heap.size ≤ g2 ∧ g < g2) := ⟨by have := kd0.size; have := HG.out; omega, by have := kd0.size; have := HG.out; omega⟩
  clear hg2 kd0 ku2 HLv
  have s1 : w2.cell? ⟨g, 1, none⟩ = some (.int .i64 v.ballot) := HLg.out.cell (j := 1) rfl
  have s2 : w2.cell? ⟨g2, 1, none⟩ = some (.int .i64 y.1.ballot) := HL2.out.cell (j := 1) rfl
  have HCl : Hid (∀ z, Kp (fun _ => False) w z → Calls _ _ _ z _) := fun z kz => clone_cmd v.c _ pn capn v.nodes z (HFn.out.keep kz (fun _ _ => id)) HLn
  have HNV : Hid (∀ q cq, (vcell v nv).take 2 ++ (cmdA v.c (.slice q v.nodes.length cq)).toList ++ (vcell v nv).drop (2 + 12) = vcell v (.slice q v.nodes.length cq)) := fun q cq => rfl
  obtain ⟨n, hn⟩ : ∃ n, n = v.nodes.length := ⟨_, rfl⟩
  have HN : Hid (n = v.nodes.length) := hn
  have hnv : nv = .slice pn n capn := by rw [hn]; exact HNv.out
  rw [← hn] at HCl HNV
  clear hn
  cases hB : B v.slot with
  | none =>
    have hok : ok = false := by rw [HK.out, hB]; rfl
    subst hok
    have HB : Hid (ahead (plainB B v.slot) v = false) := by show ahead ((B v.slot).map _) v = false; rw [hB]; rfl
    clear hB s2
    subst hnv
    go_wp2_with (first
      | (refine wpList_load_lv rfl 35 _ rfl g 2 12 (vcell v (.slice pn n capn)) _ HLg.out rfl Try.underlying35 rfl szCmd (by simp) ?_; rw [show (((vcell v (.slice pn n capn)).drop 2).take 12).toArray = cmdA v.c (.slice pn n capn) from rfl])
      | (go_at_call 39; refine (HCl.out _ k02).mono ?_; rintro e w3 ⟨q, cq, rfl, k3, hfl⟩; have HFl : Hid (Fl w3 _ q _) := hfl; have HLg3 : Hid (Lv w3 g (vcell v (.slice pn n capn))) := HLg.out.keep k3 id; have HO3 : Hid ((cmdA v.c (.slice q n cq)).toList.toArray.all (·.oneCell') = true) := cmd_one _ rfl; clear hfl)
      | (refine wpList_store_sub rfl 35 _ _ rfl 12 g 2 (vcell v (.slice pn n capn)) (cmdA v.c (.slice q n cq)).toList _ rfl rfl HLg3.out szCmd rfl (by simp) HO3.out (HNV.out q cq) ?_; intro w4 hl4 k4))
    simp only [Act.put]
    have kg4 : Kp (fun _ => False) w w4 := (k02.trans k3 (fun _ _ e => e)).trans k4 (fun b hb e => by have := HG.out; omega)
    have HL4 : Hid (Lv w4 g (vcell v (.slice q n cq))) := hl4
    have HT4 : Hid (Tr w4 t mb mp qb qp cb cp bal frm nxt pr B O) := HT.out.keep kg4
    have HF4 : Hid (Ni w4 (Zt t mb mp) v.nodes (.slice q n cq)) := ⟨q, cq, by rw [HN.out], (HFl.out.keep k4 (fun b hb e => by have := HG.out; have := HG2.out; have := HL2.out.lt (by simp); omega)).mono (fun b hb => by have := HG.out; have := k02.size; exact ⟨by omega, by omega, by omega⟩), HLn.out⟩
    clear hl4 HFl HLg3 k3 k4
    refine wp_region_still_tail 7 (by kernel_rfl) (by kernel_rfl) ?_
    obtain ⟨wd4, hwd4⟩ : ∃ x : World, x = { w4 with drawn := w4.drawn + 1 } := ⟨_, rfl⟩
    have kd4 : Kp (fun _ => False) w4 wd4 := by rw [hwd4]; exact (Kp.refl _ _).drew
    rw [← hwd4]
    have HT5 : Hid (Tr wd4 t mb mp qb qp cb cp bal frm nxt pr B O) := HT4.out.keep kd4
    have HL5 : Hid (Lv wd4 g (vcell v (.slice q n cq))) := HL4.out.keep kd4 id
    have HF5 : Hid (Ni wd4 (Zt t mb mp) v.nodes (.slice q n cq)) := HF4.out.keep kd4 (fun _ _ => id)
    have c19 := HT5.out.c19
    have t0 : wd4.cell? ⟨g, 0, none⟩ = some (.int .i64 v.slot) := HL5.out.cell (j := 0) rfl
    have hLd := HL5.out.loadAt dsVo szVo (by simp)
    obtain ⟨ya, hya⟩ : ∃ ya : Array Value, ya = (vcell v (.slice q n cq)).toArray := ⟨_, rfl⟩
    rw [← hya] at hLd
    have HYA : Hid (ya = (vcell v (.slice q n cq)).toArray) := hya
    have kg5 := kg4.trans kd4 (fun _ _ e => e)
    clear hwd4 HL4 HT4 HF4 hya kg4 kd4
    simp only [List.take_succ_cons, List.take_zero, List.drop_succ_cons, List.drop_zero]
    iterate 6 still_step
    refine wpStill_ld rfl 55 _ rfl _ hLd ?_
    refine wpStill_nil ?_
    refine wpList_put_mm rfl _ _ _ rfl uVote mb qb cb (vmap B) HT5.out.b rfl HQ.out v.slot (z_wf HZ.out) rfl (.agg ya) rfl ?_
    intro w5 hm5 k5
    have HT6 : Hid (∃ cb', Tr w5 t mb mp (qb + 1) qp cb' cp bal frm nxt pr (updB B v.slot (v, .slice q n cq)) O) := by
      rw [HYA.out, vmap_upd B v.slot (v, .slice q n cq)] at hm5
      refine ⟨_, HT5.out.putb k5 hm5 (fun z x hx => ?_)⟩
      unfold updB at hx
      by_cases e : z = v.slot
      · rw [if_pos e] at hx
        injection hx with hx
        subst hx
        exact HF5.out
      · rw [if_neg e] at hx
        exact HT5.out.nb z x hx
    have t5 : w5.cell? ⟨g, 0, none⟩ = some (.int .i64 v.slot) := (HL5.out.keep k5 (fun e => by have := HG.out; omega)).cell (j := 0) rfl
    have HK5 : Hid (Kp (fun b => b = t ∨ b = mb) w w5) := (kg5.mono (fun _ _ e => e.elim)).trans k5 (fun _ _ e => Or.inr e)
    clear hm5 k5 hLd t0 c19 HL5 HF5 kg5
    obtain ⟨cb', hT6⟩ := HT6.out
    have HP : Hid (Calls _ _ _ w5 _) := tpass_ok hT6 v.slot HZ.out
    clear hT6
    go_wp2_with (go_at_call 40; refine HP.out.mono ?_; rintro e w6 ⟨rfl, k6, hT7⟩)
    go_end0
    exact ⟨rfl, HK5.out.trans k6 (fun _ _ e => Or.inl e), _, _, _, _, hT7, by omega, by unfold cntV; rw [if_neg (by rw [HB.out]; decide)]; exact plain_upd B v.slot (v, .slice q n cq), by unfold cntN; rw [if_neg (by rw [HB.out]; decide)]⟩
  | some x =>
    have hok : ok = true := by rw [HK.out, hB]; rfl
    have hyx : y = x := by rw [HY.out, hB]; rfl
    subst hok hyx
    by_cases hle : v.ballot ≤ y.1.ballot
    · have HB : Hid (ahead (plainB B v.slot) v = true) := by show ahead ((B v.slot).map _) v = true; rw [hB]; exact decide_eq_true hle
      clear hB
      go_wp2
      refine bodyPost_ret (results_none rfl _ _ _) rfl ?_
      exact ⟨rfl, k02.mono (fun _ _ e => e.elim), nxt, B, qb, cb, HT2.out, by omega, by unfold cntV; rw [if_pos HB.out], by unfold cntN; rw [if_pos HB.out]⟩
    · have HB : Hid (ahead (plainB B v.slot) v = false) := by show ahead ((B v.slot).map _) v = false; rw [hB]; exact decide_eq_false hle
      clear hB
      subst hnv
      go_wp2_with (first
        | (refine wpList_load_lv rfl 35 _ rfl g 2 12 (vcell v (.slice pn n capn)) _ HLg.out rfl Try.underlying35 rfl szCmd (by simp) ?_; rw [show (((vcell v (.slice pn n capn)).drop 2).take 12).toArray = cmdA v.c (.slice pn n capn) from rfl])
        | (go_at_call 39; refine (HCl.out _ k02).mono ?_; rintro e w3 ⟨q, cq, rfl, k3, hfl⟩; have HFl : Hid (Fl w3 _ q _) := hfl; have HLg3 : Hid (Lv w3 g (vcell v (.slice pn n capn))) := HLg.out.keep k3 id; have HO3 : Hid ((cmdA v.c (.slice q n cq)).toList.toArray.all (·.oneCell') = true) := cmd_one _ rfl; clear hfl)
        | (refine wpList_store_sub rfl 35 _ _ rfl 12 g 2 (vcell v (.slice pn n capn)) (cmdA v.c (.slice q n cq)).toList _ rfl rfl HLg3.out szCmd rfl (by simp) HO3.out (HNV.out q cq) ?_; intro w4 hl4 k4))
      simp only [Act.put]
      have kg4 : Kp (fun _ => False) w w4 := (k02.trans k3 (fun _ _ e => e)).trans k4 (fun b hb e => by have := HG.out; omega)
      have HL4 : Hid (Lv w4 g (vcell v (.slice q n cq))) := hl4
      have HT4 : Hid (Tr w4 t mb mp qb qp cb cp bal frm nxt pr B O) := HT.out.keep kg4
      have HF4 : Hid (Ni w4 (Zt t mb mp) v.nodes (.slice q n cq)) := ⟨q, cq, by rw [HN.out], (HFl.out.keep k4 (fun b hb e => by have := HG.out; have := HG2.out; have := HL2.out.lt (by simp); omega)).mono (fun b hb => by have := HG.out; have := k02.size; exact ⟨by omega, by omega, by omega⟩), HLn.out⟩
      clear hl4 HFl HLg3 k3 k4
      refine wp_region_still_tail 7 (by kernel_rfl) (by kernel_rfl) ?_
      obtain ⟨wd4, hwd4⟩ : ∃ x : World, x = { w4 with drawn := w4.drawn + 1 } := ⟨_, rfl⟩
      have kd4 : Kp (fun _ => False) w4 wd4 := by rw [hwd4]; exact (Kp.refl _ _).drew
      rw [← hwd4]
      have HT5 : Hid (Tr wd4 t mb mp qb qp cb cp bal frm nxt pr B O) := HT4.out.keep kd4
      have HL5 : Hid (Lv wd4 g (vcell v (.slice q n cq))) := HL4.out.keep kd4 id
      have HF5 : Hid (Ni wd4 (Zt t mb mp) v.nodes (.slice q n cq)) := HF4.out.keep kd4 (fun _ _ => id)
      have c19 := HT5.out.c19
      have t0 : wd4.cell? ⟨g, 0, none⟩ = some (.int .i64 v.slot) := HL5.out.cell (j := 0) rfl
      have hLd := HL5.out.loadAt dsVo szVo (by simp)
      obtain ⟨ya, hya⟩ : ∃ ya : Array Value, ya = (vcell v (.slice q n cq)).toArray := ⟨_, rfl⟩
      rw [← hya] at hLd
      have HYA : Hid (ya = (vcell v (.slice q n cq)).toArray) := hya
      have kg5 := kg4.trans kd4 (fun _ _ e => e)
      clear hwd4 HL4 HT4 HF4 hya kg4 kd4
      simp only [List.take_succ_cons, List.take_zero, List.drop_succ_cons, List.drop_zero]
      iterate 6 still_step
      refine wpStill_ld rfl 55 _ rfl _ hLd ?_
      refine wpStill_nil ?_
      refine wpList_put_mm rfl _ _ _ rfl uVote mb qb cb (vmap B) HT5.out.b rfl HQ.out v.slot (z_wf HZ.out) rfl (.agg ya) rfl ?_
      intro w5 hm5 k5
      have HT6 : Hid (∃ cb', Tr w5 t mb mp (qb + 1) qp cb' cp bal frm nxt pr (updB B v.slot (v, .slice q n cq)) O) := by
        rw [HYA.out, vmap_upd B v.slot (v, .slice q n cq)] at hm5
        refine ⟨_, HT5.out.putb k5 hm5 (fun z x hx => ?_)⟩
        unfold updB at hx
        by_cases e : z = v.slot
        · rw [if_pos e] at hx
          injection hx with hx
          subst hx
          exact HF5.out
        · rw [if_neg e] at hx
          exact HT5.out.nb z x hx
      have t5 : w5.cell? ⟨g, 0, none⟩ = some (.int .i64 v.slot) := (HL5.out.keep k5 (fun e => by have := HG.out; omega)).cell (j := 0) rfl
      have HK5 : Hid (Kp (fun b => b = t ∨ b = mb) w w5) := (kg5.mono (fun _ _ e => e.elim)).trans k5 (fun _ _ e => Or.inr e)
      clear hm5 k5 hLd t0 c19 HL5 HF5 kg5
      obtain ⟨cb', hT6⟩ := HT6.out
      have HP : Hid (Calls _ _ _ w5 _) := tpass_ok hT6 v.slot HZ.out
      clear hT6
      go_wp2_with (go_at_call 40; refine HP.out.mono ?_; rintro e w6 ⟨rfl, k6, hT7⟩)
      go_end0
      exact ⟨rfl, HK5.out.trans k6 (fun _ _ e => Or.inl e), _, _, _, _, hT7, by omega, by unfold cntV; rw [if_neg (by rw [HB.out]; decide)]; exact plain_upd B v.slot (v, .slice q n cq), by unfold cntN; rw [if_neg (by rw [HB.out]; decide)]⟩
end Go.Proofs.Ytjpdbhkggcojaaa
