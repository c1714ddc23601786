/- A post in memory: its packets are messages without lists (what PostTaken sends). -/
import Derived.Test.YtiplhbpjppkniaaQm
import Derived.Test.YtiplhbpjppkniaaQs
namespace Go.Proofs.Ytiplhbpjppkniaa
set_option linter.unusedVariables false
open Go.RowKit Go.Deep Go.Maps

/-- a message without lists -/
abbrev nilArr (i : Int) : Array Value := #[.int .i64 0, .int .i64 0, .int .i64 0, .int .i64 0, .int .i64 0, .int .i64 0, .int .i64 0, .int .i64 0, .int .i64 i, .bool false, .int .i64 0, .int .i64 0, .string ⟨#[]⟩, .int .i64 0, .int .i64 0, .int .i64 0, .int .i64 0, .int .i64 0, .int .u32 0, .int .i64 0, .int .i64 0, .slice none 0 0, .slice none 0 0, .slice none 0 0]
abbrev nilMsg (i : Int) : Value := .agg (nilArr i)
theorem zeroMsg (w : World) : (zeroValue 38).run Try.prog w = .ok (nilMsg 0) w := by kernel_rfl
theorem id_key (id : Int) (h : (Lit.int .i64 id).wf = true) : keyOf Try.prog 3 (.int .i64 id) = some (.int .i64 id) := keyOf_int_mk Try.underlying3 h

theorem wpList_lookup_msg {ops : Array Oper} {rest : List Oper} {o : Oper} {a : Act} {w : World} {Q : Exit → Act → World → Prop} (hg : o.guard = none) (mm x : Operand) (hop : o.op = Op.lookup 58 mm x true)
    (m q n c : Nat) (T : Nat → Option Value) (h : Qm w m q n c T) (hm : a.eval mm = .map (some m)) (id : Int) (hw : (Lit.int .i64 id).wf = true) (hx : a.eval x = .int .i64 id)
    (hK : wpList Try.prog ops Q rest (a.put o.dst (.tuple #[(Tz T id).getD (nilMsg 0), .bool (Tz T id).isSome])) w) : wpList Try.prog ops Q (o :: rest) a w := by
  obtain ⟨D, h1, h2⟩ := h
  obtain ⟨e1, e2⟩ := h2.look id (nilMsg 0)
  refine wpList_lookup_own_ok _ hg mm x 58 hop 3 38 intLaw Try.underlying58 idR (zeroMsg w) (.held (nilMsg 0)) [] rfl m q D hm h1 _ _ hx (id_key id hw) ?_
  intro v ps hv
  rw [e2] at hv
  injection hv with hv
  injection hv with hv _
  injection hv with hv
  rw [hv, e1]
  exact hK
set_option maxRecDepth 100000 in
theorem look_msg {w : World} {m q n c : Nat} {T : Nat → Option Value} (h : Qm w m q n c T) (id : Int) (hw : (Lit.int .i64 id).wf = true) : (Instr.lookup 58 (.map (some m)) (.int .i64 id) false).run Try.prog w = .ok ((Tz T id).getD (nilMsg 0)) w := by
  obtain ⟨D, h1, h2⟩ := h
  obtain ⟨e1, e2⟩ := h2.look id (nilMsg 0)
  obtain ⟨v, ps, hrun, hv⟩ := h1.lookup intLaw Try.underlying58 (zeroMsg w) (zd := .held (nilMsg 0)) (zp := []) rfl (id_key id hw)
  rw [e2] at hv
  injection hv with hv
  injection hv with hv _
  injection hv with hv
  rw [hrun, hv]
theorem wpList_store_msg {ops : Array Oper} {rest : List Oper} {o : Oper} {a : Act} {w : World} {Q : Exit → Act → World → Prop} (hg : o.guard = none) (mm x v : Operand) (hop : o.op = Op.mapUpdate 58 mm x v)
    (m q n c : Nat) (T : Nat → Option Value) (h : Qm w m q n c T) (hm : a.eval mm = .map (some m)) (hq : q ≤ 100000) (hn : n ≤ 100000) (hx : a.eval x = .int .i64 (n : Int)) (u : Value) (hv : a.eval v = u)
    (hK : ∀ w', Qm w' m (q + 1) (n + 1) (c + 1) (fun j => if j = n then some u else T j) → Kp (fun x => x = m) w w' → wpList Try.prog ops Q rest (a.put o.dst undef) w') : wpList Try.prog ops Q (o :: rest) a w := by
  obtain ⟨D, h1, h2⟩ := h
  refine wpList_mapUpdate_own _ hg mm x v 58 hop 3 38 intLaw Try.underlying58 _ m q D hm h1 (by unfold maxLen; omega) _ _ _ hx hv (id_key _ (WalkArith.wf_i64 (by omega))) (.held u) [] rfl ?_
  intro w' h3 hg'
  exact hK w' ⟨_, h3, h2.put (h1.tidy intLaw)⟩ ((grownBy_kp hg').mono (fun b _ e => by cases e; rfl))
theorem wpList_delete_msg {ops : Array Oper} {rest : List Oper} {o : Oper} {a : Act} {w : World} {Q : Exit → Act → World → Prop} (hg : o.guard = none) (mm x : Operand) (hop : o.op = Op.call { callee := Callee.builtin Builtin.delete, args := #[mm, x], argTypes := #[58, 3] })
    (m q n c : Nat) (T : Nat → Option Value) (h : Qm w m q n c T) (hm : a.eval mm = .map (some m)) (i : Nat) (hi : i < n) (hn : n ≤ 100000) (u : Value) (hu : T i = some u) (hx : a.eval x = .int .i64 (i : Int))
    (hK : ∀ w', Qm w' m q n (c - 1) (fun j => if j = i then none else T j) → Kp (fun x => x = m) w w' → wpList Try.prog ops Q rest (a.put o.dst (.tuple #[])) w') : wpList Try.prog ops Q (o :: rest) a w := by
  obtain ⟨D, h1, h2⟩ := h
  refine wpList_delete_own _ hg mm x 58 3 hop 38 intLaw Try.underlying58 _ m q D hm h1 _ _ hx (id_key _ (WalkArith.wf_i64 (by omega))) ?_
  intro w' h3 hg'
  exact hK w' ⟨_, h3, h2.del (h1.tidy intLaw) hu hi⟩ ((grownBy_kp hg'.grown).mono (fun b _ e => by cases e; rfl))
theorem len_msg {w : World} {m q n c : Nat} {T : Nat → Option Value} (h : Qm w m q n c T) (ty : TypeId) : (Builtin.len_ #[58] ty #[.map (some m)]).run Try.prog w = .ok (.int .i64 (c : Int)) w := by
  obtain ⟨D, h1, h2⟩ := h
  rw [h1.len Try.underlying58 ty, h2.2.2.2]
theorem neq_nil_map (m : Nat) (w : World) : (binOp .neq 58 (.map (some m)) (.map none)).run Try.prog w = .ok (.bool true) w := by
  simp only [binOp]
  simp [Op.equal, Op.maxDepth, run_equalIn_map_nil w 9999 58 3 38 (some m) Try.underlying58]

/-- a post at block p: the last number is n, its packets (c of them) at m -/
structure Ps (w : World) (p m q n c : Nat) (T : Nat → Option Value) : Prop where
  c0 : w.cell? ⟨p, 0, none⟩ = some (.int .i64 (n : Int))
  c1 : w.cell? ⟨p, 1, none⟩ = some (.map (some m))
  fz : ∀ j, w.frozen? ⟨p, j, none⟩ = false
  mp : Qm w m q (n + 1) c T
  pm : p ≠ m
theorem Ps.lt {w : World} {p m q n c : Nat} {T : Nat → Option Value} (h : Ps w p m q n c T) : p < w.heap.size := World.block_lt_of_cell? w _ h.c0
theorem Ps.keep {S : Nat → Prop} {w w' : World} {p m q n c : Nat} {T : Nat → Option Value} (h : Ps w p m q n c T) (k : Kp S w w') (hp : ¬ S p) (hm : ¬ S m) : Ps w' p m q n c T :=
  ⟨k.cellv h.c0 hp, k.cellv h.c1 hp, fun j => by rw [World.frozen?_of_block (w := w) (k.block p h.lt hp)]; exact h.fz j, h.mp.keep k hm, h.pm⟩

set_option maxRecDepth 100000 in
set_option maxHeartbeats 400000 in
theorem pmade_ok {w : World} {p m q n c : Nat} {T : Nat → Option Value} (h : Ps w p m q n c T) :
    Calls Try.prog 22 #[.pointer (some ⟨p, 0, none⟩)] w fun e w' => e = .returned (.bool true) ∧ w' = w := by
  have c1 := h.c1
  have hne := neq_nil_map m
  clear h
  go_enter Try.func22, Try.ntmps22
  go_wp2
  go_ret
  exact ⟨rfl, rfl⟩

set_option maxRecDepth 100000 in
set_option maxHeartbeats 400000 in
theorem pnew_ok (w : World) : Calls Try.prog 7 #[] w fun e w' => ∃ p m, e = .returned (.pointer (some ⟨p, 0, none⟩)) ∧ Kp (fun _ => False) w w' ∧ w.heap.size ≤ p ∧ w.heap.size ≤ m ∧ Ps w' p m 0 0 0 (fun _ => none) := by
  have hmm : ∀ (t : TypeId) (w : World), (Instr.makeMap t none).run Try.prog w = .ok (.map (some w.heap.size)) (w.alloc (.map #[] 0)) := fun _ _ => rfl
  go_enter Try.func7, Try.ntmps7
  go_wp2
  go_ret
  obtain ⟨w1, hw1⟩ : ∃ x, x = w.alloc (.map #[] 0) := ⟨_, rfl⟩
  have z1 : w1.heap.size = w.heap.size + 1 := by rw [hw1]; simp
  have k1 : Kp (fun _ => False) w w1 := by rw [hw1]; exact (Kp.refl _ _).alloc _
  have m1 : Qm w1 w.heap.size 0 1 0 (fun _ => none) := by rw [hw1]; exact Qm.made w 1
  rw [← hw1]
  obtain ⟨cs, hcs⟩ : ∃ cs : Array Value, cs = #[.int .i64 0, .map (some w.heap.size)] := ⟨_, rfl⟩
  rw [← hcs]
  obtain ⟨w2, hw2⟩ : ∃ x, x = w1.alloc (.cells cs 60) := ⟨_, rfl⟩
  rw [← hw2]
  have k2 : Kp (fun _ => False) w1 w2 := by rw [hw2]; exact (Kp.refl _ _).alloc _
  have hh := heap_alloc_new w1 (.cells cs 60)
  rw [← hw2, z1] at hh
  have cc : ∀ j v, cs[j]? = some v → w2.cell? ⟨w.heap.size + 1, j, none⟩ = some v := fun j v hv => by
    rw [cell_of_row _ _ j cs _ (0, 0) hh]
    exact hv
  exact ⟨w.heap.size + 1, w.heap.size, rfl, k1.trans k2 (fun _ _ e => e), by omega, Nat.le_refl _, cc 0 _ (by rw [hcs]; rfl), cc 1 _ (by rw [hcs]; rfl), fun j => frozen_of_row _ _ _ cs _ hh, m1.keep k2 id, by omega⟩

/-- a message's cells -/
def Sh (v : Value) : Prop := ∃ cs : List Value, v = .agg cs.toArray ∧ cs.length = 24 ∧ ∀ x ∈ cs, x.oneCell' = true
theorem sh_nil (i : Int) : Sh (nilMsg i) := ⟨(nilArr i).toList, by simp, rfl, fun x hx => by simp at hx; rcases hx with rfl | rfl | rfl | rfl | rfl | rfl | rfl | rfl | rfl | rfl <;> rfl⟩
theorem nil_one (i : Int) : (nilArr i).toList.toArray.all (·.oneCell') = true := by obtain ⟨cs, e, _, h⟩ := sh_nil i; simp only [Value.agg.injEq] at e; rw [Array.toArray_toList, e]; exact all_oneCell_toArray h
theorem sizeMsg : (Try.prog.info? 38).map (·.size) = some 24 := by kernel_rfl
theorem descMsg : ∃ d, Try.prog.underlying 38 = some d ∧ d.isRow = true := ⟨_, Try.underlying38, rfl⟩

set_option maxRecDepth 100000 in
set_option maxHeartbeats 1600000 in
theorem packet_some {w : World} {p m q n c : Nat} {T : Nat → Option Value} (h : Ps w p m q n c T) (ii : Int) (hw : (Lit.int .i64 ii).wf = true) (v : Value) (hu : Tz T ii = some v) (hs : Sh v) :
    Calls Try.prog 24 #[.pointer (some ⟨p, 0, none⟩), .int .i64 ii] w fun e w' => e = .returned (.tuple #[v, .int .i64 0]) ∧ Kp (fun _ => False) w w' := by
  have HP : Hid (∀ u, Kp (fun _ => False) w u → Ps u p m q n c T) := fun u k => h.keep k id id
  have HPm : Hid (∀ u, Kp (fun _ => False) w u → Calls _ _ _ u _) := fun u k => pmade_ok (h.keep k id id)
  have HU : Hid (Tz T ii = some v) := hu
  have HW : Hid ((Lit.int .i64 ii).wf = true) := hw
  obtain ⟨cs, rfl, hc24, hc1⟩ := hs
  have HL24 : Hid (cs.length = 24) := hc24
  have HO1 : Hid (cs.toArray.all (·.oneCell') = true) := all_oneCell_toArray hc1
  obtain ⟨d, hd1, hd2⟩ := descMsg
  clear h hu hw hc24 hc1
  go_enter Try.func24, Try.ntmps24
  go_wp2_with fail
  obtain ⟨u, hu⟩ : ∃ x, x = w.alloc (.cells (nilArr 0) 38) := ⟨_, rfl⟩
  have HL0 : Hid (Lv u w.heap.size (nilArr 0).toList) := by rw [hu]; exact Lv.new w _ _
  have k0 : Kp (fun _ => False) w u := by rw [hu]; exact (Kp.refl _ _).alloc _
  have e0 : w.alloc (.cells (nilArr 0) 38) = u := hu.symm
  simp only [nilArr] at e0
  rw [e0]
  clear e0 hu
  obtain ⟨g, hg⟩ : ∃ g, g = w.heap.size := ⟨_, rfl⟩
  rw [← hg] at HL0 ⊢
  have HG : Hid (w.heap.size ≤ g) := by show _ ≤ _; omega
  clear hg
  have c1 := (HP.out u k0).c1
  have HQ : Hid (Qm u m q (n + 1) c T) := (HP.out u k0).mp
  refine (HPm.out _ k0).mono ?_
  rintro e w' ⟨rfl, hw⟩
  obtain rfl := hw.symm
  clear hw HPm HP
  go_wp2_with (first
    | (at_lookup; go_must (refine wpList_lookup_msg rfl _ _ rfl m q (n + 1) c T HQ.out rfl ii HW.out rfl ?_); rw [HU.out, Option.getD_some])
    | (refine wpList_store_all rfl 38 _ _ rfl 24 u.heap.size (nilArr 0).toList cs rfl rfl (by exact Lv.new u _ _) sizeMsg rfl HL24.out HO1.out ?_; intro u2 hl2 k2; have HLg : Hid (Lv u2 g (nilArr 0).toList) := (HL0.out.keep ((Kp.refl (fun _ => False) _).alloc _) id).keep k2 (fun e => by have := HL0.out.lt (by decide); omega))
    | (refine wpList_load_all rfl 38 _ rfl 24 u.heap.size cs rfl hl2 descMsg sizeMsg HL24.out ?_)
    | (refine wpList_store_all rfl 38 _ _ rfl 24 g (nilArr 0).toList cs rfl rfl HLg.out sizeMsg rfl HL24.out HO1.out ?_; intro u3 hl3 k3))
  have ku2 : Kp (fun _ => False) u u2 := ((Kp.refl (fun _ => False) u).alloc _).trans k2 (fun b hb e => by omega)
  have ku3 : Kp (fun _ => False) w u3 := (k0.trans ku2 (fun _ _ e => e)).trans k3 (fun b hb e => by have := HG.out; omega)
  have hld := hl3.load descMsg sizeMsg HL24.out
  refine bodyPost_ret (res_cell_tmp Try.results24 _ _ g _ rfl hld) rfl ?_
  exact ⟨rfl, ku3⟩

set_option maxRecDepth 100000 in
set_option maxHeartbeats 1600000 in
theorem packet_none {w : World} {p m q n c : Nat} {T : Nat → Option Value} (h : Ps w p m q n c T) (ii : Int) (hw : (Lit.int .i64 ii).wf = true) (hu : Tz T ii = none) :
    Calls Try.prog 24 #[.pointer (some ⟨p, 0, none⟩), .int .i64 ii] w fun e w' => e = .returned (.tuple #[nilMsg 0, .int .i64 90]) ∧ Kp (fun _ => False) w w' := by
  have HP : Hid (∀ u, Kp (fun _ => False) w u → Ps u p m q n c T) := fun u k => h.keep k id id
  have HPm : Hid (∀ u, Kp (fun _ => False) w u → Calls _ _ _ u _) := fun u k => pmade_ok (h.keep k id id)
  have HU : Hid (Tz T ii = none) := hu
  have HW : Hid ((Lit.int .i64 ii).wf = true) := hw
  have HO1 : Hid ((nilArr 0).toList.toArray.all (·.oneCell') = true) := nil_one 0
  clear h hu hw
  go_enter Try.func24, Try.ntmps24
  go_wp2_with fail
  obtain ⟨u, hu⟩ : ∃ x, x = w.alloc (.cells (nilArr 0) 38) := ⟨_, rfl⟩
  have HL0 : Hid (Lv u w.heap.size (nilArr 0).toList) := by rw [hu]; exact Lv.new w _ _
  have k0 : Kp (fun _ => False) w u := by rw [hu]; exact (Kp.refl _ _).alloc _
  have e0 : w.alloc (.cells (nilArr 0) 38) = u := hu.symm
  simp only [nilArr] at e0
  rw [e0]
  clear e0 hu
  obtain ⟨g, hg⟩ : ∃ g, g = w.heap.size := ⟨_, rfl⟩
  rw [← hg] at HL0 ⊢
  have HG : Hid (w.heap.size ≤ g) := by show _ ≤ _; omega
  clear hg
  have c1 := (HP.out u k0).c1
  have HQ : Hid (Qm u m q (n + 1) c T) := (HP.out u k0).mp
  refine (HPm.out _ k0).mono ?_
  rintro e w' ⟨rfl, hw⟩
  obtain rfl := hw.symm
  clear hw HPm HP
  go_wp2_with (first
    | (at_lookup; go_must (refine wpList_lookup_msg rfl _ _ rfl m q (n + 1) c T HQ.out rfl ii HW.out rfl ?_); rw [HU.out, Option.getD_none])
    | (refine wpList_store_all rfl 38 _ _ rfl 24 u.heap.size (nilArr 0).toList (nilArr 0).toList rfl rfl (by exact Lv.new u _ _) sizeMsg rfl rfl HO1.out ?_; intro u2 hl2 k2; have HLg : Hid (Lv u2 g (nilArr 0).toList) := (HL0.out.keep ((Kp.refl (fun _ => False) _).alloc _) id).keep k2 (fun e => by have := HL0.out.lt (by decide); omega))
    | (refine wpList_store_all rfl 38 _ _ rfl 24 g (nilArr 0).toList (nilArr 0).toList rfl rfl HLg.out sizeMsg rfl rfl HO1.out ?_; intro u3 hl3 k3))
  have ku2 : Kp (fun _ => False) u u2 := ((Kp.refl (fun _ => False) u).alloc _).trans k2 (fun b hb e => by omega)
  have ku3 : Kp (fun _ => False) w u3 := (k0.trans ku2 (fun _ _ e => e)).trans k3 (fun b hb e => by have := HG.out; omega)
  have hld := hl3.load descMsg sizeMsg rfl
  refine bodyPost_ret (res_cell_tmp Try.results24 _ _ g _ rfl hld) rfl ?_
  exact ⟨rfl, ku3⟩

set_option maxRecDepth 100000 in
set_option maxHeartbeats 1600000 in
theorem take_some {w : World} {p m q n c : Nat} {T : Nat → Option Value} (h : Ps w p m q n c T) (hn : n ≤ 10000) (i : Nat) (v : Value) (hu : T i = some v) (hs : Sh v) :
    Calls Try.prog 12 #[.pointer (some ⟨p, 0, none⟩), .int .i64 (i : Int)] w fun e w' => e = .returned (.tuple #[v, .int .i64 0]) ∧ Kp (fun b => b = m) w w' ∧ Ps w' p m q n (c - 1) (fun j => if j = i then none else T j) := by
  have hin : i < n + 1 := by
    obtain ⟨D, _, _, _, h3, _⟩ := h.mp
    by_cases hi : i < n + 1
    · exact hi
    · rw [h3 i (by omega)] at hu; cases hu
  have HP : Hid (∀ u, Kp (fun _ => False) w u → Ps u p m q n c T) := fun u k => h.keep k id id
  have HPk : Hid (∀ u, Kp (fun _ => False) w u → Calls _ _ _ u _) := fun u k => packet_some (h.keep k id id) (i : Int) (WalkArith.wf_i64 (by omega)) v (by rw [Tz_nat]; exact hu) hs
  have HU : Hid (T i = some v) := hu
  have HI : Hid (i < n + 1) := hin
  have HN : Hid (n + 1 ≤ 100000) := by show _ ≤ _; omega
  obtain ⟨cs, rfl, hc24, hc1⟩ := hs
  have HL24 : Hid (cs.length = 24) := hc24
  have HO1 : Hid (cs.toArray.all (·.oneCell') = true) := all_oneCell_toArray hc1
  have HPM : Hid (p < w.heap.size ∧ m < w.heap.size) := ⟨h.lt, h.mp.lt⟩
  clear h hu hc24 hc1 hin
  go_enter Try.func12, Try.ntmps12
  go_wp2_with fail
  obtain ⟨u, hu⟩ : ∃ x, x = w.alloc (.cells (nilArr 0) 38) := ⟨_, rfl⟩
  have HL0 : Hid (Lv u w.heap.size (nilArr 0).toList) := by rw [hu]; exact Lv.new w _ _
  have k0 : Kp (fun _ => False) w u := by rw [hu]; exact (Kp.refl _ _).alloc _
  have e0 : w.alloc (.cells (nilArr 0) 38) = u := hu.symm
  simp only [nilArr] at e0
  rw [e0]
  clear e0 hu
  obtain ⟨g, hg⟩ : ∃ g, g = w.heap.size := ⟨_, rfl⟩
  rw [← hg] at HL0 ⊢
  have HG : Hid (w.heap.size ≤ g) := by show _ ≤ _; omega
  clear hg
  refine (HPk.out _ k0).mono ?_
  rintro e w1 ⟨rfl, k1⟩
  have k01 := k0.trans k1 (fun _ _ e => e)
  have HL1 : Hid (Lv w1 g (nilArr 0).toList) := HL0.out.keep k1 id
  clear HPk HL0
  go_wp2_with (first
    | (refine wpList_store_all rfl 38 _ _ rfl 24 w1.heap.size (nilArr 0).toList cs rfl rfl (by exact Lv.new w1 _ _) sizeMsg rfl HL24.out HO1.out ?_; intro u2 hl2 k2; have ku2 : Kp (fun _ => False) w1 u2 := ((Kp.refl (fun _ => False) w1).alloc _).trans k2 (fun b hb e => by omega); have k02 := k01.trans ku2 (fun _ _ e => e); have HL2 : Hid (Lv u2 g (nilArr 0).toList) := HL1.out.keep ku2 id; have HM2 : Hid (Lv u2 w1.heap.size cs) := hl2; have c12 := (HP.out u2 k02).c1; have HS2 : Hid (g < w1.heap.size) := HL1.out.lt (by decide); clear hl2 k2)
    | (at_delete; go_must (refine wpList_delete_msg rfl _ _ rfl m q (n + 1) c T (HP.out u2 k02).mp rfl i HI.out HN.out _ HU.out rfl ?_); intro u3 hq3 k3)
    | (refine wpList_load_all rfl 38 _ rfl 24 w1.heap.size cs rfl (by exact HM2.out.keep k3 (fun e => by have := HPM.out; have := k01.size; omega)) descMsg sizeMsg HL24.out ?_)
    | (refine wpList_store_all rfl 38 _ _ rfl 24 g (nilArr 0).toList cs rfl rfl (by exact HL2.out.keep k3 (fun e => by have := HPM.out; have := HG.out; omega)) sizeMsg rfl HL24.out HO1.out ?_; intro u4 hl4 k4))
  have hld := hl4.load descMsg sizeMsg HL24.out
  refine bodyPost_ret (res_cell_tmp Try.results12 _ _ g _ rfl hld) rfl ?_
  have k03 : Kp (fun b => b = m) w u3 := (k02.mono (fun _ _ e => e.elim)).trans k3 (fun _ _ e => e)
  have k04 : Kp (fun b => b = m) w u4 := k03.trans k4 (fun b hb e => by have := HG.out; omega)
  have hp2 := HP.out u2 k02
  have hpm := hp2.pm
  have kk : Kp (fun b => b = m ∨ b = g) u2 u4 := (k3.mono (fun _ _ e => Or.inl e)).trans k4 (fun _ _ e => Or.inr e)
  have hpg : ¬ p = g := by have := HPM.out; have := HG.out; omega
  have hmg : ¬ m = g := by have := HPM.out; have := HG.out; omega
  have hno : ¬ (p = m ∨ p = g) := by omega
  refine ⟨rfl, k04, kk.cellv hp2.c0 hno, kk.cellv hp2.c1 hno, fun j => ?_, hq3.keep k4 hmg, hpm⟩
  rw [World.frozen?_of_block (w := u2) (kk.block p hp2.lt hno)]
  exact hp2.fz j
end Go.Proofs.Ytiplhbpjppkniaa
