/- A command is proposed. -/
import Derived.Test.YtjpdbhkggcojaaaEg
namespace Go.Proofs.Ytjpdbhkggcojaaa
set_option linter.unusedVariables false
open Go.RowKit Go.Deep Go.Maps

def updO (O : Int → Option (Pq × Value)) (z : Int) (x : Pq × Value) : Int → Option (Pq × Value) := fun y => if y = z then some x else O y
theorem pmap_upd (O : Int → Option (Pq × Value)) (z : Int) (x : Pq × Value) : upd (pmap O) z (.agg (pcell x.1 x.2).toArray) = pmap (updO O z x) := by
  funext y
  unfold upd pmap updO
  by_cases e : y = z
  · rw [if_pos e, if_pos e]; rfl
  · rw [if_neg e, if_neg e]
theorem pc_one (x : Pq) {nv : Value} (h : nv.oneCell' = true) : (pcell x nv).toArray.all (·.oneCell') = true := all_oneCell_toArray (fun v hv => by
  rcases List.mem_append.1 hv with hv | hv
  · have := Array.all_eq_true_iff_forall_mem.1 (cmd_one x.c h)
    exact this v (by simpa using hv)
  · obtain ⟨b, _, rfl⟩ := List.mem_map.1 hv
    rfl)
theorem pc_len (x : Pq) (nv : Value) (h : x.acc.length = 16) : (pcell x nv).length = 28 := by simp [pcell, h]
theorem pc_id (x : Pq) (nv : Value) : (pcell x nv)[0]? = some (.int .i64 x.c.id) := rfl
theorem pq0_len : pq0.acc.length = 16 := rfl
theorem wp_put {MT ET : TypeId} {op : Oper} {a : Act} {w : World} {K : Act → World → Prop} {Q : Exit → Act → World → Prop} (mm x v : Operand) (hop : op.op = Op.mapUpdate MT mm x v)
    (hu : Try.prog.underlying MT = some (.map 3 ET))
    (m q c : Nat) (T : Int → Option Value) (h : Mm w m q c T) (hm : a.eval mm = .map (some m)) (hq : q < 4611686018427387904) (z : Int) (hw : (Lit.int .i64 z).wf = true) (hx : a.eval x = .int .i64 z) (u : Value) (hv : a.eval v = u)
    (hK : ∀ w', Mm w' m (q + 1) (c + (if (T z).isSome then 0 else 1)) (upd T z u) → Kp (fun x => x = m) w w' → K (a.put op.dst undef) w') : op.wp Try.prog a w K Q := by
  obtain ⟨D, h1, h2⟩ := h
  obtain ⟨w', hrun, r1, r2⟩ := h1.update intLaw hu (by unfold maxLen; omega) (z_key _ hw) (d := .held u) (ps := []) (val := u) rfl
  unfold Oper.wp
  simp [execOp, hop, hm, hx, hv, hrun, Result.andThen]
  exact hK w' ⟨_, r1, h2.put (h1.tidy intLaw)⟩ ((grownBy_kp r2).mono (fun b _ e => by cases e; rfl))
/-- the proposal of a slot, or none -/
theorem getO {w : World} {t mb mp qb qp cb cp : Nat} {bal frm nxt : Int} {pr : List Bool} {B : Int → Option (Vo × Value)} {O : Int → Option (Pq × Value)} (h : Tr w t mb mp qb qp cb cp bal frm nxt pr B O) (z : Int) : Ni w (Zt t mb mp) ((O z).getD (pq0, nil0)).1.nodes ((O z).getD (pq0, nil0)).2 ∧ ((O z).getD (pq0, nil0)).1.acc.length = 16 := by
  cases hO : O z with
  | none => exact ⟨ni_nil w _, rfl⟩
  | some x => exact h.no z x hO

set_option maxRecDepth 100000 in
set_option maxHeartbeats 1600000 in
theorem tpropose_arg {w : World} {t mb mp qb qp cb cp : Nat} {bal frm nxt : Int} {pr : List Bool} {B : Int → Option (Vo × Value)} {O : Int → Option (Pq × Value)} (h : Tr w t mb mp qb qp cb cp bal frm nxt pr B O) (z : Int) (hz : ¬ (frm ≤ z ∧ z ≤ 1152921504606846976)) (ca : Array Value) :
    Calls Try.prog 13 #[.pointer (some ⟨t, 0, none⟩), .int .i64 z, .agg ca] w fun e w' => e = .returned (.int .i64 1) ∧ Kp (fun _ => False) w w' := by
  have HM : Hid (∀ u, Kp (fun _ => False) w u → Calls _ _ _ u _) := fun u k => tmade_ok (h.keep k)
  have HT : Hid (Tr w t mb mp qb qp cb cp bal frm nxt pr B O) := h
  have k0 : Kp (fun _ => False) w (w.alloc (.cells ca 35)) := (Kp.refl _ _).alloc _
  have c1 := (h.keep k0).c1
  clear h
  by_cases hf : z < frm
  · clear hz
    go_enter Try.func13, Try.ntmps13
    go_wp2_with (go_at_call 33; refine (HM.out _ k0).mono ?_; rintro e w' ⟨rfl, hw'⟩; obtain rfl := hw'.symm; clear hw')
    go_ret
    exact ⟨rfl, k0⟩
  · have hg : ¬ z ≤ 1152921504606846976 := by omega
    clear hz
    go_enter Try.func13, Try.ntmps13
    go_wp2_with (go_at_call 33; refine (HM.out _ k0).mono ?_; rintro e w' ⟨rfl, hw'⟩; obtain rfl := hw'.symm; clear hw')
    go_ret
    exact ⟨rfl, k0⟩

/-- behind a command that was proposed first -/
def Pp (w w' : World) (t mb mp qb qp cb cp : Nat) (bal frm nxt : Int) (pr : List Bool) (B : Int → Option (Vo × Value)) (O : Int → Option (Pq × Value)) (z : Int) (c : Cs0) (zs : List Int) : Prop :=
  ∃ nv, Tr w' t mb mp qb (qp + 1) cb (cp + 1) bal frm (max nxt (nextOf z)) pr B (updO O z (⟨c, zs, List.replicate 16 false⟩, nv))

set_option maxRecDepth 100000 in
set_option maxHeartbeats 4000000 in
theorem tpropose_same {w : World} {t mb mp qb qp cb cp : Nat} {bal frm nxt : Int} {pr : List Bool} {B : Int → Option (Vo × Value)} {O : Int → Option (Pq × Value)} (h : Tr w t mb mp qb qp cb cp bal frm nxt pr B O) (z : Int) (hz : frm ≤ z ∧ z ≤ 1152921504606846976 ∧ 1 ≤ frm) (c : Cs0) (zs : List Int) (nv : Value) (hn : Ni w (· < w.heap.size) zs nv) (x : Pq × Value) (hx : O z = some x) (he : x.1.c.id = c.id) :
    Calls Try.prog 13 #[.pointer (some ⟨t, 0, none⟩), .int .i64 z, .agg (cmdA c nv)] w fun e w' => e = .returned (.int .i64 0) ∧ Kp (fun _ => False) w w' := by
  have HM : Hid (∀ u, Kp (fun _ => False) w u → Calls _ _ _ u _) := fun u k => tmade_ok (h.keep k)
  have HT : Hid (Tr w t mb mp qb qp cb cp bal frm nxt pr B O) := h
  have HZ : Hid (-9223372036854775808 ≤ z ∧ z ≤ 9223372036854775807) := by show _ ∧ _; omega
  obtain ⟨hz1, hz2, hz3⟩ := hz
  obtain ⟨y, hy⟩ : ∃ y, y = (O z).getD (pq0, nil0) := ⟨_, rfl⟩
  obtain ⟨ok, hok⟩ : ∃ ok, ok = (O z).isSome := ⟨_, rfl⟩
  have HNy : Hid (Ni w (Zt t mb mp) y.1.nodes y.2 ∧ y.1.acc.length = 16) := by rw [hy]; exact getO h z
  have HLk : Hid (∀ u, Kp (fun _ => False) w u → (Instr.lookup 63 (.map (some mp)) (.int .i64 z) true).run Try.prog u = .ok (.tuple #[.agg (pcell y.1 y.2).toArray, .bool ok]) u) := fun u k => by
    have := look_mm_ok uProp zProp (h.keep k).o z (z_wf HZ.out)
    rw [pget, psome, ← hy, ← hok] at this
    exact this
  have HO2 : Hid ((pcell y.1 y.2).toArray.all (·.oneCell') = true) := pc_one y.1 (by obtain ⟨_, _, e, _⟩ := HNy.out.1; rw [e]; rfl)
  obtain ⟨xs, hxs⟩ : ∃ xs : List Value, xs = pcell y.1 y.2 := ⟨_, rfl⟩
  have HXS : Hid (xs.length = 28 ∧ xs[0]? = some (.int .i64 y.1.c.id)) := ⟨by rw [hxs]; exact pc_len _ _ HNy.out.2, by rw [hxs]; rfl⟩
  rw [← hxs] at HLk HO2
  obtain ⟨xa, hxa⟩ : ∃ xa : Array Value, xa = xs.toArray := ⟨_, rfl⟩
  have HXA : Hid (xa = xs.toArray) := hxa
  rw [← hxa] at HLk HO2
  have HY : Hid (y = (O z).getD (pq0, nil0)) := hy
  have HNv : Hid (Ni w (· < w.heap.size) zs nv) := hn
  have hyx : y = x := by rw [hy, hx]; rfl
  have hokt : ok = true := by rw [hok, hx]; rfl
  rw [hokt] at HLk
  rw [← hyx] at he
  have hne : (y.1.c.id != c.id) = false := by simp [he]
  clear hyx hokt hx he
  obtain ⟨va, hva⟩ : ∃ va : Array Value, va = cmdA c nv := ⟨_, rfl⟩
  have HVA : Hid (va = cmdA c nv) := hva
  have e0 : (#[.pointer (some ⟨t, 0, none⟩), .int .i64 z, .agg (cmdA c nv)] : Array Value) = #[.pointer (some ⟨t, 0, none⟩), .int .i64 z, .agg va] := by rw [hva]
  rw [e0]
  clear e0 h hy hok hxs hxa hva hn
  go_enter Try.func13, Try.ntmps13
  go_wp2_with fail
  obtain ⟨u, hu⟩ : ∃ x, x = w.alloc (.cells va 35) := ⟨_, rfl⟩
  rw [← hu]
  have HL0 : Hid (Lv u w.heap.size (cmdA c nv).toList) := by rw [hu, HVA.out]; exact Lv.new w _ _
  have k0 : Kp (fun _ => False) w u := by rw [hu]; exact (Kp.refl _ _).alloc _
  clear hu
  obtain ⟨g, hg⟩ : ∃ g, g = w.heap.size := ⟨_, rfl⟩
  rw [← hg] at HL0 ⊢
  have HG : Hid (w.heap.size ≤ g ∧ g < u.heap.size ∧ t < w.heap.size ∧ mb < w.heap.size ∧ mp < w.heap.size) := ⟨by omega, HL0.out.lt (by simp), HT.out.lt⟩
  clear hg
  refine (HM.out _ k0).mono ?_
  rintro e w' ⟨rfl, hw⟩
  obtain rfl := hw.symm
  clear hw
  have c1 := (HT.out.keep k0).c1
  have c20 := (HT.out.keep k0).c20
  have hlk := HLk.out u k0
  clear HM HLk
  go_wp2_with (first
    | (refine wpList_store_all rfl 77 _ _ rfl 28 u.heap.size (pcell pq0 nil0) xa.toList rfl (by rw [Array.toArray_toList]; rfl) (by exact Lv.new u _ _) szPq rfl (by rw [HXA.out]; exact HXS.out.1) (by rw [Array.toArray_toList]; exact HO2.out) ?_; intro u2 hl2 k2; have ku2 : Kp (fun _ => False) u u2 := ((Kp.refl (fun _ => False) u).alloc _).trans k2 (fun b hb e => by omega); have HLg : Hid (Lv u2 g (cmdA c nv).toList) := HL0.out.keep ku2 id; have k02 := k0.trans ku2 (fun _ _ e => e); have HL2 : Hid (Lv u2 u.heap.size xs) := (by rw [HXA.out] at hl2; exact hl2); have i0 : u2.cell? ⟨g, 0, none⟩ = some (.int .i64 c.id) := HLg.out.cell (j := 0) rfl; have j0 : u2.cell? ⟨u.heap.size, 0, none⟩ = some (.int .i64 y.1.c.id) := HL2.out.cell (j := 0) HXS.out.2; clear hl2 k2 c1 c20))
  go_ret
  exact ⟨rfl, k02⟩

set_option maxRecDepth 100000 in
set_option maxHeartbeats 4000000 in
theorem tpropose_other {w : World} {t mb mp qb qp cb cp : Nat} {bal frm nxt : Int} {pr : List Bool} {B : Int → Option (Vo × Value)} {O : Int → Option (Pq × Value)} (h : Tr w t mb mp qb qp cb cp bal frm nxt pr B O) (z : Int) (hz : frm ≤ z ∧ z ≤ 1152921504606846976 ∧ 1 ≤ frm) (c : Cs0) (zs : List Int) (nv : Value) (hn : Ni w (· < w.heap.size) zs nv) (x : Pq × Value) (hx : O z = some x) (he : x.1.c.id ≠ c.id) :
    Calls Try.prog 13 #[.pointer (some ⟨t, 0, none⟩), .int .i64 z, .agg (cmdA c nv)] w fun e w' => e = .returned (.int .i64 82) ∧ Kp (fun _ => False) w w' := by
  have HM : Hid (∀ u, Kp (fun _ => False) w u → Calls _ _ _ u _) := fun u k => tmade_ok (h.keep k)
  have HT : Hid (Tr w t mb mp qb qp cb cp bal frm nxt pr B O) := h
  have HZ : Hid (-9223372036854775808 ≤ z ∧ z ≤ 9223372036854775807) := by show _ ∧ _; omega
  obtain ⟨hz1, hz2, hz3⟩ := hz
  obtain ⟨y, hy⟩ : ∃ y, y = (O z).getD (pq0, nil0) := ⟨_, rfl⟩
  obtain ⟨ok, hok⟩ : ∃ ok, ok = (O z).isSome := ⟨_, rfl⟩
  have HNy : Hid (Ni w (Zt t mb mp) y.1.nodes y.2 ∧ y.1.acc.length = 16) := by rw [hy]; exact getO h z
  have HLk : Hid (∀ u, Kp (fun _ => False) w u → (Instr.lookup 63 (.map (some mp)) (.int .i64 z) true).run Try.prog u = .ok (.tuple #[.agg (pcell y.1 y.2).toArray, .bool ok]) u) := fun u k => by
    have := look_mm_ok uProp zProp (h.keep k).o z (z_wf HZ.out)
    rw [pget, psome, ← hy, ← hok] at this
    exact this
  have HO2 : Hid ((pcell y.1 y.2).toArray.all (·.oneCell') = true) := pc_one y.1 (by obtain ⟨_, _, e, _⟩ := HNy.out.1; rw [e]; rfl)
  obtain ⟨xs, hxs⟩ : ∃ xs : List Value, xs = pcell y.1 y.2 := ⟨_, rfl⟩
  have HXS : Hid (xs.length = 28 ∧ xs[0]? = some (.int .i64 y.1.c.id)) := ⟨by rw [hxs]; exact pc_len _ _ HNy.out.2, by rw [hxs]; rfl⟩
  rw [← hxs] at HLk HO2
  obtain ⟨xa, hxa⟩ : ∃ xa : Array Value, xa = xs.toArray := ⟨_, rfl⟩
  have HXA : Hid (xa = xs.toArray) := hxa
  rw [← hxa] at HLk HO2
  have HY : Hid (y = (O z).getD (pq0, nil0)) := hy
  have HNv : Hid (Ni w (· < w.heap.size) zs nv) := hn
  have hyx : y = x := by rw [hy, hx]; rfl
  have hokt : ok = true := by rw [hok, hx]; rfl
  rw [hokt] at HLk
  rw [← hyx] at he
  have hne : (y.1.c.id != c.id) = true := by simp [he]
  clear hyx hokt hx he
  obtain ⟨va, hva⟩ : ∃ va : Array Value, va = cmdA c nv := ⟨_, rfl⟩
  have HVA : Hid (va = cmdA c nv) := hva
  have e0 : (#[.pointer (some ⟨t, 0, none⟩), .int .i64 z, .agg (cmdA c nv)] : Array Value) = #[.pointer (some ⟨t, 0, none⟩), .int .i64 z, .agg va] := by rw [hva]
  rw [e0]
  clear e0 h hy hok hxs hxa hva hn
  go_enter Try.func13, Try.ntmps13
  go_wp2_with fail
  obtain ⟨u, hu⟩ : ∃ x, x = w.alloc (.cells va 35) := ⟨_, rfl⟩
  rw [← hu]
  have HL0 : Hid (Lv u w.heap.size (cmdA c nv).toList) := by rw [hu, HVA.out]; exact Lv.new w _ _
  have k0 : Kp (fun _ => False) w u := by rw [hu]; exact (Kp.refl _ _).alloc _
  clear hu
  obtain ⟨g, hg⟩ : ∃ g, g = w.heap.size := ⟨_, rfl⟩
  rw [← hg] at HL0 ⊢
  have HG : Hid (w.heap.size ≤ g ∧ g < u.heap.size ∧ t < w.heap.size ∧ mb < w.heap.size ∧ mp < w.heap.size) := ⟨by omega, HL0.out.lt (by simp), HT.out.lt⟩
  clear hg
  refine (HM.out _ k0).mono ?_
  rintro e w' ⟨rfl, hw⟩
  obtain rfl := hw.symm
  clear hw
  have c1 := (HT.out.keep k0).c1
  have c20 := (HT.out.keep k0).c20
  have hlk := HLk.out u k0
  clear HM HLk
  go_wp2_with (first
    | (refine wpList_store_all rfl 77 _ _ rfl 28 u.heap.size (pcell pq0 nil0) xa.toList rfl (by rw [Array.toArray_toList]; rfl) (by exact Lv.new u _ _) szPq rfl (by rw [HXA.out]; exact HXS.out.1) (by rw [Array.toArray_toList]; exact HO2.out) ?_; intro u2 hl2 k2; have ku2 : Kp (fun _ => False) u u2 := ((Kp.refl (fun _ => False) u).alloc _).trans k2 (fun b hb e => by omega); have HLg : Hid (Lv u2 g (cmdA c nv).toList) := HL0.out.keep ku2 id; have k02 := k0.trans ku2 (fun _ _ e => e); have HL2 : Hid (Lv u2 u.heap.size xs) := (by rw [HXA.out] at hl2; exact hl2); have i0 : u2.cell? ⟨g, 0, none⟩ = some (.int .i64 c.id) := HLg.out.cell (j := 0) rfl; have j0 : u2.cell? ⟨u.heap.size, 0, none⟩ = some (.int .i64 y.1.c.id) := HL2.out.cell (j := 0) HXS.out.2; clear hl2 k2 c1 c20))
  go_ret
  exact ⟨rfl, k02⟩

set_option maxRecDepth 100000 in
set_option maxHeartbeats 4000000 in
theorem tpropose_new {w : World} {t mb mp qb qp cb cp : Nat} {bal frm nxt : Int} {pr : List Bool} {B : Int → Option (Vo × Value)} {O : Int → Option (Pq × Value)} (h : Tr w t mb mp qb qp cb cp bal frm nxt pr B O) (z : Int) (hz : frm ≤ z ∧ z ≤ 1152921504606846976 ∧ 1 ≤ frm) (c : Cs0) (zs : List Int) (nv : Value) (hn : Ni w (· < w.heap.size) zs nv) (hx : O z = none) (hq : qp < 4611686018427387904) :
    Calls Try.prog 13 #[.pointer (some ⟨t, 0, none⟩), .int .i64 z, .agg (cmdA c nv)] w fun e w' => e = .returned (.int .i64 0) ∧ Kp (fun b => b = t ∨ b = mp) w w' ∧ Pp w w' t mb mp qb qp cb cp bal frm nxt pr B O z c zs := by
  have HM : Hid (∀ u, Kp (fun _ => False) w u → Calls _ _ _ u _) := fun u k => tmade_ok (h.keep k)
  have HT : Hid (Tr w t mb mp qb qp cb cp bal frm nxt pr B O) := h
  have HZ : Hid (-9223372036854775808 ≤ z ∧ z ≤ 9223372036854775807) := by show _ ∧ _; omega
  obtain ⟨hz1, hz2, hz3⟩ := hz
  obtain ⟨y, hy⟩ : ∃ y, y = (O z).getD (pq0, nil0) := ⟨_, rfl⟩
  obtain ⟨ok, hok⟩ : ∃ ok, ok = (O z).isSome := ⟨_, rfl⟩
  have HNy : Hid (Ni w (Zt t mb mp) y.1.nodes y.2 ∧ y.1.acc.length = 16) := by rw [hy]; exact getO h z
  have HLk : Hid (∀ u, Kp (fun _ => False) w u → (Instr.lookup 63 (.map (some mp)) (.int .i64 z) true).run Try.prog u = .ok (.tuple #[.agg (pcell y.1 y.2).toArray, .bool ok]) u) := fun u k => by
    have := look_mm_ok uProp zProp (h.keep k).o z (z_wf HZ.out)
    rw [pget, psome, ← hy, ← hok] at this
    exact this
  have HO2 : Hid ((pcell y.1 y.2).toArray.all (·.oneCell') = true) := pc_one y.1 (by obtain ⟨_, _, e, _⟩ := HNy.out.1; rw [e]; rfl)
  obtain ⟨xs, hxs⟩ : ∃ xs : List Value, xs = pcell y.1 y.2 := ⟨_, rfl⟩
  have HXS : Hid (xs.length = 28 ∧ xs[0]? = some (.int .i64 y.1.c.id)) := ⟨by rw [hxs]; exact pc_len _ _ HNy.out.2, by rw [hxs]; rfl⟩
  rw [← hxs] at HLk HO2
  obtain ⟨xa, hxa⟩ : ∃ xa : Array Value, xa = xs.toArray := ⟨_, rfl⟩
  have HXA : Hid (xa = xs.toArray) := hxa
  rw [← hxa] at HLk HO2
  have HY : Hid (y = (O z).getD (pq0, nil0)) := hy
  have HNv : Hid (Ni w (· < w.heap.size) zs nv) := hn
  have hokt : ok = false := by rw [hok, hx]; rfl
  rw [hokt] at HLk
  have HX : Hid (O z = none) := hx
  have HQ : Hid (qp < 4611686018427387904) := hq
  obtain ⟨pn, capn, hnv, hfn, hln⟩ := hn
  have HCl : Hid (∀ u, Kp (fun _ => False) w u → Calls _ _ _ u _) := fun u ku => clone_cmd c _ pn capn zs u (hfn.keep ku (fun _ _ => id)) hln
  rw [← hnv] at HCl
  have HLn : Hid (zs.length * 8 ≤ 140737488355328) := hln
  have hn : True := trivial
  clear hokt hx hq hnv hfn hln
  obtain ⟨va, hva⟩ : ∃ va : Array Value, va = cmdA c nv := ⟨_, rfl⟩
  have HVA : Hid (va = cmdA c nv) := hva
  have e0 : (#[.pointer (some ⟨t, 0, none⟩), .int .i64 z, .agg (cmdA c nv)] : Array Value) = #[.pointer (some ⟨t, 0, none⟩), .int .i64 z, .agg va] := by rw [hva]
  rw [e0]
  clear e0 h hy hok hxs hxa hva hn
  go_enter Try.func13, Try.ntmps13
  go_wp2_with fail
  obtain ⟨u, hu⟩ : ∃ x, x = w.alloc (.cells va 35) := ⟨_, rfl⟩
  rw [← hu]
  have HL0 : Hid (Lv u w.heap.size (cmdA c nv).toList) := by rw [hu, HVA.out]; exact Lv.new w _ _
  have k0 : Kp (fun _ => False) w u := by rw [hu]; exact (Kp.refl _ _).alloc _
  clear hu
  obtain ⟨g, hg⟩ : ∃ g, g = w.heap.size := ⟨_, rfl⟩
  rw [← hg] at HL0 ⊢
  have HG : Hid (w.heap.size ≤ g ∧ g < u.heap.size ∧ t < w.heap.size ∧ mb < w.heap.size ∧ mp < w.heap.size) := ⟨by omega, HL0.out.lt (by simp), HT.out.lt⟩
  clear hg
  refine (HM.out _ k0).mono ?_
  rintro e w' ⟨rfl, hw⟩
  obtain rfl := hw.symm
  clear hw
  have c1 := (HT.out.keep k0).c1
  have c20 := (HT.out.keep k0).c20
  have hlk := HLk.out u k0
  clear HM HLk
  go_wp2_with (first
    | (refine wpList_store_all rfl 77 _ _ rfl 28 u.heap.size (pcell pq0 nil0) xa.toList rfl (by rw [Array.toArray_toList]; rfl) (by exact Lv.new u _ _) szPq rfl (by rw [HXA.out]; exact HXS.out.1) (by rw [Array.toArray_toList]; exact HO2.out) ?_; intro u2 hl2 k2; have ku2 : Kp (fun _ => False) u u2 := ((Kp.refl (fun _ => False) u).alloc _).trans k2 (fun b hb e => by omega); have HLg : Hid (Lv u2 g (cmdA c nv).toList) := HL0.out.keep ku2 id; have k02 := k0.trans ku2 (fun _ _ e => e); have HL2 : Hid (Lv u2 u.heap.size xs) := (by rw [HXA.out] at hl2; exact hl2); have i0 : u2.cell? ⟨g, 0, none⟩ = some (.int .i64 c.id) := HLg.out.cell (j := 0) rfl; have j0 : u2.cell? ⟨u.heap.size, 0, none⟩ = some (.int .i64 y.1.c.id) := HL2.out.cell (j := 0) HXS.out.2; clear hl2 k2 c1 c20))
  clear hlk i0 j0
  have HSS : Hid (∀ x, Kp (fun _ => False) u2 x → x.cell? ⟨t, 20, none⟩ = some (.map (some mp)) ∧ x.rangeAt g 0 (cmdA c nv).toList) := fun x kx => ⟨(HT.out.keep (k02.trans kx (fun _ _ e => e))).c20, (HLg.out.keep kx id).r⟩
  obtain ⟨dC, hdC1, hdC2⟩ := dsCmd
  have kd0 : Kp (fun _ => False) u2 u2.drew := (Kp.refl _ _).drew
  obtain ⟨wd, hwd⟩ : ∃ x, x = u2.drew := ⟨_, rfl⟩
  refine wp_region_held_drew (S := (fun x => x.cell? ⟨t, 20, none⟩ = some (.map (some mp)) ∧ x.rangeAt g 0 (cmdA c nv).toList)) (by kernel_rfl) (HSS.out _ kd0) (fun hHeld => ?_)
  rw [← hwd] at kd0 hHeld ⊢
  clear hwd
  simp only [List.size_toArray, List.length_cons, List.length_nil, Nat.zero_add, Nat.reduceAdd]
  refine wpAnyH_take (i := 0) (v := ?zv0) (List.getElem?_toArray.trans rfl) (by kernel_rfl) (by kernel_rfl) (by kernel_rfl) (fun _ _ _ h => h) (Or.inl ⟨by rfl, ?zy0⟩) (by assumption) ?zr0
  case zy0 => (intro w hSw; obtain ⟨hs1, hs2⟩ := hSw; go_simp; try with_reducible rfl)
  simp only [Act.put, List.setIfInBounds_toArray, List.set_cons_zero, List.set_cons_succ]
  refine wpAnyH_take (i := 1) (v := ?zv1) (List.getElem?_toArray.trans rfl) (by kernel_rfl) (by kernel_rfl) (by kernel_rfl) (fun _ _ _ h => h) (Or.inl ⟨by rfl, ?zy1⟩) (by assumption) ?zr1
  case zy1 => (intro w hSw; obtain ⟨hs1, hs2⟩ := hSw; go_simp; try with_reducible rfl)
  simp only [Act.put, List.setIfInBounds_toArray, List.set_cons_zero, List.set_cons_succ]
  refine wpAnyH_take (i := 2) (v := ?zv2) (List.getElem?_toArray.trans rfl) (by kernel_rfl) (by kernel_rfl) (by kernel_rfl) (fun _ _ _ h => h) (Or.inl ⟨by rfl, ?zy2⟩) (by assumption) ?zr2
  case zy2 => (intro w hSw; obtain ⟨hs1, hs2⟩ := hSw; go_simp; try with_reducible rfl)
  simp only [Act.put, List.setIfInBounds_toArray, List.set_cons_zero, List.set_cons_succ]
  refine wpAnyH_take (i := 3) (v := ?zv3) (List.getElem?_toArray.trans rfl) (by kernel_rfl) (by kernel_rfl) (by kernel_rfl) (fun _ _ _ h => h) (Or.inl ⟨by rfl, ?zy3⟩) (by assumption) ?zr3
  case zy3 => (intro w hSw; obtain ⟨hs1, hs2⟩ := hSw; go_simp; try with_reducible rfl)
  simp only [Act.put, List.setIfInBounds_toArray, List.set_cons_zero, List.set_cons_succ]
  refine wpAnyH_take (i := 4) (v := ?zv4) (List.getElem?_toArray.trans rfl) (by kernel_rfl) (by kernel_rfl) (by kernel_rfl) (fun _ _ _ h => h) (Or.inl ⟨by rfl, ?zy4⟩) (by assumption) ?zr4
  case zy4 => (intro w hSw; obtain ⟨hs1, hs2⟩ := hSw; go_simp; try with_reducible rfl)
  simp only [Act.put, List.setIfInBounds_toArray, List.set_cons_zero, List.set_cons_succ]
  refine wpAnyH_take (i := 5) (v := .agg (cmdA c nv)) (List.getElem?_toArray.trans rfl) (by kernel_rfl) (by kernel_rfl) (by kernel_rfl) (fun _ _ _ h => h) (yieldsIf_load_mid (by rfl) 35 _ rfl g 0 rfl (cmdA c nv).toList dC (fun x hx => hx.2) hdC1 hdC2 (by rw [szCmd]; rfl)) (by assumption) ?_
  simp only [Act.put, List.setIfInBounds_toArray, List.set_cons_zero, List.set_cons_succ]
  refine wpAnyH_ready (rs := [6]) (by kernel_rfl) (by simp) ?_
  refine AllReadyH.cons rfl (fun Ka hKa => ?_) AllReadyH.nil
  rw [if_pos (by rfl)]
  go_simp
  refine (HCl.out wd (k02.trans kd0 (fun _ _ e => e))).mono ?_
  rintro e w3 ⟨q, cq, rfl, k3, hfl⟩
  have k23 : Kp (fun _ => False) u2 w3 := kd0.trans k3 (fun _ _ e => e)
  have HFl : Hid (Fl w3 (fun b => wd.heap.size ≤ b ∧ b < w3.heap.size) q (zs.map encI)) := hfl
  have k03 := k02.trans k23 (fun _ _ e => e)
  have HGd : Hid (w.heap.size ≤ wd.heap.size) := (k02.trans kd0 (fun _ _ e => e)).size
  clear hHeld hfl
  dsimp only
  refine hKa.out _ _ (HSS.out _ k23) (fun hHeld => ?_)
  clear hKa Ka k3 kd0
  refine wpAnyH_take (i := 7) (v := ?zv7) (List.getElem?_toArray.trans rfl) (by kernel_rfl) (by kernel_rfl) (by kernel_rfl) (fun _ _ _ h => h) (Or.inl ⟨by rfl, ?zy7⟩) (by assumption) ?zr7
  case zy7 => (intro w hSw; obtain ⟨hs1, hs2⟩ := hSw; go_simp; try with_reducible rfl)
  simp only [Act.put, List.setIfInBounds_toArray, List.set_cons_zero, List.set_cons_succ]
  refine wpAnyH_ready (rs := [8]) (by kernel_rfl) (by simp) ?_
  refine AllReadyH.cons rfl (fun Ka hKa => ?_) AllReadyH.nil
  rw [if_pos (by rfl)]
  refine wp_put _ _ _ rfl uProp mp qp cp (pmap O) (HT.out.keep k03).o rfl HQ.out z (z_wf HZ.out) rfl (.agg (pcell ⟨c, zs, List.replicate 16 false⟩ (.slice q zs.length cq)).toArray) rfl ?_
  intro w5 hm5 k5
  simp only [List.getElem_toArray, List.getElem_cons_succ, List.getElem_cons_zero, Act.put]
  have HT5 : Hid (Tr w5 t mb mp qb (qp + 1) cb (cp + 1) bal frm nxt pr B (updO O z (⟨c, zs, List.replicate 16 false⟩, .slice q zs.length cq))) := by
    rw [psome, HX.out] at hm5
    have hm6 : Mm w5 mp (qp + 1) (cp + 1) (pmap (updO O z (⟨c, zs, List.replicate 16 false⟩, .slice q zs.length cq))) := by rw [← pmap_upd]; exact hm5
    refine (HT.out.keep k03).puto k5 hm6 (fun y x hx => ?_)
    unfold updO at hx
    by_cases e : y = z
    · rw [if_pos e] at hx
      injection hx with hx
      subst hx
      exact ⟨⟨q, cq, rfl, HFl.out.mono (fun b hb => by have := HG.out; have := HGd.out; exact ⟨by omega, by omega, by omega⟩), HLn.out⟩, by simp⟩
    · rw [if_neg e] at hx
      exact (HT.out.keep k03).no y x hx
  have hS5 : w5.cell? ⟨t, 20, none⟩ = some (.map (some mp)) ∧ w5.rangeAt g 0 (cmdA c nv).toList := ⟨HT5.out.c20, ((HLg.out.keep k23 id).keep k5 (fun e => by have := HG.out; omega)).r⟩
  have HK5 : Hid (Kp (fun b => b = t ∨ b = mp) w w5) := (k03.mono (fun _ _ e => e.elim)).trans k5 (fun _ _ e => Or.inr e)
  clear hHeld hm5
  refine hKa.out _ _ hS5 (fun hHeld => ?_)
  refine wpAnyH_done (by kernel_rfl) ?_ _
  clear hKa Ka hHeld HSS hS5 k5 k23 k03 HFl HL0 HLg HL2
  have HP : Hid (Calls _ _ _ w5 _) := tpass_ok HT5.out z HZ.out
  go_wp2_with (go_at_call 40; refine HP.out.mono ?_; rintro e w6 ⟨rfl, k6, hT6⟩)
  go_ret
  exact ⟨rfl, HK5.out.trans k6 (fun _ _ e => Or.inl e), _, hT6⟩

end Go.Proofs.Ytjpdbhkggcojaaa
