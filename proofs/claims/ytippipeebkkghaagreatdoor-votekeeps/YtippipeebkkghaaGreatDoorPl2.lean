/- The walks of a plate's sector, Write and Read. -/
import Derived.Test.YtippipeebkkghaaGreatDoorPl
namespace Go.Proofs.YtippipeebkkghaaGreatDoor
open Go.RowKit Go.Deep Go.Maps

theorem slice3 (d n c l r : Nat) (hl : l < r) (hr : r ≤ c) (w : World) :
    (Instr.slice 75 (.slice (some ⟨d, 0, none⟩) n c) (some (.int .i64 (l : Int))) (some (.int .i64 (r : Int))) (some (.int .i64 (r : Int)))).run Tryz.prog w = .ok (.slice (some ⟨d, l, none⟩) (r - l) (r - l)) w := by
  obtain ⟨i, hi, hz⟩ := Option.map_eq_some_iff.1 info5
  simp only [Prod.mk.injEq] at hz
  obtain ⟨hz, hs, hb⟩ := hz
  have h1 : (0 : Int) ≤ l ∧ (l : Int) ≤ (r : Int) := by omega
  have h2 : (0 : Int) ≤ r ∧ (r : Int) ≤ (c : Int) := by omega
  have h3 : l ≤ r := by omega
  have h4 : ¬ (r = l) := by omega
  simp [Instr.slice, Instr.sliceBounds, Instr.sliceBound, asIntOf, run_underlying Tryz.underlying75, sizeOf, typeInfo, hi, hs, h3, hr, h4, Addr.add]
  omega

set_option maxRecDepth 100000 in
set_option maxHeartbeats 400000 in
theorem sector_ok {w : World} {b d m n q : Nat} {dur : List Nat} {T : Nat → Option (List Nat)} (h : Pt w b d m n q dur T) (i : Nat) (hi : (i : Int) < (n : Int)) :
    Calls Tryz.prog 54 #[.pointer (some ⟨b, 0, none⟩), .int .i64 (i : Int)] w fun e w' => e = .returned (.slice (some ⟨d, i * 64, none⟩) 64 64) ∧ w' = w := by
  obtain ⟨cp, hcp, c1⟩ := h.c1
  have hn2 : (n : Int) ≤ 8192 := by have := h.n2; omega
  have s1 := slice3 d (n * 64) cp (i * 64) (i * 64 + 64) (by omega) (by omega)
  rw [show i * 64 + 64 - i * 64 = 64 from by omega, show ((i * 64 + 64 : Nat) : Int) = ((i : Int) + 1) * 64 from by omega, show ((i * 64 : Nat) : Int) = (i : Int) * 64 from by omega] at s1
  clear h
  go_enter Tryz.func54, Tryz.ntmps54
  go_wp2
  go_ret
  exact ⟨rfl, rfl⟩

/-- bytes of a slice, as the cells of an array -/
theorem rb_range {w : World} {bb o n : Nat} {xs : List Nat} (h : Rb w (some ⟨bb, o, none⟩) n xs) : w.rangeAt bb o (vl xs) := fun j v hv => by
  have hj : j < xs.length := by
    have := (List.getElem?_eq_some_iff.1 hv).1
    rwa [vl_length] at this
  obtain ⟨b', o', e, hc⟩ := h.cell j (by rw [← h.len]; exact hj)
  simp only [Option.some.injEq, Addr.mk.injEq, and_true] at e
  obtain ⟨rfl, rfl⟩ := e
  rw [hc, ← vl_get hj, hv]
theorem infoSec : (Tryz.prog.info? 88).map (fun i => (i.zero, i.size)) = some (some (secV (List.replicate 64 0)), 64) := by kernel_rfl
theorem sizeSec : (Tryz.prog.info? 88).map (·.size) = some 64 := by kernel_rfl

/-- an array is read whole, in a region that stands still -/
theorem wpStill_load {P : Program} {ops : Array Oper} {w : World} {Q : Act → Prop} {rest : List Oper} {o : Oper} {a : Act} (hg : o.guard = none) (ty : TypeId) (x : Operand) (ho : o.op = .load ty x) (v : Value)
    (hrun : (Instr.loadAt ty (a.eval x)).run P w = .ok v w) (h : wpStill P ops w Q rest (a.put o.dst v)) : wpStill P ops w Q (o :: rest) a := by
  unfold wpStill
  have hw : Region.wanted o (yielded ops a.tmps) = true := by simp [Region.wanted, hg]
  rw [if_pos hw]
  simp [Oper.still, execOp, ho, hrun, Oper.stillUpon, h]

theorem Pt.newmap {w w' : World} {b d m n q q' : Nat} {dur : List Nat} {T T' : Nat → Option (List Nat)} (h : Pt w b d m n q dur T) (k : Kp (fun x => x = m) w w') (hm : Mp w' m n q' T') : Pt w' b d m n q' dur T' :=
  ⟨k.cellv h.c0 h.bm, (by obtain ⟨cp, hc, c1⟩ := h.c1; exact ⟨cp, hc, k.cellv c1 h.bm⟩), k.cellv h.c2 h.bm, k.cellv h.c3 h.bm, fun j => by rw [World.frozen?_of_block (w := w) (k.block b h.lt h.bm)]; exact h.fz j, h.row.keep k h.dm, h.len, h.byte, hm, h.bd, h.bm, h.dm, h.n1, h.n2⟩

set_option maxRecDepth 100000 in
set_option maxHeartbeats 800000 in
theorem write_ok {w : World} {b d m n q : Nat} {dur : List Nat} {T : Nat → Option (List Nat)} (h : Pt w b d m n q dur T) (hq : (q : Int) < 9223372036854775807) (i : Nat) (hi : (i : Int) < (n : Int)) (bb o c : Nat) (xs : List Nat) (hx : Rb w (some ⟨bb, o, none⟩) 64 xs) :
    Calls Tryz.prog 206 #[.pointer (some ⟨b, 0, none⟩), .int .i64 (i : Int), .slice (some ⟨bb, o, none⟩) 64 c] w fun e w' => e = .returned (.int .i64 0) ∧ Kp (fun x => x = m) w w' ∧ Pt w' b d m n (q + 1) dur (fun j => if j = i then some xs else T j) := by
  have H : Hid (Calls _ _ _ w _) := has_ok h i hi
  have c2 := h.c2
  have hn2 : (n : Int) ≤ 8192 := by have := h.n2; omega
  go_enter Tryz.func206, Tryz.ntmps206
  go_wp2_with (go_at_call 212; refine H.out.mono ?_; rintro e w' ⟨rfl, rfl⟩)
  have hA : ∀ w : World, (Instr.arrayAt 88 (.slice (some ⟨bb, o, none⟩) 64 c)).run Tryz.prog w = .ok (.pointer (some ⟨bb, o, none⟩)) w := fun w => by
    simp [Instr.arrayAt, run_underlying Tryz.underlying88]
  clear H
  refine wp_region_still_tail 8 (by kernel_rfl) (by kernel_rfl) ?_
  obtain ⟨wd, hwd⟩ : ∃ x : World, x = { w' with drawn := w'.drawn + 1 } := ⟨_, rfl⟩
  have kd : Kp (fun _ => False) w' wd := by rw [hwd]; exact (Kp.refl _ _).drew
  rw [← hwd]
  have hd := h.keep kd id id id
  have hLd := run_loadAt_mid (P := Tryz.prog) wd bb o 88 (vl xs) _ (rb_range (hx.keep0 kd)) Tryz.underlying88 rfl (by rw [vl_length, hx.len]; exact sizeSec)
  have c2d := hd.c2
  clear hwd c2
  have HX : Hid (Sec xs) := ⟨hx.len, hx.byte⟩
  have HP : Hid (Pt wd b d m n q dur T) := hd
  clear hd h hx
  simp only [List.take_succ_cons, List.take_zero, List.drop_succ_cons, List.drop_zero]
  iterate 7 still_step
  refine wpStill_load rfl 88 _ rfl _ hLd ?_
  refine wpStill_nil ?_
  obtain ⟨D, hown, hDD⟩ := HP.out.mp
  refine wpList_mapUpdate_own _ rfl _ _ _ 81 rfl 3 88 keyLaw Tryz.underlying81 secR m q D rfl hown (by unfold maxLen; omega) _ _ _ rfl rfl (ik_key i (by omega)) (.held xs) [] (secR_mk HX.out) ?_
  intro w1 hown1 hg1
  have k1 := grownBy_kp hg1
  have HPt : Hid (Pt w1 b d m n (q + 1) dur (fun j => if j = i then some xs else T j)) := HP.out.newmap (k1.mono (fun x _ e => (Option.some.inj e).symm)) (Mp.put (by omega) HX.out hown hDD hown1)
  have kk : Kp (fun x => x = m) w' w1 := (kd.mono (S' := fun x => x = m) (fun _ _ e => e.elim)).trans (k1.mono (S' := fun x => x = m) (fun x _ e => (Option.some.inj e).symm)) (fun _ _ e => e)
  clear hown hDD hown1 hg1 HP
  go_wp2
  go_ret
  exact ⟨rfl, kk, HPt.out⟩

/-- the element at a key, and whether it is there -/
theorem wpList_lookup_sec {ops : Array Oper} {rest : List Oper} {o : Oper} {a : Act} {w : World} {Q : Exit → Act → World → Prop} (hg : o.guard = none) (mm x : Operand) (hop : o.op = Op.lookup 81 mm x true) (m q : Nat) (D : DataW (List Nat))
    (hm : a.eval mm = .map (some m)) (hown : w.ownsMap Tryz.prog 3 secR m q D) (key : Value) (kl : Lit) (hx : a.eval x = key) (hkey : keyOf Tryz.prog 3 key = some kl)
    (hK : ∀ ys, Sec ys → D.atKey kl (.held (List.replicate 64 0)) = .held ys → wpList Tryz.prog ops Q rest (a.put o.dst (.tuple #[secV ys, .bool (Maps.has D kl)])) w) : wpList Tryz.prog ops Q (o :: rest) a w := by
  have hz : Sec (List.replicate 64 0) := ⟨by simp, fun x hx => by rw [List.eq_of_mem_replicate hx]; omega⟩
  refine wpList_lookup_own_ok _ hg mm x 81 hop 3 88 keyLaw Tryz.underlying81 secR ((zero_of_info infoSec).1 w) (.held (List.replicate 64 0)) [] (secR_mk hz) m q D hm hown key kl hx hkey ?_
  intro v ps hv
  obtain ⟨ys, hys, rfl, hy⟩ := secR_inv hv
  exact hK ys hys (Prod.mk.inj hy).1
/-- an array is laid whole into the block that was made last -/
theorem wpList_store_sec {ops : Array Oper} {rest : List Oper} {o : Oper} {a : Act} {w : World} {Q : Exit → Act → World → Prop} (hg : o.guard = none) (x y : Operand) (hop : o.op = Op.store 88 x y) (c : Array Value) (hc : c.size = 64) (ys : List Nat) (hys : Sec ys)
    (hx : a.eval x = .pointer (some ⟨w.heap.size, 0, none⟩)) (hy : a.eval y = secV ys)
    (hK : wpList Tryz.prog ops Q rest (a.put o.dst undef) (w.alloc (.cells (vl ys).toArray 88))) : wpList Tryz.prog ops Q (o :: rest) a (w.alloc (.cells c 88)) := by
  have hsz : (vl ys).toArray.size = 64 := by rw [List.size_toArray, vl_length, hys.1]
  have hr := run_storeAt_new (P := Tryz.prog) w 88 c (vl ys).toArray (by rw [hsz]; exact sizeSec) (by rw [hsz, hc]) (by
    rw [Array.all_eq_true_iff_forall_mem]
    intro u hu
    exact vl_one ys u (by simpa using hu))
  refine wpList_plain hg fun K hK' => ?_
  unfold Oper.wp execOp
  simp only [hop, hx, hy, Sem.run_bind, hr, Result.andThen_ok]
  exact hK' _ _ hK

/-- what a sector is now -/
def nowOf (dur : List Nat) (T : Nat → Option (List Nat)) (i : Nat) : List Nat := (T i).getD ((dur.drop (i * 64)).take 64)
theorem Pt.durSec {w : World} {b d m n q : Nat} {dur : List Nat} {T : Nat → Option (List Nat)} (h : Pt w b d m n q dur T) {i : Nat} (hi : i < n) : Sec ((dur.drop (i * 64)).take 64) :=
  ⟨by rw [List.length_take, List.length_drop, h.len]; omega, fun x hx => h.byte x (List.mem_of_mem_drop (List.mem_of_mem_take hx))⟩
theorem Pt.durRb {w : World} {b d m n q : Nat} {dur : List Nat} {T : Nat → Option (List Nat)} (h : Pt w b d m n q dur T) {i : Nat} (hi : i < n) : Rb w (some ⟨d, i * 64, none⟩) 64 ((dur.drop (i * 64)).take 64) :=
  ⟨(h.durSec hi).1, (h.durSec hi).2, fun j hj => ⟨d, i * 64, rfl, by
    rw [h.row.cell (j := i * 64 + j) (by omega)]
    rw [List.getD_eq_getElem?_getD, List.getD_eq_getElem?_getD, List.getElem?_take_of_lt hj, List.getElem?_drop]⟩⟩
theorem sec_new_rb (w : World) {ys : List Nat} (h : Sec ys) (t : TypeId) : Rb (w.alloc (.cells (vl ys).toArray t)) (some ⟨w.heap.size, 0, none⟩) 64 ys :=
  ⟨h.1, h.2, fun j hj => ⟨w.heap.size, 0, rfl, by
    have hh : (w.alloc (.cells (vl ys).toArray t)).heap[w.heap.size]? = _ := heap_alloc_new w _
    unfold World.cell?
    simp only [hh]
    rw [Nat.zero_add, List.getElem?_toArray, vl_get (by rw [h.1]; exact hj)]
    rfl⟩⟩

set_option maxRecDepth 100000 in
set_option maxHeartbeats 800000 in
theorem read_ok {w : World} {b d m n q : Nat} {dur : List Nat} {T : Nat → Option (List Nat)} (h : Pt w b d m n q dur T) (i : Nat) (hi : (i : Int) < (n : Int)) :
    Calls Tryz.prog 177 #[.pointer (some ⟨b, 0, none⟩), .int .i64 (i : Int)] w fun e w' => ∃ v, e = .returned (.tuple #[v, .int .i64 0]) ∧ Kp (fun _ => False) w w' ∧ Ow w' w.heap.size v (nowOf dur T i) ∧ Sec (nowOf dur T i) := by
  have H : Hid (Calls _ _ _ w _) := has_ok h i hi
  have c2 := h.c2
  have hn2 : (n : Int) ≤ 8192 := by have := h.n2; omega
  obtain ⟨D, hown, hDD⟩ := h.mp
  have HSe : Hid (∀ w', Kp (fun _ => False) w w' → Calls _ _ _ w' _) := fun w' k' => sector_ok (h.keep k' id id id) i hi
  have HCl : Hid (∀ w' p c xs, Rb w' p 64 xs → Calls _ _ _ w' _) := fun w' p c xs hr => clone_any p 64 c xs w' hr (show 64 ≤ 140737488355328 by omega)
  have hin : i < n := by omega
  cases hT : T i with
  | none =>
    have hh := (hDD.1 i hin).1 hT
    have HN : Hid (nowOf dur T i = (dur.drop (i * 64)).take 64) := by show _ = _; unfold nowOf; rw [hT]; rfl
    have HSc : Hid (Sec ((dur.drop (i * 64)).take 64)) := h.durSec hin
    have HDr : Hid (∀ w', Kp (fun _ => False) w w' → Rb w' (some ⟨d, i * 64, none⟩) 64 ((dur.drop (i * 64)).take 64)) := fun w' k' => (h.durRb hin).keep0 k'
    clear hDD hT h hin
    go_enter Tryz.func177, Tryz.ntmps177
    go_wp2_with (first
      | (go_at_call 212; refine H.out.mono ?_; rintro e w' ⟨rfl, rfl⟩)
      | (at_lookup; go_must (refine wpList_lookup_sec rfl _ _ rfl m q D rfl hown _ _ rfl (ik_key i (by omega)) ?_); intro ys hys hat)
      | (refine wpList_store_sec rfl _ _ rfl _ rfl ys hys rfl rfl ?_)
      | (go_at_call 54; refine (HSe.out _ (by exact (Kp.refl _ _).alloc _)).mono ?_; rintro e w2 ⟨rfl, hw2⟩; obtain rfl := hw2.symm)
      | (go_at_call 51; refine (HCl.out _ _ _ _ (by exact HDr.out _ ((Kp.refl _ _).alloc _))).mono ?_; rintro e w3 ⟨v3, rfl, k3, o3⟩))
    go_ret2
    rw [HN.out]
    exact ⟨v3, rfl, ((Kp.refl _ _).alloc _).trans k3 (fun _ _ e => e), ownsRow_base o3 (by simp), HSc.out⟩
  | some xs =>
    obtain ⟨hsx, hh, hax⟩ := (hDD.1 i hin).2 xs hT
    have HN : Hid (nowOf dur T i = xs) := by show _ = _; unfold nowOf; rw [hT]; rfl
    have hax' := hax (.held (List.replicate 64 0))
    have HSx : Hid (Sec xs) := hsx
    clear hDD hT h hin hax HSe hsx
    go_enter Tryz.func177, Tryz.ntmps177
    go_wp2_with (first
      | (go_at_call 212; refine H.out.mono ?_; rintro e w' ⟨rfl, rfl⟩)
      | (at_lookup; go_must (refine wpList_lookup_sec rfl _ _ rfl m q D rfl hown _ _ rfl (ik_key i (by omega)) ?_); intro ys hys hat)
      | (refine wpList_store_sec rfl _ _ rfl _ rfl ys hys rfl rfl ?_)
      | (go_at_call 51; refine (HCl.out _ _ _ _ (by exact sec_new_rb _ hys _)).mono ?_; rintro e w3 ⟨v3, rfl, k3, o3⟩))
    go_ret2
    have hyx : ys = xs := by rw [hax'] at hat; injection hat with hat; exact hat.symm
    rw [HN.out, ← hyx]
    exact ⟨v3, rfl, ((Kp.refl _ _).alloc _).trans k3 (fun _ _ e => e), ownsRow_base o3 (by simp), hys⟩
end Go.Proofs.YtippipeebkkghaaGreatDoor
