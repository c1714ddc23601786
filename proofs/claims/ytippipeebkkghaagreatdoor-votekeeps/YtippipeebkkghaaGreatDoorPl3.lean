/- The walk of a plate's Sync. -/
import Derived.Test.YtippipeebkkghaaGreatDoorPl2
import Derived.Laws.CopyOwn
namespace Go.Proofs.YtippipeebkkghaaGreatDoor
open Go.RowKit Go.Deep Go.Maps

/-- a sector is copied into a row, at an offset -/
theorem wpList_copy_sec {w : World} {ops : Array Oper} {rest : List Oper} {o : Oper} {a : Act} {Q : Exit → Act → World → Prop} (hgd : o.guard = none) (dd s : Operand)
    (ho : o.op = .call { callee := .builtin .copy, args := #[dd, s], argTypes := #[75, 75] }) (d off dc br ob sc sl k : Nat) (hk : k = Nat.min sl 64) (hd : a.eval dd = .slice (some ⟨d, off, none⟩) 64 dc) (hs : a.eval s = .slice (some ⟨br, ob, none⟩) sl sc)
    (m : Nat) (f : Nat → Value) (hg : w.rowIs d 5 m f) (hm : off + 64 ≤ m) (ys : List Nat) (hr : Rb w (some ⟨br, ob, none⟩) k ys)
    (h : ∀ w', Kp (fun b => b = d) w w' → w'.heap.size = w.heap.size → w'.rowIs d 5 m (fun j => if off ≤ j ∧ j < off + k then .int .u8 ((ys.getD (j - off) 0 : Nat) : Int) else f j) → wpList Tryz.prog ops Q rest (a.put o.dst (goInt k)) w') : wpList Tryz.prog ops Q (o :: rest) a w := by
  obtain ⟨cur, hc, hcs, hcv⟩ := hg
  have hl : (vl ys).length = k := by rw [vl_length, hr.len]
  have hk64 : k ≤ 64 := by rw [hk]; exact Nat.min_le_right _ _
  have := wpList_copy_own (P := Tryz.prog) (w := w) (ops := ops) (rest := rest) (o := o) (a := a) (Q := Q) hgd dd s 75 75 ho 5 Tryz.underlying75 (by kernel_rfl) d off 64 dc ⟨br, ob, none⟩ sl sc hd hs cur 5 hc (vl ys)
    (by rw [hl]; exact hk) (fun j v hj => by
      rw [Addr.add_mid]
      exact rb_range hr j v hj) (by rw [hl]; omega) (vl_one ys)
  refine this ?_
  rw [hl]
  refine h _ ⟨rfl, rfl, rfl, by simp [World.setRow], fun x _ hne => setRow_other w d x _ hne⟩ (by simp [World.setRow]) ⟨_, setRow_heap w d cur _ 5 (0, 0) hc, ?_, fun i hi => ?_⟩
  · simp [hl]; omega
  · rw [List.getElem?_toArray]
    dsimp only
    have hto : (cur.toList.take off).length = off := by rw [List.length_take, Array.length_toList, hcs]; omega
    by_cases h0 : i < off
    · rw [List.getElem?_append_left (by rw [hto]; exact h0), List.getElem?_take_of_lt h0, Array.getElem?_toList, if_neg (by omega)]
      exact hcv i hi
    · rw [List.getElem?_append_right (by rw [hto]; omega), hto]
      by_cases h1 : i < off + k
      · rw [List.getElem?_append_left (by rw [hl]; omega), vl_get (by rw [hr.len]; omega), if_pos ⟨by omega, h1⟩]
      · rw [List.getElem?_append_right (by rw [hl]; omega), hl, List.getElem?_drop, Array.getElem?_toList, if_neg (by omega), show off + k + (i - off - k) = i from by omega]
        exact hcv i hi

/-- .. into a sector of a plate's durable bytes -/
theorem wpList_copy_dr {w : World} {ops : Array Oper} {rest : List Oper} {o : Oper} {a : Act} {Q : Exit → Act → World → Prop} (hgd : o.guard = none) (dd s : Operand)
    (ho : o.op = .call { callee := .builtin .copy, args := #[dd, s], argTypes := #[75, 75] }) (d i n dc br ob sc k : Nat) (hk : k ≤ 64) (hd : a.eval dd = .slice (some ⟨d, i * 64, none⟩) 64 dc) (hs : a.eval s = .slice (some ⟨br, ob, none⟩) k sc)
    (g : Nat → Nat) (hg : Dr w d n g) (hi : i < n) (ys : List Nat) (hr : Rb w (some ⟨br, ob, none⟩) k ys)
    (h : ∀ w', Kp (fun b => b = d) w w' → w'.heap.size = w.heap.size → Dr w' d n (fun j => if i * 64 ≤ j ∧ j < i * 64 + k then ys.getD (j - i * 64) 0 else g j) → wpList Tryz.prog ops Q rest (a.put o.dst (goInt k)) w') : wpList Tryz.prog ops Q (o :: rest) a w := by
  obtain ⟨cp, f, hcp, hrow⟩ := hg
  refine wpList_copy_sec hgd dd s ho d (i * 64) dc br ob sc k k (by have : Nat.min k 64 = min k 64 := rfl; rw [this]; omega) hd hs cp _ hrow (by omega) ys hr ?_
  intro w' k' hz r'
  refine h w' k' hz ⟨cp, f, hcp, r'.congr (fun j _ => ?_)⟩
  dsimp only
  by_cases h1 : i * 64 ≤ j ∧ j < i * 64 + k
  · rw [if_pos h1, if_pos (by omega), if_pos h1]
  · rw [if_neg h1, if_neg h1]

theorem byte_getD {xs : List Nat} (h : ∀ x ∈ xs, x < 256) (j : Nat) : xs.getD j 0 < 256 := by
  by_cases hj : j < xs.length
  · rw [List.getD_eq_getElem?_getD, List.getElem?_eq_getElem hj]; exact h _ (List.getElem_mem hj)
  · rw [List.getD_eq_getElem?_getD, List.getElem?_eq_none (by omega)]; decide
/-- what is durable behind a Sync of which the sectors that left says are still to come -/
def Sf (dur : List Nat) (T : Nat → Option (List Nat)) (left : Lit → Bool) (j : Nat) : Nat :=
  match T (j / 64) with
  | some xs => if left (ik (j / 64)) then dur.getD j 0 else xs.getD (j % 64) 0
  | none => dur.getD j 0
theorem Sf_start {dur : List Nat} {T : Nat → Option (List Nat)} {left : Lit → Bool} (h : ∀ i xs, T i = some xs → left (ik i) = true) (j : Nat) : Sf dur T left j = dur.getD j 0 := by
  unfold Sf
  split
  · rename_i xs hx; rw [h _ xs hx, if_pos rfl]
  · rfl
theorem ik_same (i j : Nat) : (ik i).sameKey (ik j) = decide (i = j) := by
  by_cases e : i = j
  · subst e; simp [Lit.sameKey]
  · rw [sameKey_ne (fun h => e (ik_inj h)), decide_eq_false e]
theorem Sf_step {dur : List Nat} {T : Nat → Option (List Nat)} {left : Lit → Bool} {i : Nat} {xs : List Nat} (hi : T i = some xs) (j : Nat) :
    (if i * 64 ≤ j ∧ j < i * 64 + 64 then xs.getD (j - i * 64) 0 else Sf dur T left j) = Sf dur T (fun z => left z && !z.sameKey (ik i)) j := by
  by_cases h : i * 64 ≤ j ∧ j < i * 64 + 64
  · rw [if_pos h]
    have e1 : j / 64 = i := by omega
    have e2 : j % 64 = j - i * 64 := by omega
    unfold Sf
    rw [e1, hi]
    simp [Lit.sameKey, e2]
  · rw [if_neg h]
    have e1 : j / 64 ≠ i := by omega
    have e3 : (left (ik (j / 64)) && !(ik (j / 64)).sameKey (ik i)) = left (ik (j / 64)) := by rw [ik_same, decide_eq_false e1]; simp
    unfold Sf
    cases T (j / 64) with
    | none => rfl
    | some xs => simp only [e3]

/-- the next entry of a map of sectors -/
theorem wpList_next_sec {ops : Array Oper} {rest : List Oper} {o : Oper} {a : Act} {w : World} {Q : Exit → Act → World → Prop} (hg : o.guard = none) (it : Operand) (hop : o.op = Op.next it false) (m r q : Nat) (D : DataW (List Nat)) (left : Lit → Bool) (cnt : Nat)
    (hit : a.eval it = .pointer (some ⟨r, 0, none⟩)) (h : w.ranges Tryz.prog 3 secR m r q D left cnt)
    (hDone : cnt = 0 → (∀ kl, left kl = false) → wpList Tryz.prog ops Q rest (a.put o.dst (.tuple #[.bool false])) w)
    (hMore : ∀ (x : Int) (ys : List Nat) (w' : World) (cnt' : Nat), Sec ys → left (.int .i64 x) = true → (∀ zd, D.atKey (.int .i64 x) zd = .held ys) → w'.ranges Tryz.prog 3 secR m r q D (fun z => left z && !z.sameKey (.int .i64 x)) cnt' → cnt' < cnt →
      w.grownBy w' (some r) → w'.heap.size = w.heap.size → (Instr.entry (.pointer (some ⟨r, 0, none⟩))).run Tryz.prog w' = .ok (.tuple #[.int .i64 x, secV ys]) w' → wpList Tryz.prog ops Q rest (a.put o.dst (.tuple #[.bool true, .int .i64 x, secV ys])) w') :
    wpList Tryz.prog ops Q (o :: rest) a w := by
  refine wpList_next_ranges w hg it hop 3 keyLaw secR (Value.int .i64) secV (fun key kl hkey => by obtain ⟨x, rfl, _⟩ := Maps.keyOf_int_inv Tryz.underlying3 hkey; exact ⟨x, rfl⟩) (fun v y hv => by obtain ⟨c, _, rfl, _⟩ := secR_inv hv; exact ⟨c, rfl⟩)
    m r q D left cnt hit h hDone (fun x c kl y w' cnt' hkey hlk hv hat hrg hlt hgr hsz hen => ?_)
  obtain ⟨x', ex, rfl, hwx⟩ := Maps.keyOf_int_inv Tryz.underlying3 hkey
  cases ex
  obtain ⟨c', hs, ec, rfl⟩ := secR_inv hv
  obtain rfl := secV_inj ec
  exact hMore x c w' cnt' hs hlk hat hrg hlt hgr hsz hen
theorem ranges_keep {S : Nat → Prop} {w w' : World} {m r q : Nat} {D : DataW (List Nat)} {left : Lit → Bool} {cnt : Nat} (h : w.ranges Tryz.prog 3 secR m r q D left cnt) (k : Kp S w w') (hm : ¬ S m) (hr : ¬ S r) : w'.ranges Tryz.prog 3 secR m r q D left cnt := by
  have h1 := h.owns.lt
  have h2 := h.lt
  obtain ⟨es, clock, since, seen, c0, hb, a1, a2, a3, hi, rest⟩ := h
  exact ⟨es, clock, since, seen, c0, (k.block m h1 hm).trans hb, a1, a2, a3, (k.block r h2 hr).trans hi, rest⟩

set_option maxRecDepth 100000 in
set_option maxHeartbeats 400000 in
theorem sector_c {w : World} {b d n cp : Nat} (hcp : n * 64 ≤ cp) (c1 : w.cell? ⟨b, 1, none⟩ = some (.slice (some ⟨d, 0, none⟩) (n * 64) cp)) (hn2 : (n : Int) ≤ 8192) (i : Nat) (hi : (i : Int) < (n : Int)) :
    Calls Tryz.prog 54 #[.pointer (some ⟨b, 0, none⟩), .int .i64 (i : Int)] w fun e w' => e = .returned (.slice (some ⟨d, i * 64, none⟩) 64 64) ∧ w' = w := by
  have s1 := slice3 d (n * 64) cp (i * 64) (i * 64 + 64) (by omega) (by omega)
  rw [show i * 64 + 64 - i * 64 = 64 from by omega, show ((i * 64 + 64 : Nat) : Int) = ((i : Int) + 1) * 64 from by omega, show ((i * 64 : Nat) : Int) = (i : Int) * 64 from by omega] at s1
  go_enter Tryz.func54, Tryz.ntmps54
  go_wp2
  go_ret
  exact ⟨rfl, rfl⟩

/-- a map is cleared -/
theorem wpList_clear_map {ops : Array Oper} {rest : List Oper} {o : Oper} {a : Act} {w : World} {Q : Exit → Act → World → Prop} (hg : o.guard = none) (x : Operand) (hop : o.op = .call { callee := .builtin .clear, args := #[x], argTypes := #[81] }) (m q : Nat) (D : DataW (List Nat))
    (hx : a.eval x = .map (some m)) (hown : w.ownsMap Tryz.prog 3 secR m q D)
    (hK : ∀ w', w'.ownsMap Tryz.prog 3 secR m 0 (.map []) → Kp (fun b => b = m) w w' → wpList Tryz.prog ops Q rest (a.put o.dst (.tuple #[])) w') : wpList Tryz.prog ops Q (o :: rest) a w := by
  obtain ⟨es, clock, hb, _⟩ := hown
  refine wpList_plain hg fun K' hK' => ?_
  unfold Oper.wp
  simp [execOp, hop, resolve, invoke, builtin, hx, Builtin.clear_, run_underlying Tryz.underlying81, getObj, setObj, Sem.run, hb, Result.andThen]
  have hlt : m < w.heap.size := (Array.getElem?_eq_some_iff.1 hb).1
  refine hK' _ _ (hK _ ⟨#[], clock, ?_, ⟨by simp, MapKept.stamped_empty clock, by simp⟩, Nat.le_refl _, rfl⟩ ⟨rfl, rfl, rfl, by simp, fun x hx hne => ?_⟩)
  · simp [hlt]
  · rw [Array.getElem?_setIfInBounds, if_neg (fun e => hne e.symm)]
/-- the durable bytes behind a Sync -/
def durAll (dur : List Nat) (T : Nat → Option (List Nat)) (n : Nat) : List Nat := (List.range (n * 64)).map (Sf dur T (fun _ => false))

set_option maxRecDepth 100000 in
set_option maxHeartbeats 1600000 in
theorem sync_ok {w : World} {b d m n q : Nat} {dur : List Nat} {T : Nat → Option (List Nat)} (h : Pt w b d m n q dur T) :
    Calls Tryz.prog 124 #[.pointer (some ⟨b, 0, none⟩)] w fun e w' => e = .returned (.int .i64 0) ∧ Kp (fun x => x = d ∨ x = m) w w' ∧ Pt w' b d m n 0 (durAll dur T n) (fun _ => none) := by
  have H : Hid (Calls _ _ _ w _) := state_ok h
  have c2 := h.c2
  have hn2 : (n : Int) ≤ 8192 := by have := h.n2; omega
  obtain ⟨D, hown, hDD⟩ := h.mp
  have HDD : Hid _ := hDD
  have HP : Hid (Pt w b d m n q dur T) := h
  clear hDD h
  go_enter Tryz.func124, Tryz.ntmps124
  go_wp2_with (first
    | (go_at_call 25; refine H.out.mono ?_; rintro e w' ⟨rfl, rfl⟩)
    | (at_range; refine wpList_range_own _ rfl _ 81 rfl 3 88 keyLaw Tryz.underlying81 secR m q D rfl hown ?_; intro w0 hrg0 hg0 hs0))
  go_frame
  have kp0 := grownBy_kp hg0
  have hd0 : d < w'.heap.size := HP.out.row.lt
  have hLt0 := HP.out.lt
  obtain ⟨cp, hcp, cc1⟩ := HP.out.c1
  have HC1 : Hid (w'.cell? ⟨b, 1, none⟩ = some (.slice (some ⟨d, 0, none⟩) (n * 64) cp)) := cc1
  clear cc1
  have HR0 : Hid (Dr w0 d n (fun j => Sf dur T (Maps.has D) j)) := (HP.out.row.keep kp0 (by simp)).congr (fun j hj => by
    rw [Sf_start (fun i xs hx => ?_)]
    by_cases hi : i < n
    · exact ((HDD.out.1 i hi).2 xs hx).2.1
    · rw [HDD.out.2.2 i (by omega)] at hx; cases hx)
  have HK0 : Hid (Kp (fun x => x = d) w' w0) := kp0.mono (fun _ _ e => by simp at e)
  go_loopg [4] (Maps.size D) (fun gk _ wr => ∃ left, wr.ranges Tryz.prog 3 secR m w'.heap.size q D left gk ∧ Kp (fun x => x = d) w' wr ∧ Hid (Dr wr d n (fun j => Sf dur T left j)))
  case atStart => exact ⟨_, hrg0, HK0.out, HR0.out⟩
  case round =>
    obtain ⟨left, hrg, hK, hrow⟩ := hrel
    clear HR0 HK0 hrg0 hg0 kp0
    go_wp2_with (at_next; refine wpList_next_sec rfl _ rfl m w'.heap.size q D left _ rfl hrg ?_ ?_)
    · intro hc0 hl0
      have c2w := hK.cellv c2 HP.out.bd
      have hownw := hrg.owns
      have HRw : Hid (Dr wr d n (fun j => (durAll dur T n).getD j 0)) := hrow.out.congr (fun j hj => by
        have e : left = fun _ => false := funext hl0
        rw [e]
        unfold durAll
        rw [List.getD_eq_getElem?_getD, List.getElem?_map, List.getElem?_range hj]; rfl)
      clear hrow hrg hc0 hl0
      go_wp2_with (refine wpList_clear_map rfl _ rfl m q D rfl hownw ?_; intro w2 hown2 k2)
      go_ret
      refine ⟨rfl, ?_, ?_⟩
      · exact (hK.mono (S' := fun x => x = d ∨ x = m) (fun _ _ e => Or.inl e)).trans k2 (fun _ _ e => Or.inr e)
      · have h0 := HP.out
        have kc : Kp (fun x => x = d ∨ x = m) w' w2 := (hK.mono (S' := fun x => x = d ∨ x = m) (fun _ _ e => Or.inl e)).trans k2 (fun _ _ e => Or.inr e)
        have hb : ¬ (b = d ∨ b = m) := fun e => e.elim h0.bd h0.bm
        refine ⟨kc.cellv h0.c0 hb, ⟨cp, hcp, kc.cellv HC1.out hb⟩, kc.cellv h0.c2 hb, kc.cellv h0.c3 hb, fun j => by rw [World.frozen?_of_block (w := w') (kc.block b h0.lt hb)]; exact h0.fz j, HRw.out.keep k2 h0.dm, by simp [durAll], ?_, ?_, h0.bd, h0.bm, h0.dm, h0.n1, h0.n2⟩
        · intro x hx
          unfold durAll at hx
          obtain ⟨j, hj, rfl⟩ := List.mem_map.1 hx
          have hj' : j < n * 64 := List.mem_range.1 hj
          unfold Sf
          split
          · rename_i xs hxs
            have hs := ((HDD.out.1 (j / 64) (by omega)).2 xs hxs).1
            simp only [Bool.false_eq_true, if_false]
            exact byte_getD hs.2 _
          · exact byte_getD h0.byte _
        · exact ⟨_, hown2, fun i _ => ⟨fun _ => rfl, fun xs h => (by cases h)⟩, fun kl h => (by cases h), fun _ _ => rfl⟩
    · intro x ys w1 cnt1 hys hlx hat hrg1 hlt hg1 hs1 hen
      obtain ⟨i, hi, hix⟩ := HDD.out.2.1 _ (has_true_of_atKey hat)
      have hxi : x = (i : Int) := by injection hix with _ hix
      subst hxi
      have hTi : T i = some ys := by
        cases hT : T i with
        | none => have := (HDD.out.1 i hi).1 hT; rw [has_true_of_atKey hat] at this; cases this
        | some xs =>
          have e1 := ((HDD.out.1 i hi).2 xs hT).2.2 .nil
          rw [hat .nil] at e1
          injection e1 with e1
          rw [e1]
      have k1 := grownBy_kp hg1
      have hr0 : w'.heap.size ≠ d := by omega
      have hK1 : Kp (fun x => x = d) w' w1 := hK.trans k1 (fun bb hb e => by have := Option.some.inj e; omega)
      have hrow1 := hrow.out.keep k1 (fun e => hr0 (Option.some.inj e))
      have hin : (i : Int) < (n : Int) := by omega
      have HS1 : Hid (w1.heap.size = wr.heap.size) := hs1
      have hwz : w'.heap.size < w1.heap.size := hrg1.lt
      clear hrow hrg hlx hs1
      go_wp2_with (refine wpList_store_sec rfl _ _ rfl _ rfl ys hys rfl rfl ?_)
      obtain ⟨w2, hw2⟩ : ∃ x, x = w1.alloc (.cells (vl ys).toArray 88) := ⟨_, rfl⟩
      rw [← hw2]
      have hrs := sec_new_rb w1 hys 88
      rw [← hw2] at hrs
      have k2 : Kp (fun _ => False) w1 w2 := by rw [hw2]; exact (Kp.refl _ _).alloc _
      refine wp_region_still_tail 4 (by kernel_rfl) (by kernel_rfl) ?_
      obtain ⟨wd, hwd⟩ : ∃ x : World, x = { w2 with drawn := w2.drawn + 1 } := ⟨_, rfl⟩
      have kd : Kp (fun _ => False) w2 wd := by rw [hwd]; exact (Kp.refl _ _).drew
      rw [← hwd]
      have k1d := k2.trans kd (fun _ _ e => e)
      have c1d := k1d.cellv (hK1.cellv HC1.out HP.out.bd) id
      have HSc : Hid (Calls _ _ _ wd _) := sector_c hcp c1d hn2 i hin
      have hrowd := hrow1.keep k1d id
      have hrsd := hrs.keep0 kd
      have Hrest : Hid (∀ w3, Kp (fun b => b = d) wd w3 → Dr w3 d n (fun j => if i * 64 ≤ j ∧ j < i * 64 + 64 then ys.getD (j - i * 64) 0 else Sf dur T left j) →
          ∃ left, w3.ranges Tryz.prog 3 secR m w'.heap.size q D left cnt1 ∧ Kp (fun x => x = d) w' w3 ∧ Hid (Dr w3 d n (fun j => Sf dur T left j))) := fun w3 k3 r3 =>
        ⟨_, ranges_keep (ranges_keep hrg1 k1d id id) k3 (fun e => HP.out.dm e.symm) hr0, (hK1.trans k1d (fun _ _ e => e.elim)).trans k3 (fun _ _ e => e), r3.congr (fun j _ => Sf_step hTi j)⟩
      clear hwd hw2 hrow1 hrs hrg1 hat hix HDD HS1 hen hys
      simp only [List.take_succ_cons, List.take_zero, List.drop_succ_cons, List.drop_zero]
      iterate 2 still_step
      still_call HSc.out
      still_step
      refine wpStill_nil ?_
      refine wpList_copy_dr rfl _ _ rfl d i n 64 w1.heap.size 0 64 64 (Nat.le_refl _) rfl rfl _ hrowd hi ys hrsd ?_
      intro w3 k3 hz3 r3
      have HR := Hrest.out w3 k3 r3
      clear Hrest hrowd hrsd r3 HSc c1d
      go_wp2
      go_roundg cnt1
      case rel => exact HR
      case measure => omega
end Go.Proofs.YtippipeebkkghaaGreatDoor
