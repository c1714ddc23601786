/- Who accepted; what is chosen; what was proposed. -/
import Derived.Test.YtjpdbhkggcojaaaEh
namespace Go.Proofs.Ytjpdbhkggcojaaa
set_option linter.unusedVariables false
open Go.RowKit Go.Deep Go.Maps

theorem pc_set (x : Pq) (nv : Value) (hp : x.acc.length = 16) (k : Nat) (hk : k < 16) : (pcell x nv).take (12 + k) ++ [.bool true] ++ (pcell x nv).drop (12 + k + 1) = pcell ⟨x.c, x.nodes, x.acc.set k true⟩ nv := by
  have hl : 12 + k < (pcell x nv).length := by rw [pc_len x nv hp]; omega
  have hset := List.set_eq_take_append_cons_drop (l := pcell x nv) (i := 12 + k) (a := Value.bool true)
  rw [if_pos hl] at hset
  rw [List.append_assoc, List.singleton_append, ← hset]
  show ((cmdA x.c nv).toList ++ bools x.acc).set (12 + k) (.bool true) = (cmdA x.c nv).toList ++ bools (x.acc.set k true)
  rw [List.set_append_right _ _ (by simp)]
  rw [show bools (x.acc.set k true) = (bools x.acc).set k (.bool true) from List.map_set]
  have : 12 + k - (cmdA x.c nv).toList.length = k := by simp
  rw [this]
theorem pc_at (x : Pq) (nv : Value) (hp : x.acc.length = 16) (k : Nat) (hk : k < 16) : (pcell x nv)[12 + k]? = some (.bool (hasN x.acc k)) := by
  show ((cmdA x.c nv).toList ++ bools x.acc)[12 + k]? = _
  rw [List.getElem?_append_right (by simp)]
  have : 12 + k - (cmdA x.c nv).toList.length = k := by simp
  rw [this, List.getElem?_map, List.getElem?_eq_getElem (by omega)]
  unfold hasN
  rw [decide_eq_true (by omega), Int.toNat_natCast, List.getD_eq_getElem?_getD, List.getElem?_eq_getElem (by omega)]
  rfl
theorem field_acc : ∀ (x : Pq) (nv : Value) (hp : x.acc.length = 16) (w : World), (Instr.field 77 (.agg (pcell x nv).toArray) 1).run Try.prog w = .ok (.agg (bools x.acc).toArray) w
  | ⟨c, zs, [a0, a1, a2, a3, a4, a5, a6, a7, a8, a9, a10, a11, a12, a13, a14, a15]⟩, nv, _, w => by kernel_rfl
theorem pc_acc (x : Pq) (nv : Value) (hp : x.acc.length = 16) : ((pcell x nv).drop 12).take 16 = bools x.acc := by
  show (((cmdA x.c nv).toList ++ bools x.acc).drop 12).take 16 = _
  rw [List.drop_append, List.drop_of_length_le (by simp), List.nil_append]
  have : 12 - (cmdA x.c nv).toList.length = 0 := by simp
  rw [this, List.drop_zero, List.take_of_length_le (by simp [hp])]

set_option maxRecDepth 100000 in
set_option maxHeartbeats 4000000 in
theorem taccepted_arg {w : World} {t mb mp qb qp cb cp : Nat} {bal frm nxt : Int} {pr : List Bool} {B : Int → Option (Vo × Value)} {O : Int → Option (Pq × Value)} (h : Tr w t mb mp qb qp cb cp bal frm nxt pr B O) (n z : Int) (hz : -9223372036854775808 ≤ z ∧ z ≤ 9223372036854775807) (hno : ¬ (0 ≤ n ∧ n < 16) ∨ O z = none) :
    Calls Try.prog 15 #[.pointer (some ⟨t, 0, none⟩), .int .i64 n, .int .i64 z] w fun e w' => e = .returned (.int .i64 1) ∧ Kp (fun _ => False) w w' := by
  have HI : Hid (∀ u, Calls _ _ _ u _) := isNode_ok n
  have HM : Hid (∀ u, Kp (fun _ => False) w u → Calls _ _ _ u _) := fun u k => tmade_ok (h.keep k)
  have HT : Hid (Tr w t mb mp qb qp cb cp bal frm nxt pr B O) := h
  have HZ : Hid (-9223372036854775808 ≤ z ∧ z ≤ 9223372036854775807) := hz
  obtain ⟨y, hy⟩ : ∃ y, y = (O z).getD (pq0, nil0) := ⟨_, rfl⟩
  obtain ⟨ok, hok⟩ : ∃ ok, ok = (O z).isSome := ⟨_, rfl⟩
  have HNy : Hid (Ni w (Zt t mb mp) y.1.nodes y.2 ∧ y.1.acc.length = 16) := by rw [hy]; exact getO h z
  have HLk : Hid (∀ u, Kp (fun _ => False) w u → (Instr.lookup 63 (.map (some mp)) (.int .i64 z) true).run Try.prog u = .ok (.tuple #[.agg (pcell y.1 y.2).toArray, .bool ok]) u) := fun u k => by
    have := look_mm_ok uProp zProp (h.keep k).o z (z_wf hz)
    rw [pget, psome, ← hy, ← hok] at this
    exact this
  have HO2 : Hid ((pcell y.1 y.2).toArray.all (·.oneCell') = true) := pc_one y.1 (by obtain ⟨_, _, e, _⟩ := HNy.out.1; rw [e]; rfl)
  obtain ⟨xs, hxs⟩ : ∃ xs : List Value, xs = pcell y.1 y.2 := ⟨_, rfl⟩
  have HXS : Hid (xs = pcell y.1 y.2 ∧ xs.length = 28) := ⟨hxs, by rw [hxs]; exact pc_len _ _ HNy.out.2⟩
  rw [← hxs] at HLk HO2
  obtain ⟨xa, hxa⟩ : ∃ xa : Array Value, xa = xs.toArray := ⟨_, rfl⟩
  have HXA : Hid (xa = xs.toArray) := hxa
  rw [← hxa] at HLk HO2
  have c20 := h.c20
  have hlk := HLk.out w (Kp.refl _ _)
  have H1 : Hid (Calls _ _ _ w _) := HM.out w (Kp.refl _ _)
  by_cases hn : 0 ≤ n ∧ n < 16
  · have hO : O z = none := by rcases hno with h1 | h1; exact absurd hn h1; exact h1
    have hokt : ok = false := by rw [hok, hO]; rfl
    rw [hokt] at hlk
    rw [decide_eq_true hn.1, decide_eq_true hn.2] at HI
    clear h hy hok hxs hxa hno hn hO hokt HM HLk
    go_enter Try.func15, Try.ntmps15
    go_wp2_with (first
      | (go_at_call 33; refine H1.out.mono ?_; rintro e w' ⟨rfl, hw'⟩; obtain rfl := hw'.symm; clear hw')
      | (refine wpList_store_all rfl 77 _ _ rfl 28 w.heap.size (pcell pq0 nil0) xa.toList rfl (by rw [Array.toArray_toList]; rfl) (by exact Lv.new w _ _) szPq rfl (by rw [HXA.out]; exact HXS.out.2) (by rw [Array.toArray_toList]; exact HO2.out) ?_; intro u2 hl2 k2; have k02 : Kp (fun _ => False) w u2 := ((Kp.refl (fun _ => False) w).alloc _).trans k2 (fun b hb e => by omega); have HL2 : Hid (Lv u2 w.heap.size xs) := (by rw [HXA.out] at hl2; exact hl2); clear hl2 k2)
      | (go_at_call 34; refine (HI.out _).mono ?_; rintro e w' ⟨rfl, hw'⟩; obtain rfl := hw'.symm; clear hw'))
    go_ret
    exact ⟨rfl, k02⟩
  · have e0 : (decide (0 ≤ n) && decide (n < 16)) = false := by
      by_cases h0 : 0 ≤ n
      · rw [decide_eq_false (p := n < 16) (by omega), Bool.and_false]
      · rw [decide_eq_false h0]; rfl
    rw [e0] at HI
    clear h hy hok hxs hxa hno hn e0 HM HLk
    go_enter Try.func15, Try.ntmps15
    go_wp2_with (first
      | (go_at_call 33; refine H1.out.mono ?_; rintro e w' ⟨rfl, hw'⟩; obtain rfl := hw'.symm; clear hw')
      | (refine wpList_store_all rfl 77 _ _ rfl 28 w.heap.size (pcell pq0 nil0) xa.toList rfl (by rw [Array.toArray_toList]; rfl) (by exact Lv.new w _ _) szPq rfl (by rw [HXA.out]; exact HXS.out.2) (by rw [Array.toArray_toList]; exact HO2.out) ?_; intro u2 hl2 k2; have k02 : Kp (fun _ => False) w u2 := ((Kp.refl (fun _ => False) w).alloc _).trans k2 (fun b hb e => by omega); have HL2 : Hid (Lv u2 w.heap.size xs) := (by rw [HXA.out] at hl2; exact hl2); clear hl2 k2)
      | (go_at_call 34; refine (HI.out _).mono ?_; rintro e w' ⟨rfl, hw'⟩; obtain rfl := hw'.symm; clear hw'))
    go_ret
    exact ⟨rfl, k02⟩

set_option maxRecDepth 100000 in
set_option maxHeartbeats 4000000 in
theorem taccepted_ok {w : World} {t mb mp qb qp cb cp : Nat} {bal frm nxt : Int} {pr : List Bool} {B : Int → Option (Vo × Value)} {O : Int → Option (Pq × Value)} (h : Tr w t mb mp qb qp cb cp bal frm nxt pr B O) (n : Nat) (hn : n < 16) (z : Int) (hz : -9223372036854775808 ≤ z ∧ z ≤ 9223372036854775807) (x : Pq × Value) (hx : O z = some x) (hq : qp < 4611686018427387904) :
    Calls Try.prog 15 #[.pointer (some ⟨t, 0, none⟩), .int .i64 (n : Int), .int .i64 z] w fun e w' => e = .returned (.int .i64 0) ∧ Kp (fun b => b = mp) w w' ∧ Tr w' t mb mp qb (qp + 1) cb cp bal frm nxt pr B (updO O z (⟨x.1.c, x.1.nodes, x.1.acc.set n true⟩, x.2)) := by
  have HI : Hid (∀ u, Calls _ _ _ u _) := isNode_ok (n : Int)
  have HM : Hid (∀ u, Kp (fun _ => False) w u → Calls _ _ _ u _) := fun u k => tmade_ok (h.keep k)
  have HT : Hid (Tr w t mb mp qb qp cb cp bal frm nxt pr B O) := h
  have HZ : Hid (-9223372036854775808 ≤ z ∧ z ≤ 9223372036854775807) := hz
  obtain ⟨y, hy⟩ : ∃ y, y = (O z).getD (pq0, nil0) := ⟨_, rfl⟩
  obtain ⟨ok, hok⟩ : ∃ ok, ok = (O z).isSome := ⟨_, rfl⟩
  have HNy : Hid (Ni w (Zt t mb mp) y.1.nodes y.2 ∧ y.1.acc.length = 16) := by rw [hy]; exact getO h z
  have HLk : Hid (∀ u, Kp (fun _ => False) w u → (Instr.lookup 63 (.map (some mp)) (.int .i64 z) true).run Try.prog u = .ok (.tuple #[.agg (pcell y.1 y.2).toArray, .bool ok]) u) := fun u k => by
    have := look_mm_ok uProp zProp (h.keep k).o z (z_wf hz)
    rw [pget, psome, ← hy, ← hok] at this
    exact this
  have HO2 : Hid ((pcell y.1 y.2).toArray.all (·.oneCell') = true) := pc_one y.1 (by obtain ⟨_, _, e, _⟩ := HNy.out.1; rw [e]; rfl)
  obtain ⟨xs, hxs⟩ : ∃ xs : List Value, xs = pcell y.1 y.2 := ⟨_, rfl⟩
  have HXS : Hid (xs = pcell y.1 y.2 ∧ xs.length = 28) := ⟨hxs, by rw [hxs]; exact pc_len _ _ HNy.out.2⟩
  rw [← hxs] at HLk HO2
  obtain ⟨xa, hxa⟩ : ∃ xa : Array Value, xa = xs.toArray := ⟨_, rfl⟩
  have HXA : Hid (xa = xs.toArray) := hxa
  rw [← hxa] at HLk HO2
  have hyx : y = x := by rw [hy, hx]; rfl
  have hokt : ok = true := by rw [hok, hx]; rfl
  rw [hokt] at HLk
  rw [← hyx] at hx ⊢
  have HX : Hid (O z = some y) := hx
  have HQ : Hid (qp < 4611686018427387904) := hq
  have c20 := h.c20
  have hlk := HLk.out w (Kp.refl _ _)
  have H1 : Hid (Calls _ _ _ w _) := HM.out w (Kp.refl _ _)
  rw [decide_eq_true (show (0 : Int) ≤ n by omega), decide_eq_true (show (n : Int) < 16 by omega)] at HI
  have hn16 : (n : Int) < 16 := by omega
  have HG : Hid (t < w.heap.size ∧ mb < w.heap.size ∧ mp < w.heap.size) := h.lt
  have HSt : Hid (∀ u g, Lv u g xs → Lv (u.setCell ⟨g, 12 + n, none⟩ (.bool true)) g (pcell ⟨y.1.c, y.1.nodes, y.1.acc.set n true⟩ y.2)) := fun u g hu => by
    rw [hxs] at hu
    have := hu.set1 (12 + n) (.bool true) (by rw [pc_len _ _ HNy.out.2]; omega)
    rwa [pc_set _ _ HNy.out.2 n hn] at this
  have HCt : Hid (∀ u g, Lv u g xs → u.cell? ⟨g, 12 + n, none⟩ = some (.bool (hasN y.1.acc n)) ∧ u.frozen? ⟨g, 12 + n, none⟩ = false) := fun u g hu => by
    rw [hxs] at hu
    exact ⟨by rw [hu.cell (pc_at _ _ HNy.out.2 n hn)], hu.fz (by rw [pc_len _ _ HNy.out.2]; omega)⟩
  clear h hy hok hxs hxa hx hokt hyx hn hq HM HLk
  go_enter Try.func15, Try.ntmps15
  go_wp2_with (first
    | (go_at_call 33; refine H1.out.mono ?_; rintro e w' ⟨rfl, hw'⟩; obtain rfl := hw'.symm; clear hw')
    | (refine wpList_store_all rfl 77 _ _ rfl 28 w.heap.size (pcell pq0 nil0) xa.toList rfl (by rw [Array.toArray_toList]; rfl) (by exact Lv.new w _ _) szPq rfl (by rw [HXA.out]; exact HXS.out.2) (by rw [Array.toArray_toList]; exact HO2.out) ?_; intro u2 hl2 k2; have k02 : Kp (fun _ => False) w u2 := ((Kp.refl (fun _ => False) w).alloc _).trans k2 (fun b hb e => by omega); have HL2 : Hid (Lv u2 w.heap.size xs) := (by rw [HXA.out] at hl2; exact hl2); clear hl2 k2; have ca := (HCt.out _ _ HL2.out).1; have cf := (HCt.out _ _ HL2.out).2)
    | (go_at_call 34; refine (HI.out _).mono ?_; rintro e w' ⟨rfl, hw'⟩; obtain rfl := hw'.symm; clear hw'))
  obtain ⟨w3, hw3⟩ : ∃ x, x = u2.setCell ⟨w.heap.size, 12 + n, none⟩ (.bool true) := ⟨_, rfl⟩
  rw [← hw3]
  have HL3 : Hid (Lv w3 w.heap.size (pcell ⟨y.1.c, y.1.nodes, y.1.acc.set n true⟩ y.2)) := by rw [hw3]; exact HSt.out _ _ HL2.out
  have k3 : Kp (fun _ => False) w w3 := k02.trans (show Kp (fun b => b = w.heap.size) u2 w3 by rw [hw3]; exact (Kp.refl (fun b => b = w.heap.size) u2).setCell (fun _ => rfl) _) (fun b hb e => by omega)
  obtain ⟨g, hg⟩ : ∃ g, g = w.heap.size := ⟨_, rfl⟩
  rw [← hg] at HL3 ⊢
  have HGg : Hid (w.heap.size ≤ g) := by show _ ≤ _; omega
  clear hw3 ca cf HSt HCt HL2 hlk c20 hg k02
  refine wp_region_still_tail 6 (by kernel_rfl) (by kernel_rfl) ?_
  obtain ⟨wd4, hwd4⟩ : ∃ x : World, x = { w3 with drawn := w3.drawn + 1 } := ⟨_, rfl⟩
  have kd4 : Kp (fun _ => False) w3 wd4 := by rw [hwd4]; exact (Kp.refl _ _).drew
  rw [← hwd4]
  have k4 := k3.trans kd4 (fun _ _ e => e)
  have HT5 : Hid (Tr wd4 t mb mp qb qp cb cp bal frm nxt pr B O) := HT.out.keep k4
  have c20 := HT5.out.c20
  have HL5 : Hid (Lv wd4 g (pcell ⟨y.1.c, y.1.nodes, y.1.acc.set n true⟩ y.2)) := HL3.out.keep kd4 id
  have hLd := HL5.out.loadAt dsPq szPq (pc_len _ _ (by rw [List.length_set]; exact HNy.out.2))
  obtain ⟨ya, hya⟩ : ∃ ya : Array Value, ya = (pcell ⟨y.1.c, y.1.nodes, y.1.acc.set n true⟩ y.2).toArray := ⟨_, rfl⟩
  rw [← hya] at hLd
  have HYA : Hid (ya = (pcell ⟨y.1.c, y.1.nodes, y.1.acc.set n true⟩ y.2).toArray) := hya
  clear hwd4 HL3 hya k3 kd4
  simp only [List.take_succ_cons, List.take_zero, List.drop_succ_cons, List.drop_zero]
  iterate 5 still_step
  refine wpStill_ld rfl 77 _ rfl _ hLd ?_
  refine wpStill_nil ?_
  refine wpList_put_mm rfl _ _ _ rfl uProp mp qp cp (pmap O) HT5.out.o rfl HQ.out z (z_wf HZ.out) rfl (.agg ya) rfl ?_
  intro w5 hm5 k5
  have HT6 : Hid (Tr w5 t mb mp qb (qp + 1) cb cp bal frm nxt pr B (updO O z (⟨y.1.c, y.1.nodes, y.1.acc.set n true⟩, y.2))) := by
    have e1 : (pmap O z).isSome = true := by rw [psome, HX.out]; rfl
    rw [e1] at hm5
    rw [HYA.out, pmap_upd O z (⟨y.1.c, y.1.nodes, y.1.acc.set n true⟩, y.2)] at hm5
    refine HT5.out.puto k5 hm5 (fun y' x' hx' => ?_)
    unfold updO at hx'
    by_cases e : y' = z
    · rw [if_pos e] at hx'
      injection hx' with hx'
      subst hx'
      exact ⟨(HT5.out.no z y HX.out).1, by rw [List.length_set]; exact HNy.out.2⟩
    · rw [if_neg e] at hx'
      exact HT5.out.no y' x' hx'
  have HK5 : Hid (Kp (fun b => b = mp) w w5) := (k4.mono (fun _ _ e => e.elim)).trans k5 (fun _ _ e => e)
  clear hm5 k5 hLd c20 HL5 k4
  go_wp2
  go_ret
  exact ⟨rfl, HK5.out, HT6.out⟩

set_option maxRecDepth 100000 in
set_option maxHeartbeats 4000000 in
theorem tchosen_ok {w : World} {t mb mp qb qp cb cp : Nat} {bal frm nxt : Int} {pr : List Bool} {B : Int → Option (Vo × Value)} {O : Int → Option (Pq × Value)} (h : Tr w t mb mp qb qp cb cp bal frm nxt pr B O) (z : Int) (hz : -9223372036854775808 ≤ z ∧ z ≤ 9223372036854775807) (p : Option Addr) (cap : Nat) (zs : List Int) (hI : Fl w (· < w.heap.size) p (zs.map encI)) (hreach : zs.length * 8 ≤ 140737488355328) :
    Calls Try.prog 24 #[.pointer (some ⟨t, 0, none⟩), .int .i64 z, .slice p zs.length cap] w fun e w' => e = .returned (.bool (maj ((O z).getD (pq0, nil0)).1.acc zs)) ∧ Kp (fun _ => False) w w' := by
  have H1 : Hid (Calls _ _ _ w _) := tmade_ok h
  have hN := getO h z
  have H2 : Hid (Calls _ _ _ w _) := majority_ok ((O z).getD (pq0, nil0)).1.acc hN.2 p cap zs w hI hreach
  have c20 := h.c20
  have hlk := look_mm uProp zProp h.o z (z_wf hz)
  rw [pget] at hlk
  obtain ⟨y, hy⟩ : ∃ y, y = (O z).getD (pq0, nil0) := ⟨_, rfl⟩
  rw [← hy] at hlk H2 hN ⊢
  obtain ⟨L, hL⟩ : ∃ L, L = zs.length := ⟨_, rfl⟩
  rw [← hL] at H2 ⊢
  obtain ⟨xa, hxa⟩ : ∃ xa : Array Value, xa = (pcell y.1 y.2).toArray := ⟨_, rfl⟩
  have hfd := field_acc y.1 y.2 hN.2 w
  rw [← hxa] at hlk hfd
  clear h hI hreach hL hy hxa hz hN
  go_enter Try.func24, Try.ntmps24
  go_wp2_with (first
    | (go_at_call 33; refine H1.out.mono ?_; rintro e w' ⟨rfl, hw'⟩; obtain rfl := hw'.symm; clear hw')
    | (go_at_call 41; refine H2.out.mono ?_; rintro e w2 ⟨rfl, k2⟩))
  go_ret
  exact ⟨rfl, k2⟩

set_option maxRecDepth 100000 in
set_option maxHeartbeats 4000000 in
theorem tproposed_ok {w : World} {t mb mp qb qp cb cp : Nat} {bal frm nxt : Int} {pr : List Bool} {B : Int → Option (Vo × Value)} {O : Int → Option (Pq × Value)} (h : Tr w t mb mp qb qp cb cp bal frm nxt pr B O) (z : Int) (hz : -9223372036854775808 ≤ z ∧ z ≤ 9223372036854775807) :
    Calls Try.prog 19 #[.pointer (some ⟨t, 0, none⟩), .int .i64 z] w fun e w' => ∃ v, e = .returned (.tuple #[v, .bool (O z).isSome]) ∧ Kp (fun _ => False) w w' ∧ Told w w' ((O z).getD (pq0, nil0)).1.c ((O z).getD (pq0, nil0)).1.nodes v := by
  have HM : Hid (∀ u, Kp (fun _ => False) w u → Calls _ _ _ u _) := fun u k => tmade_ok (h.keep k)
  have HT : Hid (Tr w t mb mp qb qp cb cp bal frm nxt pr B O) := h
  have HZ : Hid (-9223372036854775808 ≤ z ∧ z ≤ 9223372036854775807) := hz
  obtain ⟨y, hy⟩ : ∃ y, y = (O z).getD (pq0, nil0) := ⟨_, rfl⟩
  obtain ⟨ok, hok⟩ : ∃ ok, ok = (O z).isSome := ⟨_, rfl⟩
  have HNy : Hid (Ni w (Zt t mb mp) y.1.nodes y.2 ∧ y.1.acc.length = 16) := by rw [hy]; exact getO h z
  have HLk : Hid (∀ u, Kp (fun _ => False) w u → (Instr.lookup 63 (.map (some mp)) (.int .i64 z) true).run Try.prog u = .ok (.tuple #[.agg (pcell y.1 y.2).toArray, .bool ok]) u) := fun u k => by
    have := look_mm_ok uProp zProp (h.keep k).o z (z_wf hz)
    rw [pget, psome, ← hy, ← hok] at this
    exact this
  have HO2 : Hid ((pcell y.1 y.2).toArray.all (·.oneCell') = true) := pc_one y.1 (by obtain ⟨_, _, e, _⟩ := HNy.out.1; rw [e]; rfl)
  obtain ⟨xs, hxs⟩ : ∃ xs : List Value, xs = pcell y.1 y.2 := ⟨_, rfl⟩
  have HXS : Hid (xs = pcell y.1 y.2 ∧ xs.length = 28) := ⟨hxs, by rw [hxs]; exact pc_len _ _ HNy.out.2⟩
  rw [← hxs] at HLk HO2
  obtain ⟨xa, hxa⟩ : ∃ xa : Array Value, xa = xs.toArray := ⟨_, rfl⟩
  have HXA : Hid (xa = xs.toArray) := hxa
  rw [← hxa] at HLk HO2
  rw [← hy, ← hok]
  obtain ⟨pn, capn, hnv, hfn, hln⟩ := HNy.out.1
  have HCl : Hid (∀ u, Kp (fun _ => False) w u → Calls _ _ _ u _) := fun u ku => clone_cmd y.1.c _ pn capn y.1.nodes u (hfn.keep ku (fun _ _ => id)) hln
  have HNl : Hid (y.1.nodes.length * 8 ≤ 140737488355328) := hln
  obtain ⟨n, hn⟩ : ∃ n, n = y.1.nodes.length := ⟨_, rfl⟩
  have HN : Hid (n = y.1.nodes.length) := hn
  rw [← hn] at HCl hnv
  have HXC : Hid (((xs.drop 0).take 12).toArray = cmdA y.1.c (.slice pn n capn)) := by show _ = _; rw [hxs, hnv]; rfl
  clear h hz hy hok hfn hln hn hxs hxa hnv HNy
  go_enter Try.func19, Try.ntmps19
  go_wp2_with fail
  obtain ⟨u, hu⟩ : ∃ x, x = w.alloc (.cells zeroC 35) := ⟨_, rfl⟩
  have HL0 : Hid (Lv u w.heap.size zeroC.toList) := by rw [hu]; exact Lv.new w _ _
  have k0 : Kp (fun _ => False) w u := by rw [hu]; exact (Kp.refl _ _).alloc _
  have e0 : w.alloc (.cells zeroC 35) = u := hu.symm
  simp only [zeroC] at e0
  rw [e0]
  clear e0 hu
  obtain ⟨g, hg⟩ : ∃ g, g = w.heap.size := ⟨_, rfl⟩
  rw [← hg] at HL0 ⊢
  have HG : Hid (w.heap.size ≤ g ∧ g < u.heap.size) := ⟨by omega, HL0.out.lt (by decide)⟩
  clear hg
  refine (HM.out _ k0).mono ?_
  rintro e w' ⟨rfl, hw⟩
  obtain rfl := hw.symm
  clear hw
  have c20 := (HT.out.keep k0).c20
  have hlk := HLk.out u k0
  clear HM HLk
  go_wp2_with (first
    | (refine wpList_store_all rfl 77 _ _ rfl 28 u.heap.size (pcell pq0 nil0) xa.toList rfl (by rw [Array.toArray_toList]; rfl) (by exact Lv.new u _ _) szPq rfl (by rw [HXA.out]; exact HXS.out.2) (by rw [Array.toArray_toList]; exact HO2.out) ?_; intro u2 hl2 k2; have ku2 : Kp (fun _ => False) u u2 := ((Kp.refl (fun _ => False) u).alloc _).trans k2 (fun b hb e => by omega); have HLg : Hid (Lv u2 g zeroC.toList) := HL0.out.keep ku2 id; have k02 := k0.trans ku2 (fun _ _ e => e); have HL2 : Hid (Lv u2 u.heap.size xs) := (by rw [HXA.out] at hl2; exact hl2); clear hl2 k2)
    | (refine wpList_load_lv rfl 35 _ rfl u.heap.size 0 12 xs _ HL2.out rfl Try.underlying35 rfl szCmd (by rw [HXS.out.2]; omega) ?_; rw [HXC.out])
    | (go_at_call 39; refine (HCl.out _ k02).mono ?_; rintro e w3 ⟨q, cq, rfl, k3, hfl⟩; have HFl : Hid (Fl w3 _ q _) := hfl; have HLg3 : Hid (Lv w3 g zeroC.toList) := HLg.out.keep k3 id; have HO3 : Hid ((cmdA y.1.c (.slice q n cq)).toList.toArray.all (·.oneCell') = true) := cmd_one _ rfl; clear hfl)
    | (refine wpList_store_all rfl 35 _ _ rfl 12 g zeroC.toList (cmdA y.1.c (.slice q n cq)).toList rfl rfl HLg3.out szCmd rfl rfl HO3.out ?_; intro w4 hl4 k4))
  have hld := hl4.load dsCmd szCmd rfl
  refine bodyPost_ret (res_cell_tmp Try.results19 _ _ g _ rfl hld) rfl ?_
  have k04 : Kp (fun _ => False) w w4 := (k02.trans k3 (fun _ _ e => e)).trans k4 (fun b hb e => by have := HG.out; omega)
  refine ⟨_, rfl, k04, .slice q n cq, rfl, q, cq, by rw [HN.out], (HFl.out.keep k4 (fun b hb e => by have := HG.out; have := ku2.size; omega)).mono (fun b hb => by have := k02.size; omega), HNl.out⟩
end Go.Proofs.Ytjpdbhkggcojaaa
