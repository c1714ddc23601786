/- Texts of this proof, joined: Ao, Ad, Ae. -/
import Derived.Test.YtmooddbhcccicaaGreatDoorMgAG
import Derived.Test.YtmooddbhcccicaaGreatDoorMgAH
import Derived.Test.YtmooddbhcccicaaGreatDoorMgAC
import Derived.Lib.SmallJoins
/- A head is written. -/
namespace Go.Proofs.YtmooddbhcccicaaGreatDoor
set_option linter.unusedVariables false
set_option linter.unusedSimpArgs false
open Go.RowKit Go.Deep

theorem Bk.base {w : World} {base base' g cap N : Nat} {xs : List Nat} (h : Bk w base g cap N xs) (hb : base' ≤ base) : Bk w base' g cap N xs := ⟨h.len, h.byte, ownsRow_base h.ow hb⟩
/-- what is durable behind a head was written -/
def wrHead (dur : List Nat) (T : Nat → Option (List Nat)) (n i : Nat) (hd : List Nat) : List Nat := durAll (durAll dur (fun j => if j = i then some (nouW 64) else T j) n) (fun j => if j = i then some hd else none) n
set_option maxRecDepth 100000 in
theorem nil_neq (w : World) : (binOp .neq 112 .nilIface .nilIface).run Tryz.prog w = .ok (.bool false) w := by rfl
set_option maxRecDepth 100000 in
set_option maxHeartbeats 1600000 in
theorem writeHead_ok {w : World} {bp d m n q : Nat} {dur : List Nat} {T : Nat → Option (List Nat)} (h : Pt w bp d m n q dur T) (hq : (q : Int) < 9223372036854775807) (hn2 : 2 ≤ n) (s : Int) (a b c e : Nat) (ha : a ≤ 1152921504606846976) (hb : b ≤ 1152921504606846976) (hc : c ≤ 1152921504606846976) (he : e ≤ 1152921504606846976) (ht : Turns w) :
    Calls Tryz.prog 199 #[ringV bp s, headV a b c e] w fun e9 w' => e9 = .returned .nilIface ∧ Kp (fun x => x = d ∨ x = m) w w' ∧ Pt w' bp d m n 0 (wrHead dur T n (a % 2) (hdB a b c e)) (fun _ => none) := by
  have HP : Hid (Pt w bp d m n q dur T) := h
  have HB : Hid (∀ u, Calls Tryz.prog 203 #[] u fun e9 w' => ∃ g, u.heap.size ≤ g ∧ e9 = .returned (.slice (some ⟨g, 0, none⟩) 64 64) ∧ Kp (fun _ => False) u w' ∧ Bk w' u.heap.size g 64 64 (nouW 64)) := fun u => blankS_ok u
  have HS : Hid (∀ u, Kp (fun _ => False) w u → Calls Tryz.prog 222 #[headV a b c e] u fun e9 w' => ∃ g, u.heap.size ≤ g ∧ e9 = .returned (.slice (some ⟨g, 0, none⟩) 64 64) ∧ Kp (fun _ => False) u w' ∧ Bk w' u.heap.size g 64 64 (hdB a b c e)) := fun u k => hsector_ok a b c e u ha hb hc he (fun j hj => k.cellv (ht j hj) id)
  obtain ⟨i, hi⟩ : ∃ i, i = a % 2 := ⟨_, rfl⟩
  have HI : Hid ((i : Int) < (n : Int)) := by show _ < _; omega
  have HQ : Hid ((q : Int) < 9223372036854775807) := hq
  have hi1 : (a : Int) % 2 = (i : Int) := by omega
  have hi2 : (a : Int).tmod 2 = (i : Int) := by rw [Int.tmod_eq_emod_of_nonneg (by omega)]; exact hi1
  obtain ⟨hdb, hhd⟩ : ∃ x, x = hdB a b c e := ⟨_, rfl⟩
  rw [← hi, ← hhd]
  rw [← hhd] at HS
  obtain ⟨r, hr⟩ : ∃ r, r = w.heap.size := ⟨_, rfl⟩
  obtain ⟨r2, hr2⟩ : ∃ r2, r2 = w.heap.size + 1 := ⟨_, rfl⟩
  obtain ⟨w0, hw0⟩ : ∃ y, y = (w.alloc (.cells #[.pointer (some ⟨bp, 0, none⟩), .int .i64 s] 153)).alloc (.cells #[.int .i64 (a : Int), .int .i64 (b : Int), .int .i64 (c : Int), .int .i64 (e : Int)] 155) := ⟨_, rfl⟩
  have zz : (w.alloc (.cells #[.pointer (some ⟨bp, 0, none⟩), .int .i64 s] 153)).heap.size = w.heap.size + 1 := by simp
  have HK0 : Hid (Kp (fun _ => False) w w0) := by rw [hw0]; exact ((Kp.refl _ _).alloc _).alloc _
  have HL0 : Hid (Lv w0 r [.pointer (some ⟨bp, 0, none⟩), .int .i64 s]) := by rw [hw0, hr]; exact (Lv.new w _ _).keep ((Kp.refl (fun _ => False) _).alloc _) id
  have HH0 : Hid (Lv w0 r2 [.int .i64 (a : Int), .int .i64 (b : Int), .int .i64 (c : Int), .int .i64 (e : Int)]) := by rw [hw0, hr2, ← zz]; exact Lv.new _ _ _
  have HG0 : Hid (r = w.heap.size ∧ r2 = w.heap.size + 1 ∧ d < w.heap.size ∧ m < w.heap.size) := ⟨hr, hr2, h.row.lt, h.mp.lt⟩
  have q0 := HH0.out.cell (j := 0) rfl
  have q1 := HH0.out.cell (j := 1) rfl
  have q2 := HH0.out.cell (j := 2) rfl
  have q3 := HH0.out.cell (j := 3) rfl
  have hnn := nil_neq
  clear zz h hq hn2 ha hb hc he ht hi hhd
  go_enter Tryz.func199, Tryz.ntmps199
  go_upto_region 1 with fail
  rw [← hw0, ← hr2, ← hr]
  clear hw0 hr hr2
  have kd := HK0.out.drew
  have HQ9 : Hid (∀ u, Kp (fun _ => False) w0.drew u → u.cell? ⟨r2, 0, none⟩ = some (.int .i64 (a : Int)) ∧ u.cell? ⟨r2, 1, none⟩ = some (.int .i64 (b : Int)) ∧ u.cell? ⟨r2, 2, none⟩ = some (.int .i64 (c : Int)) ∧ u.cell? ⟨r2, 3, none⟩ = some (.int .i64 (e : Int))) := fun u k => by
    have hl : Lv u r2 [.int .i64 (a : Int), .int .i64 (b : Int), .int .i64 (c : Int), .int .i64 (e : Int)] := HH0.out.keep ((Kp.refl (fun _ => False) w0).drew.trans k (fun _ _ e => e)) id
    exact ⟨hl.cell (j := 0) rfl, hl.cell (j := 1) rfl, hl.cell (j := 2) rfl, hl.cell (j := 3) rfl⟩
  go_region_with (first
    | (go_at_call 222; have k3 := k1; refine (HS.out _ k3).mono ?_; rintro e9 wb ⟨gb, hgb, rfl, kb, xb⟩)
    | (go_at_call 203; refine (HB.out _).mono ?_; rintro e9 wa ⟨ga, hga, rfl, ka, xa⟩; have k1 := kd.trans ka (fun _ _ e => e); obtain ⟨p0, p1, p2, p3⟩ := HQ9.out wa ka))
  all_goals
    obtain ⟨L, hL⟩ : ∃ L, L = wb.heap.size := ⟨_, rfl⟩
    obtain ⟨wc, hwc⟩ : ∃ y, y = wb.alloc (.cells #[.slice (some ⟨ga, 0, none⟩) 64 64, .slice (some ⟨gb, 0, none⟩) 64 64] 34) := ⟨_, rfl⟩
    have kbc : Kp (fun _ => False) wb wc := by rw [hwc]; exact (Kp.refl _ _).alloc _
    have HKc : Hid (Kp (fun _ => False) w wc) := (k1.trans kb (fun _ _ e => e)).trans kbc (fun _ _ e => e)
    have HKc0 : Hid (Kp (fun _ => False) w0 wc) := (((Kp.refl (fun _ => False) w0).drew.trans ka (fun _ _ e => e)).trans kb (fun _ _ e => e)).trans kbc (fun _ _ e => e)
    have HGs : Hid (w0.heap.size ≤ ga ∧ w0.heap.size ≤ gb ∧ w0.heap.size ≤ L ∧ w0.heap.size = w0.heap.size) := ⟨by have := hga; simpa using this, by have h1 := ka.size; have : w0.drew.heap.size = w0.heap.size := rfl; omega, by have h1 := ka.size; have h2 := kb.size; have : w0.drew.heap.size = w0.heap.size := rfl; omega, rfl⟩
    have HXa : Hid (Bk wc 0 ga 64 64 (nouW 64)) := ((xa.keep0 kb).keep0 kbc).base (Nat.zero_le _)
    have HXb : Hid (Bk wc 0 gb 64 64 hdb) := (xb.keep0 kbc).base (Nat.zero_le _)
    have HLl : Hid (Lv wc L [.slice (some ⟨ga, 0, none⟩) 64 64, .slice (some ⟨gb, 0, none⟩) 64 64]) := by rw [hwc, hL]; exact Lv.new _ _ _
    have HLr : Hid (Lv wc r [.pointer (some ⟨bp, 0, none⟩), .int .i64 s] ∧ Lv wc r2 [.int .i64 (a : Int), .int .i64 (b : Int), .int .i64 (c : Int), .int .i64 (e : Int)]) := ⟨HL0.out.keep HKc0.out id, HH0.out.keep HKc0.out id⟩
    have HPc : Hid (Pt wc bp d m n q dur T) := HP.out.keep0 HKc.out
    clear q0 q1 q2 q3 kd kbc k1 kb ka xa xb hga hgb
    try clear p0 p1 p2 p3
    rw [← hwc, ← hL]
    clear hwc hL
    go_simp
    go_wp2
    refine wp_loop_rounds 3 ?_
    rw [rounds_succ]
    have l0 := HLl.out.cell (j := 0) rfl
    have r0 := HLr.out.1.cell (j := 0) rfl
    have r1 := HLr.out.1.cell (j := 1) rfl
    have t0 := HLr.out.2.cell (j := 0) rfl
    go_wp2_with fail
    refine (rwrite_ok HPc.out HQ.out s i HI.out ga 0 64 (nouW 64) HXa.out.rb).mono ?_
    rintro e9 w1a ⟨rfl, k9, p9⟩
    have HP1a : Hid (Pt w1a bp d m n (q + 1) dur (fun j => if j = i then some (nouW 64) else T j)) := p9
    have HK1a : Hid (Kp (fun x => x = d ∨ x = m) wc w1a) := k9.mono (fun _ _ e => Or.inr e)
    have hl9 : Lv w1a r [.pointer (some ⟨bp, 0, none⟩), .int .i64 s] := HLr.out.1.keep HK1a.out (fun e => by have := HG0.out; omega)
    have r0 := hl9.cell (j := 0) rfl
    have r1 := hl9.cell (j := 1) rfl
    clear k9 p9 hl9 HPc
    go_wp2_with fail
    refine (rsync_ok HP1a.out s).mono ?_
    rintro e9 w1b ⟨rfl, k9, p9⟩
    have HP1b : Hid (Pt w1b bp d m n 0 (durAll dur (fun j => if j = i then some (nouW 64) else T j) n) (fun _ => none)) := p9
    have HK1b : Hid (Kp (fun x => x = d ∨ x = m) wc w1b) := HK1a.out.trans k9 (fun _ _ e => e)
    clear k9 p9 HP1a r0 r1
    have hlL : Lv w1b L [.slice (some ⟨ga, 0, none⟩) 64 64, .slice (some ⟨gb, 0, none⟩) 64 64] := HLl.out.keep HK1b.out (fun e => by have := HG0.out; have := HGs.out; have := HK0.out.size; omega)
    have l1 := hlL.cell (j := 1) rfl
    have hl9 : Lv w1b r [.pointer (some ⟨bp, 0, none⟩), .int .i64 s] := HLr.out.1.keep HK1b.out (fun e => by have := HG0.out; omega)
    have r0 := hl9.cell (j := 0) rfl
    have r1 := hl9.cell (j := 1) rfl
    have hl8 : Lv w1b r2 [.int .i64 (a : Int), .int .i64 (b : Int), .int .i64 (c : Int), .int .i64 (e : Int)] := HLr.out.2.keep HK1b.out (fun e => by have := HG0.out; omega)
    have t0 := hl8.cell (j := 0) rfl
    clear hlL hl9 hl8
    go_wp2_with fail
    rw [rounds_succ]
    go_wp2_with fail
    refine (rwrite_ok HP1b.out (by decide) s i HI.out gb 0 64 hdb (HXb.out.keep HK1b.out (fun e => by have := HG0.out; have := HGs.out; have := HKc.out.size; have := HK0.out.size; omega)).rb).mono ?_
    rintro e9 w2a ⟨rfl, k9, p9⟩
    have HP2a : Hid (Pt w2a bp d m n (0 + 1) (durAll dur (fun j => if j = i then some (nouW 64) else T j) n) (fun j => if j = i then some (hdb) else none)) := p9
    have HK2a : Hid (Kp (fun x => x = d ∨ x = m) wc w2a) := HK1b.out.trans k9 (fun _ _ e => Or.inr e)
    have hl9 : Lv w2a r [.pointer (some ⟨bp, 0, none⟩), .int .i64 s] := HLr.out.1.keep HK2a.out (fun e => by have := HG0.out; omega)
    have r0 := hl9.cell (j := 0) rfl
    have r1 := hl9.cell (j := 1) rfl
    clear k9 p9 hl9 HP1b
    go_wp2_with fail
    refine (rsync_ok HP2a.out s).mono ?_
    rintro e9 w2b ⟨rfl, k9, p9⟩
    have HP2b : Hid (Pt w2b bp d m n 0 (durAll (durAll dur (fun j => if j = i then some (nouW 64) else T j) n) (fun j => if j = i then some (hdb) else none) n) (fun _ => none)) := p9
    have HK2b : Hid (Kp (fun x => x = d ∨ x = m) wc w2b) := HK2a.out.trans k9 (fun _ _ e => e)
    clear k9 p9 HP2a r0 r1
    have HF : Hid (Kp (fun x => x = d ∨ x = m) w w2b) := (HKc.out.mono (fun _ _ e => e.elim)).trans HK2b.out (fun _ _ e => e)
    have HPf : Hid (Pt w2b bp d m n 0 (wrHead dur T n i hdb) (fun _ => none)) := HP2b.out
    go_wp2_with fail
    rw [rounds_succ]
    go_wp2
    go_ret
    exact ⟨rfl, HF.out, HPf.out⟩
end Go.Proofs.YtmooddbhcccicaaGreatDoor

/- A heap of numbers: Push of its own (laid by scripts/mkad.py). -/
namespace Go.Proofs.YtmooddbhcccicaaGreatDoor
set_option linter.unusedVariables false
open Go.RowKit Go.Deep

theorem wp_appI {t tx : TypeId} {o : Oper} {a : Act} {w : World} {K : Act → World → Prop} {Q : Exit → Act → World → Prop} (s y : Operand)
    (ho : o.op = .call { callee := .builtin .append, args := #[s, y], argTypes := #[t, tx] })
    (base : Nat) (e : TypeId) (i : TypeInfo) (z : Value) (size bytes : Nat) (ht : Tryz.prog.underlying t = some (.slice e)) (hi : Tryz.prog.info? e = some i) (hz : i.zero = some z)
    (hsize : i.size = size) (hby : i.bytes = bytes) (hzs : z.cells.size = size) (hsz : 0 < size)
    (v : Value) (n : Nat) (xs : List Value) (hs : a.eval s = v) (hown : w.ownsRow base e size v n xs)
    (x : Value) (m : Nat) (news : List Value) (hx : a.eval y = x) (hsrc : Src Tryz.prog size tx x m news w)
    (h63 : n + m ≤ maxLen) (hbytes : (n + m) * bytes ≤ 140737488355328) (hbase : base ≤ w.heap.size)
    (h : ∀ v' w', w'.ownsRow base e size v' (n + m) (xs ++ news) → w.grownBy w' v.ownBlock → (v'.ownBlock = v.ownBlock ∨ v'.ownBlock = some w.heap.size) → K (a.put o.dst v') w') : o.wp Tryz.prog a w K Q := by
  obtain ⟨v', w', hr, h2, h3, h4⟩ := run_append_own_src (P := Tryz.prog) w base t tx o.type e i z size bytes ht hi hz hsize hby hzs hsz v n xs hown x m news hsrc h63 hbytes hbase
  unfold Oper.wp execOp
  simp only [ho, resolve, invoke, builtin, Sem.run_bind, Sem.run_pure, Result.andThen_ok, List.map_toArray, List.map_cons, List.map_nil, hs, hx, hr]
  exact h v' w' h2 h3 h4
theorem infoI0 : (Tryz.prog.info? 3).map (fun i => (i.zero.map (·.cells.size), i.size, i.bytes)) = some (some 1, 1, 8) := by kernel_rfl
theorem infoI : ∃ i z, Tryz.prog.info? 3 = some i ∧ i.zero = some z ∧ i.size = 1 ∧ i.bytes = 8 ∧ z.cells.size = 1 := by
  obtain ⟨i, hi, he⟩ := Option.map_eq_some_iff.1 infoI0
  simp only [Prod.mk.injEq] at he
  obtain ⟨h1, h2, h3⟩ := he
  obtain ⟨z, hz, h4⟩ := Option.map_eq_some_iff.1 h1
  exact ⟨i, z, hi, hz, h2, h3, h4⟩
theorem tasI (v : Value) (w : World) : (Instr.typeAssert (.iface 3 v) 20 3 false).run Tryz.prog w = .ok v w := by kernel_rfl
theorem uIs : Tryz.prog.underlying 156 = some (.slice 3) := Tryz.underlying156

set_option maxRecDepth 100000 in
set_option maxHeartbeats 1600000 in
theorem ipushm {w : World} {h o g cap : Nat} {pre post : List Value} {l : List Nat} (x : Ip w h o g cap pre post l) (k : Nat) (hl : l.length ≤ 10000) :
    Calls Tryz.prog 269 #[.pointer (some ⟨h, o, none⟩), .iface 3 (.int .i64 (k : Int))] w fun e w' => e = .returned (.tuple #[]) ∧ Kp (fun b => b = h ∨ b = g) w w' ∧ ∃ g' cap', (g' = g ∨ w.heap.size ≤ g') ∧ Ip w' h o g' cap' pre post (l ++ [k]) := by
  have HX : Hid (Ip w h o g cap pre post l) := x
  obtain ⟨n, hn⟩ : ∃ n, n = l.length := ⟨_, rfl⟩
  obtain ⟨a, ha⟩ : ∃ a : Int, a = (k : Int) := ⟨_, rfl⟩
  have HN : Hid (n = l.length ∧ a = (k : Int) ∧ n ≤ 10000) := ⟨hn, ha, by omega⟩
  rw [← ha]
  have HSS : Hid (∀ u, Kp (fun _ => False) w u → u.cell? ⟨h, o, none⟩ = some (.slice (some ⟨g, 0, none⟩) n cap)) := fun u ku => by rw [hn]; exact (x.keep0 ku).c0
  clear x hl hn ha
  obtain ⟨ti, tz, hi1, hi2, hi3, hi4, hi5⟩ := infoI
  have hta := tasI
  go_enter Tryz.func269, Tryz.ntmps269
  go_wp2
  have kd0 : Kp (fun _ => False) w w.drew := (Kp.refl _ _).drew
  obtain ⟨wd, hwd⟩ : ∃ y, y = w.drew := ⟨_, rfl⟩
  refine wp_region_held_drew (S := (fun _ : World => True)) (by kernel_rfl) trivial (fun hHeld => ?_)
  rw [← hwd] at kd0 ⊢
  clear hwd
  simp only [List.size_toArray, List.length_cons, List.length_nil, Nat.zero_add, Nat.reduceAdd]
  refine wpAnyH_take (i := 0) (v := ?zv0) (List.getElem?_toArray.trans rfl) (by kernel_rfl) (by kernel_rfl) (by kernel_rfl) (fun _ _ _ h => h) (Or.inl ⟨by rfl, ?zy0⟩) (by assumption) ?zr0
  case zy0 => (intro w hSw; go_simp; try with_reducible rfl)
  simp only [Act.put, List.setIfInBounds_toArray, List.set_cons_zero, List.set_cons_succ]
  refine wpAnyH_take (i := 1) (v := ?zv1) (List.getElem?_toArray.trans rfl) (by kernel_rfl) (by kernel_rfl) (by kernel_rfl) (fun _ _ _ h => h) (Or.inl ⟨by rfl, ?zy1⟩) (by assumption) ?zr1
  case zy1 => (intro w hSw; go_simp; try with_reducible rfl)
  simp only [Act.put, List.setIfInBounds_toArray, List.set_cons_zero, List.set_cons_succ]
  refine wpAnyH_take (i := 2) (v := ?zv2) (List.getElem?_toArray.trans rfl) (by kernel_rfl) (by kernel_rfl) (by kernel_rfl) (fun _ _ _ h => h) (Or.inl ⟨by rfl, ?zy2⟩) (by assumption) ?zr2
  case zy2 => (intro w hSw; go_simp; try with_reducible rfl)
  simp only [Act.put, List.setIfInBounds_toArray, List.set_cons_zero, List.set_cons_succ]
  refine wpAnyH_take (i := 4) (v := ?zv4) (List.getElem?_toArray.trans rfl) (by kernel_rfl) (by kernel_rfl) (by kernel_rfl) (fun _ _ _ h => h) (Or.inl ⟨by rfl, ?zy4⟩) (by assumption) ?zr4
  case zy4 => (intro w hSw; go_simp; try with_reducible rfl)
  simp only [Act.put, List.setIfInBounds_toArray, List.set_cons_zero, List.set_cons_succ]
  refine wpAnyH_take (i := 5) (v := ?zv5) (List.getElem?_toArray.trans rfl) (by kernel_rfl) (by kernel_rfl) (by kernel_rfl) (fun _ _ _ h => h) (Or.inl ⟨by rfl, ?zy5⟩) (by assumption) ?zr5
  case zy5 => (intro w hSw; go_simp; try with_reducible rfl)
  simp only [Act.put, List.setIfInBounds_toArray, List.set_cons_zero, List.set_cons_succ]
  refine wpAnyH_ready (rs := [3, 6]) (by kernel_rfl) (by simp) ?_
  refine AllReadyH.cons rfl (fun Ka hKa => ?_) (AllReadyH.cons rfl (fun Ka hKa => ?_) AllReadyH.nil)
  · rw [if_pos (by rfl)]
    have c0 := HSS.out _ kd0
    go_simp
    clear c0 hHeld
    try dsimp only
    refine hKa.out _ _ trivial (fun hHeld => ?_)
    clear hKa Ka
    refine wpAnyH_ready (rs := [6]) (by kernel_rfl) (by simp) ?_
    refine AllReadyH.cons rfl (fun Ka hKa => ?_) AllReadyH.nil
    rw [if_pos (by rfl)]
    go_simp
    have k1 : Kp (fun _ => False) w (wd.alloc (.cells #[.int .i64 a] 3)) := kd0.alloc _
    have HL1 : Hid (Lv (wd.alloc (.cells #[.int .i64 a] 3)) wd.heap.size [.int .i64 a]) := Lv.new wd _ _
    obtain ⟨r, hr⟩ : ∃ r, r = wd.heap.size := ⟨_, rfl⟩
    obtain ⟨w1, hw1⟩ : ∃ y, y = wd.alloc (.cells #[.int .i64 a] 3) := ⟨_, rfl⟩
    rw [← hw1] at k1 HL1 ⊢
    rw [← hr] at HL1 ⊢
    clear hHeld hr hw1
    try dsimp only
    refine hKa.out _ _ trivial (fun hHeld => ?_)
    clear hKa Ka
    refine wpAnyH_ready (rs := [7]) (by kernel_rfl) (by simp) ?_
    refine AllReadyH.cons rfl (fun Ka hKa => ?_) AllReadyH.nil
    rw [if_pos (by rfl)]
    have HX1 : Hid (Ip w1 h o g cap pre post l) := HX.out.keep0 k1
    refine wp_appI _ _ rfl 0 3 ti tz 1 8 uIs hi1 hi2 hi3 hi4 hi5 (by decide) (.slice (some ⟨g, 0, none⟩) n cap) n (nls l) rfl (by rw [HN.out.1]; exact HX1.out.ow) (.slice (some ⟨r, 0, none⟩) 1 1) 1 [.int .i64 a] rfl (Src.ofSlice _ uIs ⟨r, 0, none⟩ 1 1 [.int .i64 a] rfl (fun j u hj => by rw [Addr.add_mid, Nat.zero_add]; exact HL1.out.cell hj) (fun u hu => by simp only [List.mem_cons, List.not_mem_nil, or_false] at hu; rw [hu]; rfl)) (by have := HN.out; unfold maxLen; omega) (by have := HN.out; omega) (Nat.zero_le _) ?_
    intro v' w2 hown hk hblk
    simp only [List.getElem_toArray, List.getElem_cons_succ, List.getElem_cons_zero, Act.put]
    have k2 := grownBy_kp hk
    have hv' : ∃ g' cap', v' = .slice (some ⟨g', 0, none⟩) (n + 1) cap' := by
      rcases Joins.ownsRow_forms hown with ⟨e1, e2⟩ | ⟨g', cap', e⟩
      · omega
      · exact ⟨g', cap', e⟩
    obtain ⟨g', cap', rfl⟩ := hv'
    have hgb := HX1.out.gb
    have hhl := HX1.out.hb
    have hgn : g' ≠ h ∧ (g' = g ∨ w.heap.size ≤ g') := by
      rcases hblk with e | e
      · have e' : some g' = some g := e
        injection e' with e'
        exact ⟨by rw [e']; exact HX1.out.ne, Or.inl e'⟩
      · have e' : some g' = some w1.heap.size := e
        injection e' with e'
        have := k1.size
        exact ⟨by omega, Or.inr (by omega)⟩
    have hl2 : Lv w2 h (pre ++ .slice (some ⟨g, 0, none⟩) n cap :: post) := by
      have h4 := HX1.out.lv.keep k2 (fun e => by have e' : some g = some h := e; injection e' with e'; exact HX1.out.ne e')
      rw [HN.out.1]; exact h4
    have hol := HX1.out.ol
    have c2 : w2.cell? ⟨h, o, none⟩ = some (.slice (some ⟨g, 0, none⟩) n cap) := hl2.cell (j := o) (by rw [← hol]; exact mid_get _ _ _)
    have f2 : w2.frozen? ⟨h, o, none⟩ = false := hl2.fz (by rw [← hol]; simp)
    have K2 : Hid (Kp (fun b => b = h ∨ b = g) w w2) := (k1.mono (fun _ _ e => e.elim)).trans k2 (fun b hb e => by have e' : some g = some b := e; injection e' with e'; exact Or.inr e'.symm)
    have HO2 : Hid (w2.ownsRow 0 3 1 (.slice (some ⟨g', 0, none⟩) (n + 1) cap') (n + 1) (nls (l ++ [k]))) := by
      show w2.ownsRow _ _ _ _ _ _
      rw [nls_append]
      show w2.ownsRow _ _ _ _ _ (nls l ++ [.int .i64 (k : Int)])
      rw [← HN.out.2.1]
      exact hown
    have HB : Hid (pre.length = o ∧ g' ≠ h ∧ (g' = g ∨ w.heap.size ≤ g')) := ⟨hol, hgn.1, hgn.2⟩
    have HL2 : Hid (Lv w2 h (pre ++ .slice (some ⟨g, 0, none⟩) n cap :: post)) := hl2
    clear hHeld k2 hk hblk hown hgb hhl hgn hl2 hol
    refine hKa.out _ _ trivial (fun hHeld => ?_)
    clear hKa Ka
    refine wpAnyH_take (i := 8) (v := ?zv8a) (List.getElem?_toArray.trans rfl) (by kernel_rfl) (by kernel_rfl) (by kernel_rfl) (fun _ _ _ h => h) (Or.inl ⟨by rfl, ?zy8a⟩) (by assumption) ?zr8a
    case zy8a => (intro w hSw; go_simp; try with_reducible rfl)
    simp only [Act.put, List.setIfInBounds_toArray, List.set_cons_zero, List.set_cons_succ]
    refine wpAnyH_ready (rs := [9]) (by kernel_rfl) (by simp) ?_
    refine AllReadyH.cons rfl (fun Ka hKa => ?_) AllReadyH.nil
    rw [if_pos (by rfl)]
    go_simp
    have ks : Kp (fun b => b = h) w2 (w2.setCell ⟨h, o, none⟩ (.slice (some ⟨g', 0, none⟩) (n + 1) cap')) := (Kp.refl (fun b => b = h) w2).setCell (fun _ => rfl) _
    have hl3 := HL2.out.set1 o (.slice (some ⟨g', 0, none⟩) (n + 1) cap') (by rw [← HB.out.1]; simp)
    rw [← HB.out.1, mid_set, HB.out.1] at hl3
    have hlen : (l ++ [k]).length = n + 1 := by rw [List.length_append, HN.out.1]; rfl
    have HF : Hid (Kp (fun b => b = h ∨ b = g) w (w2.setCell ⟨h, o, none⟩ (.slice (some ⟨g', 0, none⟩) (n + 1) cap')) ∧ Ip (w2.setCell ⟨h, o, none⟩ (.slice (some ⟨g', 0, none⟩) (n + 1) cap')) h o g' cap' pre post (l ++ [k])) := ⟨K2.out.trans ks (fun b hb e => Or.inl e), ⟨by rw [hlen]; exact hl3, HB.out.1, by rw [hlen]; exact ownsRow_keep HO2.out ks (fun g0 e e2 => by have e' : some g' = some g0 := e; injection e' with e'; have := HB.out.2.1; omega), HB.out.2.1⟩⟩
    clear hHeld ks hl3 hlen
    try dsimp only
    refine hKa.out _ _ trivial (fun hHeld => ?_)
    clear hKa Ka
    refine wpAnyH_done (by kernel_rfl) ?_ _
    go_wp2
    go_end0
    exact ⟨rfl, HF.out.1, g', cap', HB.out.2.2, HF.out.2⟩
  · rw [if_pos (by rfl)]
    go_simp
    have k1 : Kp (fun _ => False) w (wd.alloc (.cells #[.int .i64 a] 3)) := kd0.alloc _
    have HL1 : Hid (Lv (wd.alloc (.cells #[.int .i64 a] 3)) wd.heap.size [.int .i64 a]) := Lv.new wd _ _
    obtain ⟨r, hr⟩ : ∃ r, r = wd.heap.size := ⟨_, rfl⟩
    obtain ⟨w1, hw1⟩ : ∃ y, y = wd.alloc (.cells #[.int .i64 a] 3) := ⟨_, rfl⟩
    rw [← hw1] at k1 HL1 ⊢
    rw [← hr] at HL1 ⊢
    clear hHeld hr hw1
    try dsimp only
    refine hKa.out _ _ trivial (fun hHeld => ?_)
    clear hKa Ka
    refine wpAnyH_ready (rs := [3]) (by kernel_rfl) (by simp) ?_
    refine AllReadyH.cons rfl (fun Ka hKa => ?_) AllReadyH.nil
    rw [if_pos (by rfl)]
    have c0 := HSS.out _ k1
    go_simp
    clear c0 hHeld
    try dsimp only
    refine hKa.out _ _ trivial (fun hHeld => ?_)
    clear hKa Ka
    refine wpAnyH_ready (rs := [7]) (by kernel_rfl) (by simp) ?_
    refine AllReadyH.cons rfl (fun Ka hKa => ?_) AllReadyH.nil
    rw [if_pos (by rfl)]
    have HX1 : Hid (Ip w1 h o g cap pre post l) := HX.out.keep0 k1
    refine wp_appI _ _ rfl 0 3 ti tz 1 8 uIs hi1 hi2 hi3 hi4 hi5 (by decide) (.slice (some ⟨g, 0, none⟩) n cap) n (nls l) rfl (by rw [HN.out.1]; exact HX1.out.ow) (.slice (some ⟨r, 0, none⟩) 1 1) 1 [.int .i64 a] rfl (Src.ofSlice _ uIs ⟨r, 0, none⟩ 1 1 [.int .i64 a] rfl (fun j u hj => by rw [Addr.add_mid, Nat.zero_add]; exact HL1.out.cell hj) (fun u hu => by simp only [List.mem_cons, List.not_mem_nil, or_false] at hu; rw [hu]; rfl)) (by have := HN.out; unfold maxLen; omega) (by have := HN.out; omega) (Nat.zero_le _) ?_
    intro v' w2 hown hk hblk
    simp only [List.getElem_toArray, List.getElem_cons_succ, List.getElem_cons_zero, Act.put]
    have k2 := grownBy_kp hk
    have hv' : ∃ g' cap', v' = .slice (some ⟨g', 0, none⟩) (n + 1) cap' := by
      rcases Joins.ownsRow_forms hown with ⟨e1, e2⟩ | ⟨g', cap', e⟩
      · omega
      · exact ⟨g', cap', e⟩
    obtain ⟨g', cap', rfl⟩ := hv'
    have hgb := HX1.out.gb
    have hhl := HX1.out.hb
    have hgn : g' ≠ h ∧ (g' = g ∨ w.heap.size ≤ g') := by
      rcases hblk with e | e
      · have e' : some g' = some g := e
        injection e' with e'
        exact ⟨by rw [e']; exact HX1.out.ne, Or.inl e'⟩
      · have e' : some g' = some w1.heap.size := e
        injection e' with e'
        have := k1.size
        exact ⟨by omega, Or.inr (by omega)⟩
    have hl2 : Lv w2 h (pre ++ .slice (some ⟨g, 0, none⟩) n cap :: post) := by
      have h4 := HX1.out.lv.keep k2 (fun e => by have e' : some g = some h := e; injection e' with e'; exact HX1.out.ne e')
      rw [HN.out.1]; exact h4
    have hol := HX1.out.ol
    have c2 : w2.cell? ⟨h, o, none⟩ = some (.slice (some ⟨g, 0, none⟩) n cap) := hl2.cell (j := o) (by rw [← hol]; exact mid_get _ _ _)
    have f2 : w2.frozen? ⟨h, o, none⟩ = false := hl2.fz (by rw [← hol]; simp)
    have K2 : Hid (Kp (fun b => b = h ∨ b = g) w w2) := (k1.mono (fun _ _ e => e.elim)).trans k2 (fun b hb e => by have e' : some g = some b := e; injection e' with e'; exact Or.inr e'.symm)
    have HO2 : Hid (w2.ownsRow 0 3 1 (.slice (some ⟨g', 0, none⟩) (n + 1) cap') (n + 1) (nls (l ++ [k]))) := by
      show w2.ownsRow _ _ _ _ _ _
      rw [nls_append]
      show w2.ownsRow _ _ _ _ _ (nls l ++ [.int .i64 (k : Int)])
      rw [← HN.out.2.1]
      exact hown
    have HB : Hid (pre.length = o ∧ g' ≠ h ∧ (g' = g ∨ w.heap.size ≤ g')) := ⟨hol, hgn.1, hgn.2⟩
    have HL2 : Hid (Lv w2 h (pre ++ .slice (some ⟨g, 0, none⟩) n cap :: post)) := hl2
    clear hHeld k2 hk hblk hown hgb hhl hgn hl2 hol
    refine hKa.out _ _ trivial (fun hHeld => ?_)
    clear hKa Ka
    refine wpAnyH_take (i := 8) (v := ?zv8b) (List.getElem?_toArray.trans rfl) (by kernel_rfl) (by kernel_rfl) (by kernel_rfl) (fun _ _ _ h => h) (Or.inl ⟨by rfl, ?zy8b⟩) (by assumption) ?zr8b
    case zy8b => (intro w hSw; go_simp; try with_reducible rfl)
    simp only [Act.put, List.setIfInBounds_toArray, List.set_cons_zero, List.set_cons_succ]
    refine wpAnyH_ready (rs := [9]) (by kernel_rfl) (by simp) ?_
    refine AllReadyH.cons rfl (fun Ka hKa => ?_) AllReadyH.nil
    rw [if_pos (by rfl)]
    go_simp
    have ks : Kp (fun b => b = h) w2 (w2.setCell ⟨h, o, none⟩ (.slice (some ⟨g', 0, none⟩) (n + 1) cap')) := (Kp.refl (fun b => b = h) w2).setCell (fun _ => rfl) _
    have hl3 := HL2.out.set1 o (.slice (some ⟨g', 0, none⟩) (n + 1) cap') (by rw [← HB.out.1]; simp)
    rw [← HB.out.1, mid_set, HB.out.1] at hl3
    have hlen : (l ++ [k]).length = n + 1 := by rw [List.length_append, HN.out.1]; rfl
    have HF : Hid (Kp (fun b => b = h ∨ b = g) w (w2.setCell ⟨h, o, none⟩ (.slice (some ⟨g', 0, none⟩) (n + 1) cap')) ∧ Ip (w2.setCell ⟨h, o, none⟩ (.slice (some ⟨g', 0, none⟩) (n + 1) cap')) h o g' cap' pre post (l ++ [k])) := ⟨K2.out.trans ks (fun b hb e => Or.inl e), ⟨by rw [hlen]; exact hl3, HB.out.1, by rw [hlen]; exact ownsRow_keep HO2.out ks (fun g0 e e2 => by have e' : some g' = some g0 := e; injection e' with e'; have := HB.out.2.1; omega), HB.out.2.1⟩⟩
    clear hHeld ks hl3 hlen
    try dsimp only
    refine hKa.out _ _ trivial (fun hHeld => ?_)
    clear hKa Ka
    refine wpAnyH_done (by kernel_rfl) ?_ _
    go_wp2
    go_end0
    exact ⟨rfl, HF.out.1, g', cap', HB.out.2.2, HF.out.2⟩

end Go.Proofs.YtmooddbhcccicaaGreatDoor

/- A heap of numbers: Pop of its own; up (laid by scripts/mkad.py). -/
namespace Go.Proofs.YtmooddbhcccicaaGreatDoor
set_option linter.unusedVariables false
open Go.RowKit Go.Deep

set_option maxRecDepth 100000 in
set_option maxHeartbeats 1600000 in
theorem ipopm {w : World} {h o g cap : Nat} {pre post : List Value} {l : List Nat} (x : Ip w h o g cap pre post l) (n : Nat) (hl : l.length = n + 1) (hn : n ≤ 10000) :
    Calls Tryz.prog 268 #[.pointer (some ⟨h, o, none⟩)] w fun e w' => e = .returned (.iface 3 (.int .i64 ((l.getD n 0 : Nat) : Int))) ∧ Kp (fun b => b = h ∨ b = g) w w' ∧ Ip w' h o g cap pre post (l.take n) := by
  have cc := x.cn (j := n) (by omega)
  have HX : Hid (Ip w h o g cap pre post l) := x
  obtain ⟨a, ha⟩ : ∃ a, a = l.getD n 0 := ⟨_, rfl⟩
  rw [← ha] at cc
  rw [← ha]
  have c0 := x.c0
  rw [hl] at c0
  have f0 : w.frozen? ⟨h, o, none⟩ = false := x.fz
  have hcap : n + 1 ≤ cap := by have := x.capLe; omega
  have hw1 : wrap64 (((n + 1 : Nat) : Int) - 1) = (n : Int) := by unfold wrap64; omega
  have hhw : h < w.heap.size := x.hb
  have hgw : g < w.heap.size := x.gb
  have HF : Hid (Kp (fun b => b = h ∨ b = g) w (w.setCell ⟨h, o, none⟩ (.slice (some ⟨g, 0, none⟩) n cap)) ∧ Ip (w.setCell ⟨h, o, none⟩ (.slice (some ⟨g, 0, none⟩) n cap)) h o g cap pre post (l.take n)) := by
    have ks : Kp (fun b => b = h) w (w.setCell ⟨h, o, none⟩ (.slice (some ⟨g, 0, none⟩) n cap)) := (Kp.refl (fun b => b = h) w).setCell (fun _ => rfl) _
    have hlt : (l.take n).length = n := by rw [List.length_take]; omega
    refine ⟨ks.mono (fun b _ e => Or.inl e), ⟨?_, x.ol, ?_, x.ne⟩⟩
    · rw [hlt]
      exact x.lset _
    · rw [hlt, ← nls_take]
      have h3 := own_subI (k := n) x.ow (by omega)
      rw [Nat.mul_one] at h3
      exact ownsRow_keep h3 ks (fun g0 e e2 => by have e' : some g = some g0 := e; injection e' with e'; exact x.ne (by omega))
  clear x ha hl
  go_enter Tryz.func268, Tryz.ntmps268
  go_wp2
  go_ret
  exact ⟨rfl, HF.out⟩

set_option maxRecDepth 100000 in
set_option maxHeartbeats 1600000 in
theorem iup {w : World} {h o g cap : Nat} {pre post : List Value} {l : List Nat} (x : Ip w h o g cap pre post l) (j : Nat) (hj : j < l.length) (hl : l.length ≤ 10000) :
    Calls Tryz.prog 225 #[.iface 235 (.pointer (some ⟨h, o, none⟩)), .int .i64 j] w fun e w' => e = .returned (.tuple #[]) ∧ Kp (fun b => b = h ∨ b = g) w w' ∧ Ip w' h o g cap pre post (upI (j + 1) l j) := by
  have HX : Hid (Ip w h o g cap pre post l) := x
  have HL : Hid (j < l.length ∧ l.length ≤ 10000) := ⟨hj, hl⟩
  obtain ⟨r, hr⟩ : ∃ r, r = upI (j + 1) l j := ⟨_, rfl⟩
  rw [← hr]
  clear x hj hl
  go_enter Tryz.func225, Tryz.ntmps225
  go_wp2
  go_loopg [1] (j + 1) (fun gk jv wr => ∃ (i : Nat) (m : List Nat), i ≤ j ∧ gk = i + 1 ∧ jv = .int .i64 i ∧ Hid (Kp (fun b => b = h ∨ b = g) w wr) ∧ Hid (Ip wr h o g cap pre post m) ∧ Hid (m.length = l.length ∧ r = upI (i + 1) m i))
  case atStart => exact ⟨j, l, Nat.le_refl _, rfl, rfl, Kp.refl _ _, HX, ⟨rfl, hr⟩⟩
  case round =>
    obtain ⟨i, m, hi, rfl, rfl, HK, HM, HR⟩ := hrel
    clear hr
    by_cases h0 : i = 0
    · subst h0
      have HRm : Hid (r = m) := HR.out.2
      go_wp2
      go_end0
      exact ⟨rfl, HK.out, by rw [HRm.out]; exact HM.out⟩
    · have HI : Hid (i < m.length ∧ (i - 1) / 2 < m.length ∧ m.length ≤ 10000) := by show _ ∧ _; have h1 := HR.out.1; have h2 := HL.out; omega
      have hw1 : wrap64 ((i : Int) - 1) = ((i - 1 : Nat) : Int) := by have := HI.out; unfold wrap64; omega
      have hq : ((i - 1 : Nat) : Int).tdiv 2 = (((i - 1) / 2 : Nat) : Int) := by
        rw [Int.tdiv_eq_ediv_of_nonneg (by omega)]; omega
      obtain ⟨q, hqq⟩ : ∃ q, q = (i - 1) / 2 := ⟨_, rfl⟩
      rw [← hqq] at hq
      have hwq : wrap64 ((q : Int)) = (q : Int) := by have := HI.out; unfold wrap64; omega
      have hne : ¬ ((q : Int) = (i : Int)) := by omega
      have HQ : Hid (q = (i - 1) / 2) := hqq
      have hs1 := mLessI HM.out.c0
      have HE : Hid (Calls _ _ _ wr _) := iless HM.out i q HI.out.1 (by rw [hqq]; exact HI.out.2.1)
      obtain ⟨d, hd⟩ : ∃ d, d = decide ((m.getD i 0) < (m.getD q 0)) := ⟨_, rfl⟩
      have HD : Hid (d = decide ((m.getD i 0) < (m.getD q 0))) := hd
      rw [← hd] at HE
      clear hd hqq
      go_wp2_with fail
      refine HE.out.mono ?_
      rintro e w1 ⟨rfl, k1⟩
      have HM1 : Hid (Ip w1 h o g cap pre post m) := HM.out.keep0 k1
      have HK1 : Hid (Kp (fun b => b = h ∨ b = g) w w1) := HK.out.trans k1 (fun _ _ e => e.elim)
      clear HE k1 hs1
      cases d with
      | false =>
        have HRm : Hid (r = m) := by
          have h1 := HR.out.2
          have h2 : ¬ ((m.getD i 0) < (m.getD q 0)) := of_decide_eq_false HD.out.symm
          show r = m
          rw [h1, upI_succ, if_neg h0, ← HQ.out, if_neg h2]
        go_wp2
        go_end0
        exact ⟨rfl, HK1.out, by rw [HRm.out]; exact HM1.out⟩
      | true =>
        have hs2 := mSwapI HM1.out.c0
        have HE2 : Hid (Calls _ _ _ w1 _) := iswap HM1.out q i (by rw [HQ.out]; exact HI.out.2.1) HI.out.1
        have HRn : Hid (r = upI i (swI m q i) q) := by
          have h1 := HR.out.2
          have h2 : (m.getD i 0) < (m.getD q 0) := of_decide_eq_true HD.out.symm
          show r = _
          rw [h1, upI_succ, if_neg h0, ← HQ.out, if_pos h2]
        go_wp2_with fail
        refine HE2.out.mono ?_
        rintro e w2 ⟨rfl, k2, h2⟩
        have HM2 : Hid (Ip w2 h o g cap pre post (swI m q i)) := h2
        have HK2 : Hid (Kp (fun b => b = h ∨ b = g) w w2) := HK1.out.trans k2 (fun b _ e => Or.inr e)
        clear HE2 h2 k2 hs2
        go_wp2
        go_roundg (q + 1)
        case rel => exact ⟨q, swI m q i, by have := HQ.out; omega, rfl, rfl, HK2, HM2, ⟨by rw [swI_len]; exact HR.out.1, by rw [HRn.out]; exact upI_fuel _ _ _ _ (by have := HQ.out; omega) (by omega)⟩⟩
        case measure => have := HQ.out; omega
end Go.Proofs.YtmooddbhcccicaaGreatDoor
