/- A head is written. -/
import Derived.Test.YtippipeebkkghaaGreatDoorAn
import Derived.Test.YtippipeebkkghaaGreatDoorWm
namespace Go.Proofs.YtippipeebkkghaaGreatDoor
set_option linter.unusedVariables false
set_option linter.unusedSimpArgs false
open Go.RowKit Go.Deep

theorem Bk.base {w : World} {base base' g cap N : Nat} {xs : List Nat} (h : Bk w base g cap N xs) (hb : base' ≤ base) : Bk w base' g cap N xs := ⟨h.len, h.byte, ownsRow_base h.ow hb⟩
/-- what is durable behind a head was written -/
def wrHead (dur : List Nat) (T : Nat → Option (List Nat)) (n i : Nat) (hd : List Nat) : List Nat := durAll (durAll dur (fun j => if j = i then some (nouW 64) else T j) n) (fun j => if j = i then some hd else none) n
set_option maxRecDepth 100000 in
theorem nil_neq (w : World) : (binOp .neq 99 .nilIface .nilIface).run Tryz.prog w = .ok (.bool false) w := by rfl
set_option maxRecDepth 100000 in
set_option maxHeartbeats 1600000 in
theorem writeHead_ok {w : World} {bp d m n q : Nat} {dur : List Nat} {T : Nat → Option (List Nat)} (h : Pt w bp d m n q dur T) (hq : (q : Int) < 9223372036854775807) (hn2 : 2 ≤ n) (s : Int) (a b c e : Nat) (ha : a ≤ 1152921504606846976) (hb : b ≤ 1152921504606846976) (hc : c ≤ 1152921504606846976) (he : e ≤ 1152921504606846976) (ht : Turns w) :
    Calls Tryz.prog 184 #[ringV bp s, headV a b c e] w fun e9 w' => e9 = .returned .nilIface ∧ Kp (fun x => x = d ∨ x = m) w w' ∧ Pt w' bp d m n 0 (wrHead dur T n (a % 2) (hdB a b c e)) (fun _ => none) := by
  have HP : Hid (Pt w bp d m n q dur T) := h
  have HB : Hid (∀ u, Calls Tryz.prog 182 #[] u fun e9 w' => ∃ g, u.heap.size ≤ g ∧ e9 = .returned (.slice (some ⟨g, 0, none⟩) 64 64) ∧ Kp (fun _ => False) u w' ∧ Bk w' u.heap.size g 64 64 (nouW 64)) := fun u => blankS_ok u
  have HS : Hid (∀ u, Kp (fun _ => False) w u → Calls Tryz.prog 181 #[headV a b c e] u fun e9 w' => ∃ g, u.heap.size ≤ g ∧ e9 = .returned (.slice (some ⟨g, 0, none⟩) 64 64) ∧ Kp (fun _ => False) u w' ∧ Bk w' u.heap.size g 64 64 (hdB a b c e)) := fun u k => hsector_ok a b c e u ha hb hc he (fun j hj => k.cellv (ht j hj) id)
  obtain ⟨i, hi⟩ : ∃ i, i = a % 2 := ⟨_, rfl⟩
  have HI : Hid ((i : Int) < (n : Int)) := by show _ < _; omega
  have HQ : Hid ((q : Int) < 9223372036854775807) := hq
  have hi1 : (a : Int) % 2 = (i : Int) := by omega
  have hi2 : (a : Int).tmod 2 = (i : Int) := by rw [Int.tmod_eq_emod_of_nonneg (by omega)]; exact hi1
  obtain ⟨hdb, hhd⟩ : ∃ x, x = hdB a b c e := ⟨_, rfl⟩
  rw [← hi, ← hhd]
  rw [← hhd] at HS
  obtain ⟨r, hr⟩ : ∃ r, r = w.heap.size := ⟨_, rfl⟩
  obtain ⟨r2, hr2⟩ : ∃ r2, r2 = w.heap.size + 1 := ⟨_, rfl⟩
  obtain ⟨w0, hw0⟩ : ∃ y, y = (w.alloc (.cells #[.pointer (some ⟨bp, 0, none⟩), .int .i64 s] 132)).alloc (.cells #[.int .i64 (a : Int), .int .i64 (b : Int), .int .i64 (c : Int), .int .i64 (e : Int)] 134) := ⟨_, rfl⟩
  have zz : (w.alloc (.cells #[.pointer (some ⟨bp, 0, none⟩), .int .i64 s] 132)).heap.size = w.heap.size + 1 := by simp
  have HK0 : Hid (Kp (fun _ => False) w w0) := by rw [hw0]; exact ((Kp.refl _ _).alloc _).alloc _
  have HL0 : Hid (Lv w0 r [.pointer (some ⟨bp, 0, none⟩), .int .i64 s]) := by rw [hw0, hr]; exact (Lv.new w _ _).keep ((Kp.refl (fun _ => False) _).alloc _) id
  have HH0 : Hid (Lv w0 r2 [.int .i64 (a : Int), .int .i64 (b : Int), .int .i64 (c : Int), .int .i64 (e : Int)]) := by rw [hw0, hr2, ← zz]; exact Lv.new _ _ _
  have HG0 : Hid (r = w.heap.size ∧ r2 = w.heap.size + 1 ∧ d < w.heap.size ∧ m < w.heap.size) := ⟨hr, hr2, h.row.lt, h.mp.lt⟩
  have q0 := HH0.out.cell (j := 0) rfl
  have q1 := HH0.out.cell (j := 1) rfl
  have q2 := HH0.out.cell (j := 2) rfl
  have q3 := HH0.out.cell (j := 3) rfl
  have hnn := nil_neq
  clear zz h hq hn2 ha hb hc he ht hi hhd
  go_enter Tryz.func184, Tryz.ntmps184
  go_upto_region 1 with fail
  rw [← hw0, ← hr2, ← hr]
  clear hw0 hr hr2
  have kd := HK0.out.drew
  have HQ9 : Hid (∀ u, Kp (fun _ => False) w0.drew u → u.cell? ⟨r2, 0, none⟩ = some (.int .i64 (a : Int)) ∧ u.cell? ⟨r2, 1, none⟩ = some (.int .i64 (b : Int)) ∧ u.cell? ⟨r2, 2, none⟩ = some (.int .i64 (c : Int)) ∧ u.cell? ⟨r2, 3, none⟩ = some (.int .i64 (e : Int))) := fun u k => by
    have hl : Lv u r2 [.int .i64 (a : Int), .int .i64 (b : Int), .int .i64 (c : Int), .int .i64 (e : Int)] := HH0.out.keep ((Kp.refl (fun _ => False) w0).drew.trans k (fun _ _ e => e)) id
    exact ⟨hl.cell (j := 0) rfl, hl.cell (j := 1) rfl, hl.cell (j := 2) rfl, hl.cell (j := 3) rfl⟩
  go_region_with (first
    | (go_at_call 181; have k3 := k1; refine (HS.out _ k3).mono ?_; rintro e9 wb ⟨gb, hgb, rfl, kb, xb⟩)
    | (go_at_call 182; refine (HB.out _).mono ?_; rintro e9 wa ⟨ga, hga, rfl, ka, xa⟩; have k1 := kd.trans ka (fun _ _ e => e); obtain ⟨p0, p1, p2, p3⟩ := HQ9.out wa ka))
  all_goals
    obtain ⟨L, hL⟩ : ∃ L, L = wb.heap.size := ⟨_, rfl⟩
    obtain ⟨wc, hwc⟩ : ∃ y, y = wb.alloc (.cells #[.slice (some ⟨ga, 0, none⟩) 64 64, .slice (some ⟨gb, 0, none⟩) 64 64] 75) := ⟨_, rfl⟩
    have kbc : Kp (fun _ => False) wb wc := by rw [hwc]; exact (Kp.refl _ _).alloc _
    have HKc : Hid (Kp (fun _ => False) w wc) := (k1.trans kb (fun _ _ e => e)).trans kbc (fun _ _ e => e)
    have HKc0 : Hid (Kp (fun _ => False) w0 wc) := (((Kp.refl (fun _ => False) w0).drew.trans ka (fun _ _ e => e)).trans kb (fun _ _ e => e)).trans kbc (fun _ _ e => e)
    have HGs : Hid (w0.heap.size ≤ ga ∧ w0.heap.size ≤ gb ∧ w0.heap.size ≤ L ∧ w0.heap.size = w0.heap.size) := ⟨by have := hga; simpa using this, by have h1 := ka.size; have : w0.drew.heap.size = w0.heap.size := rfl; omega, by have h1 := ka.size; have h2 := kb.size; have : w0.drew.heap.size = w0.heap.size := rfl; omega, rfl⟩
    have HXa : Hid (Bk wc 0 ga 64 64 (nouW 64)) := ((xa.keep0 kb).keep0 kbc).base (Nat.zero_le _)
    have HXb : Hid (Bk wc 0 gb 64 64 hdb) := (xb.keep0 kbc).base (Nat.zero_le _)
    have HLl : Hid (Lv wc L [.slice (some ⟨ga, 0, none⟩) 64 64, .slice (some ⟨gb, 0, none⟩) 64 64]) := by rw [hwc, hL]; exact Lv.new _ _ _
    have HLr : Hid (Lv wc r [.pointer (some ⟨bp, 0, none⟩), .int .i64 s] ∧ Lv wc r2 [.int .i64 (a : Int), .int .i64 (b : Int), .int .i64 (c : Int), .int .i64 (e : Int)]) := ⟨HL0.out.keep HKc0.out id, HH0.out.keep HKc0.out id⟩
    have HPc : Hid (Pt wc bp d m n q dur T) := HP.out.keep0 HKc.out
    clear q0 q1 q2 q3 kd kbc k1 kb ka xa xb hga hgb
    try clear p0 p1 p2 p3
    rw [← hwc, ← hL]
    clear hwc hL
    go_simp
    go_wp2
    refine wp_loop_rounds 3 ?_
    rw [rounds_succ]
    have l0 := HLl.out.cell (j := 0) rfl
    have r0 := HLr.out.1.cell (j := 0) rfl
    have r1 := HLr.out.1.cell (j := 1) rfl
    have t0 := HLr.out.2.cell (j := 0) rfl
    go_wp2_with fail
    refine (rwrite_ok HPc.out HQ.out s i HI.out ga 0 64 (nouW 64) HXa.out.rb).mono ?_
    rintro e9 w1a ⟨rfl, k9, p9⟩
    have HP1a : Hid (Pt w1a bp d m n (q + 1) dur (fun j => if j = i then some (nouW 64) else T j)) := p9
    have HK1a : Hid (Kp (fun x => x = d ∨ x = m) wc w1a) := k9.mono (fun _ _ e => Or.inr e)
    have hl9 : Lv w1a r [.pointer (some ⟨bp, 0, none⟩), .int .i64 s] := HLr.out.1.keep HK1a.out (fun e => by have := HG0.out; omega)
    have r0 := hl9.cell (j := 0) rfl
    have r1 := hl9.cell (j := 1) rfl
    clear k9 p9 hl9 HPc
    go_wp2_with fail
    refine (rsync_ok HP1a.out s).mono ?_
    rintro e9 w1b ⟨rfl, k9, p9⟩
    have HP1b : Hid (Pt w1b bp d m n 0 (durAll dur (fun j => if j = i then some (nouW 64) else T j) n) (fun _ => none)) := p9
    have HK1b : Hid (Kp (fun x => x = d ∨ x = m) wc w1b) := HK1a.out.trans k9 (fun _ _ e => e)
    clear k9 p9 HP1a r0 r1
    have hlL : Lv w1b L [.slice (some ⟨ga, 0, none⟩) 64 64, .slice (some ⟨gb, 0, none⟩) 64 64] := HLl.out.keep HK1b.out (fun e => by have := HG0.out; have := HGs.out; have := HK0.out.size; omega)
    have l1 := hlL.cell (j := 1) rfl
    have hl9 : Lv w1b r [.pointer (some ⟨bp, 0, none⟩), .int .i64 s] := HLr.out.1.keep HK1b.out (fun e => by have := HG0.out; omega)
    have r0 := hl9.cell (j := 0) rfl
    have r1 := hl9.cell (j := 1) rfl
    have hl8 : Lv w1b r2 [.int .i64 (a : Int), .int .i64 (b : Int), .int .i64 (c : Int), .int .i64 (e : Int)] := HLr.out.2.keep HK1b.out (fun e => by have := HG0.out; omega)
    have t0 := hl8.cell (j := 0) rfl
    clear hlL hl9 hl8
    go_wp2_with fail
    rw [rounds_succ]
    go_wp2_with fail
    refine (rwrite_ok HP1b.out (by decide) s i HI.out gb 0 64 hdb (HXb.out.keep HK1b.out (fun e => by have := HG0.out; have := HGs.out; have := HKc.out.size; have := HK0.out.size; omega)).rb).mono ?_
    rintro e9 w2a ⟨rfl, k9, p9⟩
    have HP2a : Hid (Pt w2a bp d m n (0 + 1) (durAll dur (fun j => if j = i then some (nouW 64) else T j) n) (fun j => if j = i then some (hdb) else none)) := p9
    have HK2a : Hid (Kp (fun x => x = d ∨ x = m) wc w2a) := HK1b.out.trans k9 (fun _ _ e => Or.inr e)
    have hl9 : Lv w2a r [.pointer (some ⟨bp, 0, none⟩), .int .i64 s] := HLr.out.1.keep HK2a.out (fun e => by have := HG0.out; omega)
    have r0 := hl9.cell (j := 0) rfl
    have r1 := hl9.cell (j := 1) rfl
    clear k9 p9 hl9 HP1b
    go_wp2_with fail
    refine (rsync_ok HP2a.out s).mono ?_
    rintro e9 w2b ⟨rfl, k9, p9⟩
    have HP2b : Hid (Pt w2b bp d m n 0 (durAll (durAll dur (fun j => if j = i then some (nouW 64) else T j) n) (fun j => if j = i then some (hdb) else none) n) (fun _ => none)) := p9
    have HK2b : Hid (Kp (fun x => x = d ∨ x = m) wc w2b) := HK2a.out.trans k9 (fun _ _ e => e)
    clear k9 p9 HP2a r0 r1
    have HF : Hid (Kp (fun x => x = d ∨ x = m) w w2b) := (HKc.out.mono (fun _ _ e => e.elim)).trans HK2b.out (fun _ _ e => e)
    have HPf : Hid (Pt w2b bp d m n 0 (wrHead dur T n i hdb) (fun _ => none)) := HP2b.out
    go_wp2_with fail
    rw [rounds_succ]
    go_wp2
    go_ret
    exact ⟨rfl, HF.out, HPf.out⟩
end Go.Proofs.YtippipeebkkghaaGreatDoor
