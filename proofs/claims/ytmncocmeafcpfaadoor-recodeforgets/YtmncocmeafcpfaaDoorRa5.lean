/- A recoder goes on; On (laid by scripts/mkrf.py). -/
import Derived.Test.YtmncocmeafcpfaaDoorRa4
namespace Go.Proofs.YtmncocmeafcpfaaDoor
set_option linter.unusedVariables false
set_option linter.unusedSimpArgs false
open Go.RowKit Go.Deep

set_option maxRecDepth 100000 in
set_option maxHeartbeats 1600000 in
theorem goOn_bad {w : World} {base r f g q oq cq n : Nat} {sm : Int} {p5 : Option Addr} {c5 : Nat} (ps : Option Addr) (cs : Nat) (xs : List Nat) (h : Rco w base r f g q oq cq n sm 1 (.slice ps 8 cs) p5 c5) (hx : Rb w ps 8 xs) (h1 : 1 ≤ n) (h8 : n ≤ 8) (hp : Mf.Pows w) (ht : Turns w) (HB : Hid ((((Crc.sum (xs.take n) : Nat) : Int) != sm) = true)) :
    Calls Tryd.prog 62 #[.pointer (some ⟨r, 0, none⟩)] w fun e w' => e = .returned (.tuple #[]) ∧ Kp (fun b => b = f ∨ b = g) w w' ∧ Rco w' base r f g q oq cq n sm 0 (.slice none 0 0) p5 c5 := by
  have HE : Hid (Calls Tryd.prog 92 #[.pointer (some ⟨f, 0, none⟩)] w fun e w' => e = .returned (.bool true) ∧ Kp (fun _ => False) w w') := (enough2 h.fe).mono fun e w' hh => ⟨hh.1, hh.2⟩
  have HJ : Hid (∀ u, Kp (fun _ => False) w u → Calls _ _ _ u _) := fun u k => join_bad ps cs xs (h.keep0 k) (hx.keep0 k) h1 h8 (pows_keep hp k id) (ht.keep0 k) HB
  have c0 := h.lr.cell (j := 0) rfl
  have c7 := h.lr.cell (j := 7) rfl
  clear h hx h1 h8 hp ht HB
  go_enter Tryd.func62, Tryd.ntmps62
  go_wp2
  go_step3
  go_wp2
  go_step3
  go_wp2
  go_loopg [2, 17] 1 (fun gk fa fb wr => (gk = 1 ∧ wr = w) ∨ (gk = 0 ∧ Kp (fun b => b = f ∨ b = g) w wr ∧ Rco wr base r f g q oq cq n sm 0 (.slice none 0 0) p5 c5))
  case atStart => exact Or.inl ⟨rfl, rfl⟩
  case round =>
    rcases hrel with ⟨rfl, hw⟩ | ⟨rfl, hr⟩
    · obtain rfl := hw.symm
      go_wp2_with (first
        | (go_at_call 92; refine HE.out.mono ?_; rintro e w1 ⟨rfl, k1⟩)
        | (go_at_call 98; refine (HJ.out _ k1).mono ?_; rintro e w2 ⟨rfl, k2, hj⟩))
      have HN : Hid (Kp (fun b => b = f ∨ b = g) w w2 ∧ Rco w2 base r f g q oq cq n sm 0 (.slice none 0 0) p5 c5) := ⟨(k1.mono (fun _ _ e => e.elim)).trans k2 (fun _ _ e => e), hj⟩
      clear k1 k2 hj
      go_roundg 0
      case rel => exact Or.inr ⟨rfl, HN.out⟩
      case measure => omega
    · have HE2 : Hid (Calls Tryd.prog 92 #[.pointer (some ⟨f, 0, none⟩)] wr fun e w' => e = .returned (.bool false) ∧ Kp (fun _ => False) wr w') := (enough2 hr.2.fe).mono fun e w' hh => ⟨hh.1, hh.2⟩
      have d0 := hr.2.lr.cell (j := 0) rfl
      have d7 := hr.2.lr.cell (j := 7) rfl
      have HN : Hid (Kp (fun b => b = f ∨ b = g) w wr ∧ Rco wr base r f g q oq cq n sm 0 (.slice none 0 0) p5 c5) := hr
      clear hr c0 c7
      go_wp2_with (go_at_call 92; refine HE2.out.mono ?_; rintro e w1 ⟨rfl, k1⟩; have x0 := k1.cellv d0 id)
      try rw [Exit.noGoto_normal]
      go_end0
      exact ⟨rfl, HN.out.1.trans k1 (fun _ _ e => e.elim), HN.out.2.keep0 k1⟩

set_option maxRecDepth 100000 in
set_option maxHeartbeats 1600000 in
theorem goOn_good {w : World} {base r f g q oq cq n : Nat} {sm : Int} {p5 : Option Addr} {c5 : Nat} (ps : Option Addr) (cs : Nat) (xs : List Nat) (h : Rco w base r f g q oq cq n sm 1 (.slice ps 8 cs) p5 c5) (hx : Rb w ps 8 xs) (h1 : 1 ≤ n) (h8 : n ≤ 8) (hp : Mf.Pows w) (ht : Turns w) (HB : Hid ((((Crc.sum (xs.take n) : Nat) : Int) != sm) = false)) :
    Calls Tryd.prog 62 #[.pointer (some ⟨r, 0, none⟩)] w fun e w' => e = .returned (.tuple #[]) ∧ Kp (fun b => b = r) w w' ∧ ∃ nv sp, Lv w' r (recA 2 2 nv (.pointer none) (.pointer (some ⟨sp, 0, none⟩))) ∧ w'.cell? ⟨sp, 3, none⟩ = some (.int .i64 1) := by
  have HE : Hid (Calls Tryd.prog 92 #[.pointer (some ⟨f, 0, none⟩)] w fun e w' => e = .returned (.bool true) ∧ Kp (fun _ => False) w w') := (enough2 h.fe).mono fun e w' hh => ⟨hh.1, hh.2⟩
  have HJ : Hid (∀ u, Kp (fun _ => False) w u → Calls _ _ _ u _) := fun u k => join_good ps cs xs (h.keep0 k) (hx.keep0 k) h1 h8 (pows_keep hp k id) (ht.keep0 k) HB
  have c0 := h.lr.cell (j := 0) rfl
  have c7 := h.lr.cell (j := 7) rfl
  clear h hx h1 h8 hp ht HB
  go_enter Tryd.func62, Tryd.ntmps62
  go_wp2
  go_step3
  go_wp2
  go_step3
  go_wp2
  go_loopg [2, 17] 1 (fun gk fa fb wr => (gk = 1 ∧ wr = w) ∨ (gk = 0 ∧ Kp (fun b => b = r) w wr ∧ ∃ nv sp, Lv wr r (recA 2 2 nv (.pointer none) (.pointer (some ⟨sp, 0, none⟩))) ∧ wr.cell? ⟨sp, 3, none⟩ = some (.int .i64 1)))
  case atStart => exact Or.inl ⟨rfl, rfl⟩
  case round =>
    rcases hrel with ⟨rfl, hw⟩ | ⟨rfl, hr⟩
    · obtain rfl := hw.symm
      go_wp2_with (first
        | (go_at_call 92; refine HE.out.mono ?_; rintro e w1 ⟨rfl, k1⟩)
        | (go_at_call 98; refine (HJ.out _ k1).mono ?_; rintro e w2 ⟨rfl, k2, hj⟩))
      have HN : Hid (Kp (fun b => b = r) w w2 ∧ ∃ nv sp, Lv w2 r (recA 2 2 nv (.pointer none) (.pointer (some ⟨sp, 0, none⟩))) ∧ w2.cell? ⟨sp, 3, none⟩ = some (.int .i64 1)) := ⟨(k1.mono (fun _ _ e => e.elim)).trans k2 (fun _ _ e => e), hj⟩
      clear k1 k2 hj
      go_roundg 0
      case rel => exact Or.inr ⟨rfl, HN.out⟩
      case measure => omega
    · obtain ⟨kr, nv, sp, lr, csp⟩ := hr
      have HD : Hid (Calls Tryd.prog 99 #[.pointer (some ⟨sp, 0, none⟩)] wr fun e w' => e = .returned (.bool false) ∧ w' = wr) := sdone sp 1 wr csp
      have d0 := lr.cell (j := 0) rfl
      have d8 := lr.cell (j := 8) rfl
      have HN : Hid (Kp (fun b => b = r) w wr ∧ ∃ nv sp, Lv wr r (recA 2 2 nv (.pointer none) (.pointer (some ⟨sp, 0, none⟩))) ∧ wr.cell? ⟨sp, 3, none⟩ = some (.int .i64 1)) := ⟨kr, nv, sp, lr, csp⟩
      clear kr lr csp c0 c7
      go_wp2_with (go_at_call 99; refine HD.out.mono ?_; rintro e w1 ⟨rfl, hw1⟩; obtain rfl := hw1.symm)
      try rw [Exit.noGoto_normal]
      go_end0
      exact ⟨rfl, HN.out⟩

set_option maxRecDepth 100000 in
set_option maxHeartbeats 1600000 in
theorem ron_bad {w : World} {base r f g q oq cq n : Nat} {sm : Int} {p5 : Option Addr} {c5 : Nat} (h : Rco w base r f g q oq cq n sm 0 (.slice none 0 0) p5 c5) (pb : Option Addr) (c : Nat) (xs : List Nat) (hx : Rb w pb 8 xs) (h1 : 1 ≤ n) (h8 : n ≤ 8) (hp : Mf.Pows w) (ht : Turns w) (hgb : 1 < base ∧ 0 < base) (HB : Hid ((((Crc.sum (xs.take n) : Nat) : Int) != sm) = true)) :
    Calls Tryd.prog 30 #[.pointer (some ⟨r, 0, none⟩), .agg (msgF 13 0 4 0 true (.slice pb 8 c))] w fun e w' => e = .returned (.bool true) ∧ Kp (fun b => b = f ∨ b = g) w w' ∧ Rco w' base r f g q oq cq n sm 0 (.slice none 0 0) p5 c5 := by
  have hL : Mf.lenOf 1 n = 8 := by unfold Mf.lenOf Mf.stripesOf; omega
  have k0 : Kp (fun _ => False) w (w.alloc (.cells (msgF 13 0 4 0 true (.slice pb 8 c)) 45)) := (Kp.refl _ _).alloc _
  have HMb : Hid (Lv (w.alloc (.cells (msgF 13 0 4 0 true (.slice pb 8 c)) 45)) w.heap.size (msgF 13 0 4 0 true (.slice pb 8 c)).toList) := Lv.new w _ _
  have HRC : Hid (Rco w base r f g q oq cq n sm 0 (.slice none 0 0) p5 c5) := h
  have HPh : Hid (∀ u, Kp (fun _ => False) w u → Calls _ _ _ u _) := fun u k => rphase r 1 u ((h.lr.keep k id).cell (j := 0) rfl)
  have HFo : Hid (∀ u, Kp (fun _ => False) w u → Calls _ _ _ u _) := fun u k => fon2 (h.fe.keep0 k) (by omega) hL pb c xs (hx.keep0 k)
  have HV : Hid (1 ≤ n ∧ n ≤ 8 ∧ Mf.Pows w ∧ Turns w ∧ 1 < base ∧ 0 < base) := ⟨h1, h8, hp, ht, hgb⟩
  obtain ⟨mv, hmv⟩ : ∃ mv : Array Value, mv = msgF 13 0 4 0 true (.slice pb 8 c) := ⟨_, rfl⟩
  have HMV : Hid (mv = msgF 13 0 4 0 true (.slice pb 8 c)) := hmv
  rw [← hmv] at HMb k0 HFo ⊢
  clear h hx h1 h8 hp ht hgb hmv hL
  go_enter Tryd.func30, Tryd.ntmps30
  go_wp2_with (go_at_call 29; refine (HPh.out _ k0).mono ?_; rintro e w1 ⟨rfl, hw1⟩; obtain rfl := hw1.symm)
  obtain ⟨u, hu⟩ : ∃ x, x = w.alloc (.cells mv 45) := ⟨_, rfl⟩
  obtain ⟨bx, hbx⟩ : ∃ x, x = w.heap.size := ⟨_, rfl⟩
  rw [← hu, ← hbx] at HMb
  rw [← hu] at k0
  rw [← hu, ← hbx]
  have HBX : Hid (bx = w.heap.size) := hbx
  clear hu hbx
  have kd : Kp (fun _ => False) u u.drew := (Kp.refl _ _).drew
  have kwd := k0.trans kd (fun _ _ e => e)
  have HSS : Hid (∀ z, Lv z bx mv.toList → Lv z r (recA 1 2 (.slice p5 1 c5) (.pointer (some ⟨f, 0, none⟩)) (.pointer none)) → z.cell? ⟨r, 7, none⟩ = some (.pointer (some ⟨f, 0, none⟩)) ∧ (loadVar 45 ⟨bx, 0, none⟩).run Tryd.prog z = .ok (.agg mv) z) := fun z hz hr => by
    have hld := hz.load dsMsg szMsg (by rw [HMV.out]; rfl)
    rw [Array.toArray_toList] at hld
    exact ⟨hr.cell (j := 7) rfl, hld⟩
  refine ro4_region ⟨by kernel_rfl, by kernel_rfl, by kernel_rfl, by kernel_rfl, by kernel_rfl, by kernel_rfl, by kernel_rfl, by kernel_rfl, by kernel_rfl, by kernel_rfl, by kernel_rfl, by kernel_rfl, by kernel_rfl⟩ r bx f mv (fun d _ _ _ _ h => by cases d <;> exact h) (by rfl) (by rfl) (by rfl) (HSS.out _ (HMb.out.keep kd id) (HRC.out.lr.keep kwd id)) (fun z => Kp (fun b => b = f ∨ b = g) w z ∧ ∃ ps cs, Rco z base r f g q oq cq n sm 1 (.slice ps 8 cs) p5 c5 ∧ Rb z ps 8 xs) ((HFo.out _ kwd).mono ?_) ?_
  · rintro e z ⟨rfl, kz, ps, cs, fe, rb, hcs, hps⟩
    have R0 := HRC.out.keep0 kwd
    have hlt := HRC.out.fe.lt
    have hbx := HBX.out
    have lr := R0.lr.keep kz (fun e => by have := R0.ne; omega)
    exact ⟨rfl, HSS.out z ((HMb.out.keep kd id).keep kz (fun e => by omega)) lr, (kwd.mono (fun _ _ e => e.elim)).trans kz (fun _ _ e => e), ps, cs, ⟨lr, fe, R0.fl.keep kz (fun b hb e => by omega), R0.ne, R0.b⟩, rb⟩
  intro z hT
  simp only [Act.put, List.setIfInBounds_toArray, List.set_cons_succ, List.set_cons_zero]
  obtain ⟨kwz, ps, cs, Rz, rb⟩ := hT
  obtain ⟨h1, h8, hp, ht, hg1, hg2⟩ := HV.out
  have hbb := Rz.b
  have HGo : Hid (Calls _ _ _ z _) := goOn_bad ps cs xs Rz rb h1 h8 (pows_keep hp kwz (fun e => by omega)) (ht.keep kwz (fun e => by omega)) HB
  have HZ : Hid (Kp (fun b => b = f ∨ b = g) w z ∧ True) := ⟨kwz, trivial⟩
  clear kwz Rz rb h1 h8 hp ht hg1 hg2 hbb kd kwd HSS HFo HPh
  go_wp2_with (go_at_call 62; refine HGo.out.mono ?_; rintro e z3 ⟨rfl, k3, hj⟩)
  go_ret
  exact ⟨rfl, HZ.out.1.trans k3 (fun _ _ e => e), hj⟩

set_option maxRecDepth 100000 in
set_option maxHeartbeats 1600000 in
theorem ron_good {w : World} {base r f g q oq cq n : Nat} {sm : Int} {p5 : Option Addr} {c5 : Nat} (h : Rco w base r f g q oq cq n sm 0 (.slice none 0 0) p5 c5) (pb : Option Addr) (c : Nat) (xs : List Nat) (hx : Rb w pb 8 xs) (h1 : 1 ≤ n) (h8 : n ≤ 8) (hp : Mf.Pows w) (ht : Turns w) (hgb : 1 < base ∧ 0 < base) (HB : Hid ((((Crc.sum (xs.take n) : Nat) : Int) != sm) = false)) :
    Calls Tryd.prog 30 #[.pointer (some ⟨r, 0, none⟩), .agg (msgF 13 0 4 0 true (.slice pb 8 c))] w fun e w' => e = .returned (.bool true) ∧ Kp (fun b => b = r ∨ b = f ∨ b = g) w w' ∧ ∃ nv sp, Lv w' r (recA 2 2 nv (.pointer none) (.pointer (some ⟨sp, 0, none⟩))) := by
  have hL : Mf.lenOf 1 n = 8 := by unfold Mf.lenOf Mf.stripesOf; omega
  have k0 : Kp (fun _ => False) w (w.alloc (.cells (msgF 13 0 4 0 true (.slice pb 8 c)) 45)) := (Kp.refl _ _).alloc _
  have HMb : Hid (Lv (w.alloc (.cells (msgF 13 0 4 0 true (.slice pb 8 c)) 45)) w.heap.size (msgF 13 0 4 0 true (.slice pb 8 c)).toList) := Lv.new w _ _
  have HRC : Hid (Rco w base r f g q oq cq n sm 0 (.slice none 0 0) p5 c5) := h
  have HPh : Hid (∀ u, Kp (fun _ => False) w u → Calls _ _ _ u _) := fun u k => rphase r 1 u ((h.lr.keep k id).cell (j := 0) rfl)
  have HFo : Hid (∀ u, Kp (fun _ => False) w u → Calls _ _ _ u _) := fun u k => fon2 (h.fe.keep0 k) (by omega) hL pb c xs (hx.keep0 k)
  have HV : Hid (1 ≤ n ∧ n ≤ 8 ∧ Mf.Pows w ∧ Turns w ∧ 1 < base ∧ 0 < base) := ⟨h1, h8, hp, ht, hgb⟩
  obtain ⟨mv, hmv⟩ : ∃ mv : Array Value, mv = msgF 13 0 4 0 true (.slice pb 8 c) := ⟨_, rfl⟩
  have HMV : Hid (mv = msgF 13 0 4 0 true (.slice pb 8 c)) := hmv
  rw [← hmv] at HMb k0 HFo ⊢
  clear h hx h1 h8 hp ht hgb hmv hL
  go_enter Tryd.func30, Tryd.ntmps30
  go_wp2_with (go_at_call 29; refine (HPh.out _ k0).mono ?_; rintro e w1 ⟨rfl, hw1⟩; obtain rfl := hw1.symm)
  obtain ⟨u, hu⟩ : ∃ x, x = w.alloc (.cells mv 45) := ⟨_, rfl⟩
  obtain ⟨bx, hbx⟩ : ∃ x, x = w.heap.size := ⟨_, rfl⟩
  rw [← hu, ← hbx] at HMb
  rw [← hu] at k0
  rw [← hu, ← hbx]
  have HBX : Hid (bx = w.heap.size) := hbx
  clear hu hbx
  have kd : Kp (fun _ => False) u u.drew := (Kp.refl _ _).drew
  have kwd := k0.trans kd (fun _ _ e => e)
  have HSS : Hid (∀ z, Lv z bx mv.toList → Lv z r (recA 1 2 (.slice p5 1 c5) (.pointer (some ⟨f, 0, none⟩)) (.pointer none)) → z.cell? ⟨r, 7, none⟩ = some (.pointer (some ⟨f, 0, none⟩)) ∧ (loadVar 45 ⟨bx, 0, none⟩).run Tryd.prog z = .ok (.agg mv) z) := fun z hz hr => by
    have hld := hz.load dsMsg szMsg (by rw [HMV.out]; rfl)
    rw [Array.toArray_toList] at hld
    exact ⟨hr.cell (j := 7) rfl, hld⟩
  refine ro4_region ⟨by kernel_rfl, by kernel_rfl, by kernel_rfl, by kernel_rfl, by kernel_rfl, by kernel_rfl, by kernel_rfl, by kernel_rfl, by kernel_rfl, by kernel_rfl, by kernel_rfl, by kernel_rfl, by kernel_rfl⟩ r bx f mv (fun d _ _ _ _ h => by cases d <;> exact h) (by rfl) (by rfl) (by rfl) (HSS.out _ (HMb.out.keep kd id) (HRC.out.lr.keep kwd id)) (fun z => Kp (fun b => b = f ∨ b = g) w z ∧ ∃ ps cs, Rco z base r f g q oq cq n sm 1 (.slice ps 8 cs) p5 c5 ∧ Rb z ps 8 xs) ((HFo.out _ kwd).mono ?_) ?_
  · rintro e z ⟨rfl, kz, ps, cs, fe, rb, hcs, hps⟩
    have R0 := HRC.out.keep0 kwd
    have hlt := HRC.out.fe.lt
    have hbx := HBX.out
    have lr := R0.lr.keep kz (fun e => by have := R0.ne; omega)
    exact ⟨rfl, HSS.out z ((HMb.out.keep kd id).keep kz (fun e => by omega)) lr, (kwd.mono (fun _ _ e => e.elim)).trans kz (fun _ _ e => e), ps, cs, ⟨lr, fe, R0.fl.keep kz (fun b hb e => by omega), R0.ne, R0.b⟩, rb⟩
  intro z hT
  simp only [Act.put, List.setIfInBounds_toArray, List.set_cons_succ, List.set_cons_zero]
  obtain ⟨kwz, ps, cs, Rz, rb⟩ := hT
  obtain ⟨h1, h8, hp, ht, hg1, hg2⟩ := HV.out
  have hbb := Rz.b
  have HGo : Hid (Calls _ _ _ z _) := goOn_good ps cs xs Rz rb h1 h8 (pows_keep hp kwz (fun e => by omega)) (ht.keep kwz (fun e => by omega)) HB
  have HZ : Hid (Kp (fun b => b = f ∨ b = g) w z ∧ True) := ⟨kwz, trivial⟩
  clear kwz Rz rb h1 h8 hp ht hg1 hg2 hbb kd kwd HSS HFo HPh
  go_wp2_with (go_at_call 62; refine HGo.out.mono ?_; rintro e z3 ⟨rfl, k3, hj⟩)
  go_ret
  obtain ⟨nv, sp, lr, _⟩ := hj
  exact ⟨rfl, (HZ.out.1.mono (fun _ _ e => Or.inr e)).trans k3 (fun _ _ e => Or.inl e), nv, sp, lr⟩

end Go.Proofs.YtmncocmeafcpfaaDoor
