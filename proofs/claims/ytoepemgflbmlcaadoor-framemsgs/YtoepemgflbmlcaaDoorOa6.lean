/- frame.ReadMsg's closure, attempt, ReadMsg. -/
import Derived.Test.YtoepemgflbmlcaaDoorOa5
import Derived.Test.YtoepemgflbmlcaaDoorOt
import Derived.Test.YtoepemgflbmlcaaDoorOi
namespace Go.Proofs.YtoepemgflbmlcaaDoor
set_option linter.unusedVariables false
set_option linter.unusedSimpArgs false
open Go.RowKit Go.Deep

/-- the message of bytes, plain -/
def okM (xs : List Nat) : Option Mp := (rdMsg xs).bind (fun p => if p.2 = [] ∧ mayM (msOf p.1) = true then some p.1 else none)
theorem good_csOf {c : Cp} (h : c.fit) : goodC (csOf c) := ⟨by show (0 : Int) ≤ (c.sum : Int); omega, by show (c.sum : Int) < 4294967296; have := h.s; omega, by show (str c.key).size ≤ _; rw [str_size]; have := h.k; omega⟩
theorem good_msOf {m : Mp} (h : m.fit) : goodM (msOf m) := ⟨good_csOf h.c, fun v hv => by
  obtain ⟨x, hx, rfl⟩ := List.mem_map.1 (show v ∈ m.votes.map voOf from hv)
  exact good_csOf (h.v x hx).c⟩
/-- what the closure answers -/
def M1Res (xs : List Nat) (w : World) (e : Ending) (w' : World) : Prop := match okM xs with
  | some m => ∃ v, e = .returned v ∧ Mr w' (fun b => w.heap.size ≤ b ∧ b < w'.heap.size) (msOf m) v
  | none => e = .panicked gaveUp
theorem Mr.form {w : World} {Z : Nat → Prop} {μ : Ms} {v : Value} (h : Mr w Z μ v) : ∃ xa : Array Value, v = .agg xa ∧ xa.toList.length = 24 ∧ xa.toList.toArray.all (·.oneCell') = true := by
  obtain ⟨p, cp, pv, cv, l, pb, cb, rfl, _⟩ := h
  exact ⟨_, rfl, rfl, msg_one _ rfl rfl rfl⟩
theorem zeroM_one : zeroM.toList.toArray.all (·.oneCell') = true := msg_one ⟨0, 0, 0, 0, 0, 0, 0, 0, 0, false, ⟨0, 0, ⟨#[]⟩, 0, 0, 0, 0, 0, 0, 0, 0⟩⟩ (a := .slice none 0 0) (b := .slice none 0 0) (c := .slice none 0 0) rfl rfl rfl

set_option maxRecDepth 100000 in
set_option maxHeartbeats 3200000 in
theorem rm1_ok {Z : Nat → Prop} (r : Nat) (xs : List Nat) (w : World) (h : Cu Z w r xs) (hb : ∀ x ∈ xs, x < 256) (hZ : ∀ b, Z b → b < w.heap.size) : Calls Tryd.prog 42 #[.pointer (some ⟨r, 0, none⟩)] w fun e w' => M1Res xs w e w' ∧ Kp (fun b => b = r) w w' := by
  have hr : r < w.heap.size := by
    obtain ⟨q, m, c, h1, _⟩ := h
    exact World.block_lt_of_cell? _ _ h1
  obtain ⟨h2, hh2⟩ : ∃ x, x = w.heap.size := ⟨_, rfl⟩
  obtain ⟨u, hu⟩ : ∃ x, x = w.alloc (.cells zeroM 40) := ⟨_, rfl⟩
  have k0 : Kp (fun _ => False) w u := by rw [hu]; exact (Kp.refl _ _).alloc _
  have HLh : Hid (Lv u h2 zeroM.toList) := by rw [hu, hh2]; exact Lv.new w _ _
  have HK0 : Hid (Kp (fun b => b = r) w u) := k0.mono (fun _ _ e => e.elim)
  have HO : Hid (r < h2 ∧ h2 = w.heap.size ∧ u.heap.size = h2 + 1) := by
    have : u.heap.size = w.heap.size + 1 := by rw [hu]; simp
    show _ ∧ _
    omega
  have HC : Hid (Calls _ _ _ u _) := rmsg_ok r xs u (h.keep k0 id (fun _ _ => id)) hb (fun b hb => by have := hZ b hb; have := HO.out; omega)
  have HB : Hid (∀ x ∈ xs, x < 256) := hb
  have HPan : Hid (∀ (a : Act) (w' : World), a.defers = [] → okM xs = none → Kp (fun b => b = r) w w' → bodyPost Tryd.prog Tryd.f42 (fun e w' => M1Res xs w e w' ∧ Kp (fun b => b = r) w w') (.panic gaveUp) a w') := fun a w' hd hn k => ⟨hd, by unfold M1Res; rw [hn], k⟩
  have hu' : w.alloc (.cells #[.int .i64 0, .int .i64 0, .int .i64 0, .int .i64 0, .int .i64 0, .int .i64 0, .int .i64 0, .int .i64 0, .int .i64 0, .bool false, .int .i64 0, .int .i64 0, .string ⟨#[]⟩, .int .i64 0, .int .i64 0, .int .i64 0, .int .i64 0, .int .i64 0, .int .u32 0, .int .i64 0, .int .i64 0, .slice none 0 0, .slice none 0 0, .slice none 0 0] 40) = u := hu.symm
  have HNy : Hid (∀ z, Calls _ _ _ z _) := need_yes (.pointer (some ⟨r, 0, none⟩))
  have HNn : Hid (∀ z, Calls _ _ _ z _) := need_no (.pointer (some ⟨r, 0, none⟩))
  clear h hb hZ hr hu k0
  go_enter Tryd.func42, Tryd.ntmps42
  go_wp2_with fail
  refine HC.out.mono ?_
  rintro e9 w1 ⟨hq, k1⟩
  have HK1 : Hid (Kp (fun b => b = r) w w1) := HK0.out.trans k1 (fun _ _ e => e)
  have HLh1 : Hid (Lv w1 h2 zeroM.toList) := HLh.out.keep k1 (fun e => by have := HO.out; omega)
  have HU1 : Hid (h2 + 1 ≤ w1.heap.size) := by have := k1.size; have := HO.out; show _ ≤ _; omega
  rw [← hh2]
  clear hu' hh2 k1 HC
  unfold MsRes at hq
  cases hm : rdMsg xs with
  | none =>
    rw [hm] at hq
    have he : e9 = .panicked gaveUp := hq
    subst he
    exact HPan.out _ _ rfl (by unfold okM; rw [hm]; rfl) HK1.out
  | some p =>
  obtain ⟨c, t⟩ := p
  rw [hm] at hq
  obtain ⟨v, he, hmr, hc⟩ := hq
  subst he
  have HM : Hid (rdMsg xs = some (c, t)) := hm
  have HC1 : Hid (Cu Z w1 r t) := hc
  have HF1 : Hid (Mr w1 (fun b => u.heap.size ≤ b ∧ b < w1.heap.size) (msOf c) v) := hmr
  have HFit : Hid (c.fit) := (rdMsg_back HB.out hm).2.1
  obtain ⟨xa, hxa, hxl, hx1⟩ := hmr.form
  have HXl : Hid (xa.toList.length = 24) := hxl
  have HX1 : Hid (xa.toList.toArray.all (·.oneCell') = true) := hx1
  subst hxa
  have HMay : Hid (∀ z, Mr z (fun b => u.heap.size ≤ b ∧ b < w1.heap.size) (msOf c) (.agg xa) → Calls Tryd.prog 39 #[.agg xa] z fun e w' => e = .returned (.bool (mayM (msOf c))) ∧ Kp (fun _ => False) z w') := fun z hz => mayMsg_ok _ (msOf c) (.agg xa) z hz (good_msOf HFit.out)
  clear hc hmr hm hxl hx1
  obtain ⟨dC, hdC, hdR⟩ := dsMsg
  go_upto_region 2 with (refine wpList_store_all rfl 40 _ _ rfl 24 w1.heap.size zeroM.toList xa.toList rfl (by rw [Array.toArray_toList]; rfl) (by exact Lv.new w1 _ _) szMsg rfl HXl.out HX1.out ?_; intro w2 hl2 k2)
  have k12 : Kp (fun _ => False) w1 w2 := ((Kp.refl (fun _ => False) w1).alloc (.cells zeroM 40)).trans k2 (fun b hb e => by omega)
  obtain ⟨g, hg⟩ : ∃ x, x = w1.heap.size := ⟨_, rfl⟩
  rw [← hg] at hl2 ⊢
  have HL2 : Hid (Lv w2 g xa.toList) := hl2
  have HLh2 : Hid (Lv w2 h2 zeroM.toList) := HLh1.out.keep k12 id
  have HC2 : Hid (Cu Z w2 r t) := HC1.out.keep k12 id (fun _ _ => id)
  have HF2 : Hid (Mr w2 (fun b => u.heap.size ≤ b ∧ b < w1.heap.size) (msOf c) (.agg xa)) := HF1.out.keep k12 (fun _ _ => id)
  have HK2 : Hid (Kp (fun b => b = r) w w2) := HK1.out.trans k12 (fun _ _ e => e.elim)
  have HG : Hid (g = w1.heap.size ∧ h2 < g) := ⟨hg, by have := HU1.out; omega⟩
  clear k2 k12 hl2 hg HC1 HF1
  have HD : Hid (Calls _ _ _ w2 _) := done_ok r t w2 HC2.out
  go_wp2_with fail
  refine HD.out.mono ?_
  rintro e9 w9 ⟨rfl, hw9⟩
  have hw8 := hw9.symm
  subst hw8
  clear hw9 HD
  cases t with
  | cons y t' =>
    have HOk : Hid (okM xs = none) := by show _ = _; unfold okM; rw [HM.out]; rfl
    go_wp2_with fail
    refine (HNn.out w2).mono ?_
    rintro e9 w9 ⟨rfl, hw9⟩
    have hw8 := hw9.symm
    subst hw8
    exact HPan.out _ _ rfl HOk.out HK2.out
  | nil =>
    go_wp2_with (refine wpList_ldw (by first | rfl | go_simp) 40 _ rfl g rfl xa.toList dC HL2.out hdC hdR (by rw [szMsg, HXl.out]) ?_; rw [Array.toArray_toList])
    refine (HMay.out w2 HF2.out).mono ?_
    rintro e9 w3 ⟨rfl, k3⟩
    have HL3 : Hid (Lv w3 g xa.toList) := HL2.out.keep k3 id
    have HLh3 : Hid (Lv w3 h2 zeroM.toList) := HLh2.out.keep k3 id
    have HF3 : Hid (Mr w3 (fun b => u.heap.size ≤ b ∧ b < w1.heap.size) (msOf c) (.agg xa)) := HF2.out.keep k3 (fun _ _ => id)
    have HK3 : Hid (Kp (fun b => b = r) w w3) := HK2.out.trans k3 (fun _ _ e => e.elim)
    have HZ3 : Hid (w1.heap.size ≤ w3.heap.size) := by have h1 := HL2.out.lt (by rw [HXl.out]; decide); have h2 := HG.out; have h3 := k3.size; show _ ≤ _; omega
    clear k3
    cases hM : mayM (msOf c) with
    | false =>
      have HOk : Hid (okM xs = none) := by show _ = _; unfold okM; rw [HM.out]; show (if _ then _ else _) = _; rw [if_neg]; intro h9; have := h9.2; dsimp only at this; rw [hM] at this; cases this
      clear hM
      go_wp2_with fail
      refine (HNn.out w3).mono ?_
      rintro e9 w9 ⟨rfl, hw9⟩
      have hw8 := hw9.symm
      subst hw8
      exact HPan.out _ _ rfl HOk.out HK3.out
    | true =>
      have HOk : Hid (okM xs = some c) := by show _ = _; unfold okM; rw [HM.out]; show (if _ then _ else _) = _; rw [if_pos]; exact ⟨rfl, hM⟩
      clear hM
      go_wp2_with fail
      refine (HNy.out w3).mono ?_
      rintro e9 w9 ⟨⟨v9, rfl⟩, hw9⟩
      have hw8 := hw9.symm
      subst hw8
      clear hw9
      go_wp2_with (first
        | (refine wpList_load_all rfl 40 _ rfl 24 g xa.toList rfl HL3.out ⟨dC, hdC, hdR⟩ szMsg HXl.out ?_)
        | (refine wpList_store_all rfl 40 _ _ rfl 24 h2 zeroM.toList xa.toList rfl rfl HLh3.out szMsg rfl HXl.out HX1.out ?_; intro w4 hl4 k4))
      refine bodyPost_ret (res_cell Tryd.results42 _ _ h2 _ rfl (hl4.load ⟨dC, hdC, hdR⟩ szMsg HXl.out)) rfl ?_
      refine ⟨?_, HK3.out.trans k4 (fun b hb e => by have := HO.out; omega)⟩
      unfold M1Res
      rw [HOk.out]
      refine ⟨_, rfl, ?_⟩
      rw [Array.toArray_toList]
      exact (HF3.out.keep k4 (fun b hb e => by have := HO.out; omega)).mono (fun b hb => ⟨by have := HO.out; omega, by have := HZ3.out; have := k4.size; omega⟩)

theorem mcatch_p (p : Addr) (x : Int) (ty : TypeId) (pv : Value) (older : List PanicEntry) (w : World) (hc : w.cell? p = some (.int .i64 x)) (hz : w.frozen? p = false) :
    CallsD Tryd.prog 61 #[.pointer (some p)] (.panicking ({ v := .iface ty pv, recovered := false } :: older)) w fun e u' w' =>
      e = .returned (.tuple #[]) ∧ u' = .panicking ({ v := .iface ty pv, recovered := true } :: older) ∧ w' = w.setCell p (.int .i64 51) := by
  refine callsD_of_wpS Tryd.func61 rfl fun c₀ cs hu => ?_
  apply wpS_seq
  apply wpS_region
  simp [wpOpsS, go_sem, recoverD, hu, Tryd.ntmps61, Exit.thenS]
  refine wpS_cond (t := true) (by simp [Act.eval, Array.replicate]) ?_
  simp only [if_true]
  apply wpS_region
  simp [wpOpsS, go_sem, hc, hz, bodyPostS, results, Tryd.results61]

theorem mcatch_i (p : Addr) (w : World) :
    CallsD Tryd.prog 61 #[.pointer (some p)] .returning w fun e u' w' => e = .returned (.tuple #[]) ∧ u' = .returning ∧ w' = w := by
  refine callsD_of_wpS Tryd.func61 rfl fun c₀ cs hu => ?_
  apply wpS_seq
  apply wpS_region
  simp [wpOpsS, go_sem, recoverD, hu, Tryd.ntmps61, Exit.thenS]
  refine wpS_cond (t := false) (by simp [Act.eval, Array.replicate]) ?_
  simp only [Bool.false_eq_true, if_false]
  refine wpS_of_wp (wp_skip ?_)
  cases c₀
  simp_all [bodyPostS, results, Tryd.results61]

/-- what attempt answers -/
def MtRes (xs : List Nat) (w : World) (e : Ending) (w' : World) : Prop := match okM xs with
  | some m => ∃ v, e = .returned (.tuple #[v, .int .i64 0]) ∧ Mr w' (fun b => w.heap.size ≤ b ∧ b < w'.heap.size) (msOf m) v
  | none => e = .returned (.tuple #[.agg zeroM, .int .i64 51])

set_option maxRecDepth 100000 in
set_option maxHeartbeats 3200000 in
theorem mattempt_ok {Z : Nat → Prop} (r : Nat) (xs : List Nat) (w : World) (h : Cu Z w r xs) (hb : ∀ x ∈ xs, x < 256) (hZ : ∀ b, Z b → b < w.heap.size) : Calls Tryd.prog 41 #[.func (.func 42) #[] #[.pointer (some ⟨r, 0, none⟩)]] w fun e w' => MtRes xs w e w' ∧ Kp (fun b => b = r) w w' := by
  have hr : r < w.heap.size := by
    obtain ⟨q, m, c, h1, _⟩ := h
    exact World.block_lt_of_cell? _ _ h1
  obtain ⟨h2, hh2⟩ : ∃ x, x = w.heap.size := ⟨_, rfl⟩
  obtain ⟨g, hg⟩ : ∃ x, x = w.heap.size + 1 := ⟨_, rfl⟩
  obtain ⟨u, hu⟩ : ∃ x, x = (w.alloc (.cells zeroM 40)).alloc (.cells #[.int .i64 0] 29) := ⟨_, rfl⟩
  have z1 : (w.alloc (.cells zeroM 40)).heap.size = w.heap.size + 1 := by simp
  have k0 : Kp (fun _ => False) w u := by rw [hu]; exact ((Kp.refl _ _).alloc _).alloc _
  have HLh : Hid (Lv u h2 zeroM.toList) := by rw [hu, hh2]; exact (Lv.new w _ _).keep ((Kp.refl (fun _ => False) _).alloc _) id
  have HLg : Hid (Lv u g [.int .i64 0]) := by rw [hu, hg, ← z1]; exact Lv.new _ _ _
  have HK0 : Hid (Kp (fun b => b = r) w u) := k0.mono (fun _ _ e => e.elim)
  have HO : Hid (r < h2 ∧ h2 = w.heap.size ∧ g = h2 + 1 ∧ u.heap.size = g + 1) := by
    have : u.heap.size = w.heap.size + 2 := by rw [hu]; simp
    show _ ∧ _
    omega
  have HC : Hid (Calls _ _ _ u _) := rm1_ok r xs u (h.keep k0 id (fun _ _ => id)) hb (fun b hb => by have := hZ b hb; have := HO.out; omega)
  have hu' : (w.alloc (.cells #[.int .i64 0, .int .i64 0, .int .i64 0, .int .i64 0, .int .i64 0, .int .i64 0, .int .i64 0, .int .i64 0, .int .i64 0, .bool false, .int .i64 0, .int .i64 0, .string ⟨#[]⟩, .int .i64 0, .int .i64 0, .int .i64 0, .int .i64 0, .int .i64 0, .int .u32 0, .int .i64 0, .int .i64 0, .slice none 0 0, .slice none 0 0, .slice none 0 0] 40)).alloc (.cells #[.int .i64 0] 29) = u := hu.symm
  have hmf : ∀ (fn : Fn) (first cap : Array Value) (w : World), (Instr.makeFunc fn first cap).run Tryd.prog w = .ok (.func fn first cap) w := fun _ _ _ _ => rfl
  clear h hb hZ hr hu z1 k0
  go_enter_defers Tryd.func41, Tryd.ntmps41
  go_wp2_with fail
  refine HC.out.mono ?_
  rintro e9 w1 ⟨hq, k1⟩
  have HK1 : Hid (Kp (fun b => b = r) w w1) := HK0.out.trans k1 (fun _ _ e => e)
  have HLh1 : Hid (Lv w1 h2 zeroM.toList) := HLh.out.keep k1 (fun e => by have := HO.out; omega)
  have HLg1 : Hid (Lv w1 g [.int .i64 0]) := HLg.out.keep k1 (fun e => by have := HO.out; omega)
  rw [← hg, ← hh2]
  clear hu' hh2 hg k1 HC
  unfold M1Res at hq
  cases hm : okM xs with
  | none =>
    rw [hm] at hq
    have he : e9 = .panicked gaveUp := hq
    subst he
    have HM : Hid (okM xs = none) := hm
    clear hm
    refine leaves_cons (f := 61) (args := #[.pointer (some ⟨g, 0, none⟩)]) (by simp) (by simp [go_sem]) ?_
    refine (mcatch_p ⟨g, 0, none⟩ 0 29 _ [] w1 (HLg1.out.cell (j := 0) rfl) (HLg1.out.fz (show 0 < 1 by omega))).mono ?_
    rintro e u' w2 ⟨rfl, rfl, hw2⟩
    have ks : Kp (fun b => b = g) w1 w2 := by rw [hw2]; show Kp _ _ _; exact (Kp.refl (fun b => b = g) w1).setCell (fun _ => rfl) _
    have hl2 : Lv w2 g [.int .i64 51] := by rw [hw2]; exact HLg1.out.set1' 0 _ (show 0 < 1 by omega)
    have hlh2 : Lv w2 h2 zeroM.toList := HLh1.out.keep ks (fun e => by have := HO.out; omega)
    refine ⟨_, res_cell_cell Tryd.results41 _ _ h2 g _ _ rfl (hlh2.load dsMsg szMsg rfl) rfl (load_errno g 51 w2 (hl2.cell (j := 0) rfl)), ?_, HK1.out.trans ks (fun b hb e => by have := HO.out; omega)⟩
    unfold MtRes
    rw [HM.out]
  | some c =>
    rw [hm] at hq
    obtain ⟨v, he, hmr⟩ := hq
    subst he
    have HM : Hid (okM xs = some c) := hm
    have HF1 : Hid (Mr w1 (fun b => u.heap.size ≤ b ∧ b < w1.heap.size) (msOf c) v) := hmr
    obtain ⟨xa, hxa, hxl, hx1⟩ := hmr.form
    have HXl : Hid (xa.toList.length = 24) := hxl
    have HX1 : Hid (xa.toList.toArray.all (·.oneCell') = true) := hx1
    subst hxa
    clear hm hmr hxl hx1
    have cg : w1.cell? ⟨g, 0, none⟩ = some (.int .i64 0) := HLg1.out.cell (j := 0) rfl
    have fg : w1.frozen? ⟨g, 0, none⟩ = false := HLg1.out.fz (show 0 < 1 by omega)
    go_wp2_with (refine wpList_store_all rfl 40 _ _ rfl 24 h2 zeroM.toList xa.toList rfl (by rw [Array.toArray_toList]; rfl) HLh1.out szMsg rfl HXl.out HX1.out ?_; intro w2 hl2 k2; have cg2 : w2.cell? ⟨g, 0, none⟩ = some (.int .i64 0) := (HLg1.out.keep k2 (fun e => by have := HO.out; omega)).cell (j := 0) rfl; have fg2 : w2.frozen? ⟨g, 0, none⟩ = false := (HLg1.out.keep k2 (fun e => by have := HO.out; omega)).fz (show 0 < 1 by omega))
    have ks : Kp (fun b => b = g) w2 (w2.setCell ⟨g, 0, none⟩ (.int .i64 0)) := (by show Kp _ _ _; exact (Kp.refl (fun b => b = g) w2).setCell (fun _ => rfl) _)
    have hl3 : Lv (w2.setCell ⟨g, 0, none⟩ (.int .i64 0)) g [.int .i64 0] := (HLg1.out.keep k2 (fun e => by have := HO.out; omega)).set1' 0 _ (show 0 < 1 by omega)
    have hlh3 := hl2.keep ks (fun e => by have := HO.out; omega)
    refine leaves_cons (f := 61) (args := #[.pointer (some ⟨g, 0, none⟩)]) (by simp) (by simp [go_sem]) ?_
    refine (mcatch_i ⟨g, 0, none⟩ _).mono ?_
    rintro e u' w4 ⟨rfl, rfl, hw4⟩
    rw [hw4]
    refine ⟨_, res_cell_cell Tryd.results41 _ _ h2 g _ _ rfl (hlh3.load dsMsg szMsg HXl.out) rfl (load_errno g 0 _ (hl3.cell (j := 0) rfl)), ?_, (HK1.out.trans k2 (fun b hb e => by have := HO.out; omega)).trans ks (fun b hb e => by have := HO.out; omega)⟩
    unfold MtRes
    rw [HM.out]
    refine ⟨_, rfl, ?_⟩
    rw [Array.toArray_toList]
    refine ((HF1.out.keep k2 (fun b hb e => by have := HO.out; omega)).keep ks (fun b hb e => by have := HO.out; omega)).mono (fun b hb => ⟨by have := HO.out; omega, ?_⟩)
    have h8 := k2.size
    have h9 := ks.size
    omega

set_option maxRecDepth 100000 in
set_option maxHeartbeats 3200000 in
theorem readmsg_ok (p : Option Addr) (n cap : Nat) (xs : List Nat) (w : World) (h : Rb w p n xs) (hnc : n ≤ cap) (hcap : (cap : Int) ≤ 9223372036854775807) : Calls Tryd.prog 16 #[.slice p n cap] w fun e w' => MtRes xs w e w' ∧ Kp (fun _ => False) w w' := by
  obtain ⟨h2, hh2⟩ : ∃ x, x = w.heap.size := ⟨_, rfl⟩
  obtain ⟨r, hr⟩ : ∃ x, x = w.heap.size + 1 := ⟨_, rfl⟩
  have HKa : Hid (∀ u, u = (w.alloc (.cells zeroM 40)).alloc (.cells #[.slice p n cap] 74) → Kp (fun _ => False) w u ∧ Lv u h2 zeroM.toList ∧ Cu (fun b => b < w.heap.size) u r xs ∧ u.heap.size = w.heap.size + 2) := fun u hu => by
    have z1 : (w.alloc (.cells zeroM 40)).heap.size = w.heap.size + 1 := by simp
    have k0 : Kp (fun _ => False) w u := by rw [hu]; exact ((Kp.refl _ _).alloc _).alloc _
    have hl : Lv u r [.slice p n cap] := by rw [hu, hr, ← z1]; exact Lv.new _ _ _
    exact ⟨k0, by rw [hu, hh2]; exact (Lv.new w _ _).keep ((Kp.refl (fun _ => False) _).alloc _) id, ⟨p, n, cap, hl.cell (j := 0) rfl, hl.fz (show 0 < 1 by omega), hnc, hcap, h.keep0 k0, fun a ha hp => by have := h.blk a ha hp; exact ⟨by omega, this⟩⟩, by rw [hu]; simp⟩
  have HB : Hid (∀ x ∈ xs, x < 256) := h.byte
  have hmf : ∀ (fn : Fn) (first cap : Array Value) (w : World), (Instr.makeFunc fn first cap).run Tryd.prog w = .ok (.func fn first cap) w := fun _ _ _ _ => rfl
  have HO : Hid (h2 = w.heap.size ∧ r = w.heap.size + 1) := ⟨hh2, hr⟩
  clear h hnc hcap
  go_enter Tryd.func16, Tryd.ntmps16
  go_wp2_with fail
  obtain ⟨u, hu⟩ : ∃ x, x = (w.alloc (.cells zeroM 40)).alloc (.cells #[.slice p n cap] 74) := ⟨_, rfl⟩
  obtain ⟨k0, l0, c0, z0⟩ := HKa.out u hu
  rw [show (w.alloc (.cells #[.int .i64 0, .int .i64 0, .int .i64 0, .int .i64 0, .int .i64 0, .int .i64 0, .int .i64 0, .int .i64 0, .int .i64 0, .bool false, .int .i64 0, .int .i64 0, .string ⟨#[]⟩, .int .i64 0, .int .i64 0, .int .i64 0, .int .i64 0, .int .i64 0, .int .u32 0, .int .i64 0, .int .i64 0, .slice none 0 0, .slice none 0 0, .slice none 0 0] 40)).alloc (.cells #[.slice p n cap] 74) = u from hu.symm, ← hr, ← hh2]
  clear hu hr hh2 HKa
  have HL0 : Hid (Lv u h2 zeroM.toList) := l0
  have HK0 : Hid (Kp (fun _ => False) w u) := k0
  have HU : Hid (u.heap.size = w.heap.size + 2) := z0
  have HA : Hid (Calls _ _ _ u _) := mattempt_ok r xs u c0 HB.out (fun b hb => by have := HU.out; omega)
  clear k0 l0 c0 z0
  refine HA.out.mono ?_
  rintro e9 w1 ⟨hq, k1⟩
  have HK1 : Hid (Kp (fun _ => False) w w1) := HK0.out.trans k1 (fun b hb e => by have := HO.out; omega)
  have HL1 : Hid (Lv w1 h2 zeroM.toList) := HL0.out.keep k1 (fun e => by have := HO.out; omega)
  clear k1 HA
  unfold MtRes at hq
  have HR : Hid (∃ (xa : Array Value) (x : Int), e9 = .returned (.tuple #[.agg xa, .int .i64 x]) ∧ xa.toList.length = 24 ∧ xa.toList.toArray.all (·.oneCell') = true ∧ ∀ w2, Kp (fun b => b = h2) w1 w2 → MtRes xs w (.returned (.tuple #[.agg xa, .int .i64 x])) w2) := by
    cases hm : okM xs with
    | none =>
      rw [hm] at hq
      exact ⟨zeroM, 51, hq, rfl, zeroM_one, fun w2 k => by unfold MtRes; rw [hm]⟩
    | some c =>
      rw [hm] at hq
      obtain ⟨v, he, hmr⟩ := hq
      obtain ⟨xa, hxa, hxl, hx1⟩ := hmr.form
      subst hxa
      refine ⟨xa, 0, he, hxl, hx1, fun w2 k => ?_⟩
      unfold MtRes
      rw [hm]
      exact ⟨_, rfl, (hmr.keep k (fun b hb e => by have := HO.out; have := HU.out; omega)).mono (fun b hb => ⟨by have := HU.out; omega, Nat.lt_of_lt_of_le hb.2 k.size⟩)⟩
  obtain ⟨xa, x, he, hl, h1, hA⟩ := HR.out
  subst he
  have HXl : Hid (xa.toList.length = 24) := hl
  have HX1 : Hid (xa.toList.toArray.all (·.oneCell') = true) := h1
  have HA : Hid (∀ w2, Kp (fun b => b = h2) w1 w2 → MtRes xs w (.returned (.tuple #[.agg xa, .int .i64 x])) w2) := hA
  clear hq HR hl h1 hA
  go_wp2_with (refine wpList_store_all rfl 40 _ _ rfl 24 h2 zeroM.toList xa.toList rfl (by rw [Array.toArray_toList]; rfl) HL1.out szMsg rfl HXl.out HX1.out ?_; intro w2 hl2 k2)
  refine bodyPost_ret (res_cell_tmp Tryd.results16 _ _ h2 _ rfl (hl2.load dsMsg szMsg HXl.out)) rfl ?_
  refine ⟨?_, HK1.out.trans k2 (fun b hb e => by have := HO.out; omega)⟩
  have := HA.out w2 k2
  rw [Array.toArray_toList]
  exact this
end Go.Proofs.YtoepemgflbmlcaaDoor
