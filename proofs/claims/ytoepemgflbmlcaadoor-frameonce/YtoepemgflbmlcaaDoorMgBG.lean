/- Texts of this proof, joined: Oa6, Ou. -/
import Derived.Test.YtoepemgflbmlcaaDoorMgBE
import Derived.Test.YtoepemgflbmlcaaDoorMgBF
import Derived.Test.YtoepemgflbmlcaaDoorMgAW
import Derived.Test.YtoepemgflbmlcaaDoorMgAV
/- frame.ReadMsg's closure, attempt, ReadMsg. -/
namespace Go.Proofs.YtoepemgflbmlcaaDoor
set_option linter.unusedVariables false
set_option linter.unusedSimpArgs false
open Go.RowKit Go.Deep

/-- the message of bytes, plain -/
def okM (xs : List Nat) : Option Mp := (rdMsg xs).bind (fun p => if p.2 = [] ∧ mayM (msOf p.1) = true then some p.1 else none)
theorem good_csOf {c : Cp} (h : c.fit) : goodC (csOf c) := ⟨by show (0 : Int) ≤ (c.sum : Int); omega, by show (c.sum : Int) < 4294967296; have := h.s; omega, by show (str c.key).size ≤ _; rw [str_size]; have := h.k; omega⟩
theorem good_msOf {m : Mp} (h : m.fit) : goodM (msOf m) := ⟨good_csOf h.c, fun v hv => by
  obtain ⟨x, hx, rfl⟩ := List.mem_map.1 (show v ∈ m.votes.map voOf from hv)
  exact good_csOf (h.v x hx).c⟩
/-- what the closure answers -/
def M1Res (xs : List Nat) (w : World) (e : Ending) (w' : World) : Prop := match okM xs with
  | some m => ∃ v, e = .returned v ∧ Mr w' (fun b => w.heap.size ≤ b ∧ b < w'.heap.size) (msOf m) v
  | none => e = .panicked gaveUp
theorem Mr.form {w : World} {Z : Nat → Prop} {μ : Ms} {v : Value} (h : Mr w Z μ v) : ∃ xa : Array Value, v = .agg xa ∧ xa.toList.length = 24 ∧ xa.toList.toArray.all (·.oneCell') = true := by
  obtain ⟨p, cp, pv, cv, l, pb, cb, rfl, _⟩ := h
  exact ⟨_, rfl, rfl, msg_one _ rfl rfl rfl⟩
theorem zeroM_one : zeroM.toList.toArray.all (·.oneCell') = true := msg_one ⟨0, 0, 0, 0, 0, 0, 0, 0, 0, false, ⟨0, 0, ⟨#[]⟩, 0, 0, 0, 0, 0, 0, 0, 0⟩⟩ (a := .slice none 0 0) (b := .slice none 0 0) (c := .slice none 0 0) rfl rfl rfl

set_option maxRecDepth 100000 in
set_option maxHeartbeats 3200000 in
theorem rm1_ok {Z : Nat → Prop} (r : Nat) (xs : List Nat) (w : World) (h : Cu Z w r xs) (hb : ∀ x ∈ xs, x < 256) (hZ : ∀ b, Z b → b < w.heap.size) : Calls Tryd.prog 42 #[.pointer (some ⟨r, 0, none⟩)] w fun e w' => M1Res xs w e w' ∧ Kp (fun b => b = r) w w' := by
  have hr : r < w.heap.size := by
    obtain ⟨q, m, c, h1, _⟩ := h
    exact World.block_lt_of_cell? _ _ h1
  obtain ⟨h2, hh2⟩ : ∃ x, x = w.heap.size := ⟨_, rfl⟩
  obtain ⟨u, hu⟩ : ∃ x, x = w.alloc (.cells zeroM 40) := ⟨_, rfl⟩
  have k0 : Kp (fun _ => False) w u := by rw [hu]; exact (Kp.refl _ _).alloc _
  have HLh : Hid (Lv u h2 zeroM.toList) := by rw [hu, hh2]; exact Lv.new w _ _
  have HK0 : Hid (Kp (fun b => b = r) w u) := k0.mono (fun _ _ e => e.elim)
  have HO : Hid (r < h2 ∧ h2 = w.heap.size ∧ u.heap.size = h2 + 1) := by
    have : u.heap.size = w.heap.size + 1 := by rw [hu]; simp
    show _ ∧ _
    omega
  have HC : Hid (Calls _ _ _ u _) := rmsg_ok r xs u (h.keep k0 id (fun _ _ => id)) hb (fun b hb => by have := hZ b hb; have := HO.out; omega)
  have HB : Hid (∀ x ∈ xs, x < 256) := hb
  have HPan : Hid (∀ (a : Act) (w' : World), a.defers = [] → okM xs = none → Kp (fun b => b = r) w w' → bodyPost Tryd.prog Tryd.f42 (fun e w' => M1Res xs w e w' ∧ Kp (fun b => b = r) w w') (.panic gaveUp) a w') := fun a w' hd hn k => ⟨hd, by unfold M1Res; rw [hn], k⟩
  have hu' : w.alloc (.cells #[.int .i64 0, .int .i64 0, .int .i64 0, .int .i64 0, .int .i64 0, .int .i64 0, .int .i64 0, .int .i64 0, .int .i64 0, .bool false, .int .i64 0, .int .i64 0, .string ⟨#[]⟩, .int .i64 0, .int .i64 0, .int .i64 0, .int .i64 0, .int .i64 0, .int .u32 0, .int .i64 0, .int .i64 0, .slice none 0 0, .slice none 0 0, .slice none 0 0] 40) = u := hu.symm
  have HNy : Hid (∀ z, Calls _ _ _ z _) := need_yes (.pointer (some ⟨r, 0, none⟩))
  have HNn : Hid (∀ z, Calls _ _ _ z _) := need_no (.pointer (some ⟨r, 0, none⟩))
  clear h hb hZ hr hu k0
  go_enter Tryd.func42, Tryd.ntmps42
  go_wp2_with fail
  refine HC.out.mono ?_
  rintro e9 w1 ⟨hq, k1⟩
  have HK1 : Hid (Kp (fun b => b = r) w w1) := HK0.out.trans k1 (fun _ _ e => e)
  have HLh1 : Hid (Lv w1 h2 zeroM.toList) := HLh.out.keep k1 (fun e => by have := HO.out; omega)
  have HU1 : Hid (h2 + 1 ≤ w1.heap.size) := by have := k1.size; have := HO.out; show _ ≤ _; omega
  rw [← hh2]
  clear hu' hh2 k1 HC
  unfold MsRes at hq
  cases hm : rdMsg xs with
  | none =>
    rw [hm] at hq
    have he : e9 = .panicked gaveUp := hq
    subst he
    exact HPan.out _ _ rfl (by unfold okM; rw [hm]; rfl) HK1.out
  | some p =>
  obtain ⟨c, t⟩ := p
  rw [hm] at hq
  obtain ⟨v, he, hmr, hc⟩ := hq
  subst he
  have HM : Hid (rdMsg xs = some (c, t)) := hm
  have HC1 : Hid (Cu Z w1 r t) := hc
  have HF1 : Hid (Mr w1 (fun b => u.heap.size ≤ b ∧ b < w1.heap.size) (msOf c) v) := hmr
  have HFit : Hid (c.fit) := (rdMsg_back HB.out hm).2.1
  obtain ⟨xa, hxa, hxl, hx1⟩ := hmr.form
  have HXl : Hid (xa.toList.length = 24) := hxl
  have HX1 : Hid (xa.toList.toArray.all (·.oneCell') = true) := hx1
  subst hxa
  have HMay : Hid (∀ z, Mr z (fun b => u.heap.size ≤ b ∧ b < w1.heap.size) (msOf c) (.agg xa) → Calls Tryd.prog 39 #[.agg xa] z fun e w' => e = .returned (.bool (mayM (msOf c))) ∧ Kp (fun _ => False) z w') := fun z hz => mayMsg_ok _ (msOf c) (.agg xa) z hz (good_msOf HFit.out)
  clear hc hmr hm hxl hx1
  obtain ⟨dC, hdC, hdR⟩ := dsMsg
  go_upto_region 2 with (refine wpList_store_all rfl 40 _ _ rfl 24 w1.heap.size zeroM.toList xa.toList rfl (by rw [Array.toArray_toList]; rfl) (by exact Lv.new w1 _ _) szMsg rfl HXl.out HX1.out ?_; intro w2 hl2 k2)
  have k12 : Kp (fun _ => False) w1 w2 := ((Kp.refl (fun _ => False) w1).alloc (.cells zeroM 40)).trans k2 (fun b hb e => by omega)
  obtain ⟨g, hg⟩ : ∃ x, x = w1.heap.size := ⟨_, rfl⟩
  rw [← hg] at hl2 ⊢
  have HL2 : Hid (Lv w2 g xa.toList) := hl2
  have HLh2 : Hid (Lv w2 h2 zeroM.toList) := HLh1.out.keep k12 id
  have HC2 : Hid (Cu Z w2 r t) := HC1.out.keep k12 id (fun _ _ => id)
  have HF2 : Hid (Mr w2 (fun b => u.heap.size ≤ b ∧ b < w1.heap.size) (msOf c) (.agg xa)) := HF1.out.keep k12 (fun _ _ => id)
  have HK2 : Hid (Kp (fun b => b = r) w w2) := HK1.out.trans k12 (fun _ _ e => e.elim)
  have HG : Hid (g = w1.heap.size ∧ h2 < g) := ⟨hg, by have := HU1.out; omega⟩
  clear k2 k12 hl2 hg HC1 HF1
  have HD : Hid (Calls _ _ _ w2 _) := done_ok r t w2 HC2.out
  go_wp2_with fail
  refine HD.out.mono ?_
  rintro e9 w9 ⟨rfl, hw9⟩
  have hw8 := hw9.symm
  subst hw8
  clear hw9 HD
  cases t with
  | cons y t' =>
    have HOk : Hid (okM xs = none) := by show _ = _; unfold okM; rw [HM.out]; rfl
    go_wp2_with fail
    refine (HNn.out w2).mono ?_
    rintro e9 w9 ⟨rfl, hw9⟩
    have hw8 := hw9.symm
    subst hw8
    exact HPan.out _ _ rfl HOk.out HK2.out
  | nil =>
    go_wp2_with (refine wpList_ldw (by first | rfl | go_simp) 40 _ rfl g rfl xa.toList dC HL2.out hdC hdR (by rw [szMsg, HXl.out]) ?_; rw [Array.toArray_toList])
    refine (HMay.out w2 HF2.out).mono ?_
    rintro e9 w3 ⟨rfl, k3⟩
    have HL3 : Hid (Lv w3 g xa.toList) := HL2.out.keep k3 id
    have HLh3 : Hid (Lv w3 h2 zeroM.toList) := HLh2.out.keep k3 id
    have HF3 : Hid (Mr w3 (fun b => u.heap.size ≤ b ∧ b < w1.heap.size) (msOf c) (.agg xa)) := HF2.out.keep k3 (fun _ _ => id)
    have HK3 : Hid (Kp (fun b => b = r) w w3) := HK2.out.trans k3 (fun _ _ e => e.elim)
    have HZ3 : Hid (w1.heap.size ≤ w3.heap.size) := by have h1 := HL2.out.lt (by rw [HXl.out]; decide); have h2 := HG.out; have h3 := k3.size; show _ ≤ _; omega
    clear k3
    cases hM : mayM (msOf c) with
    | false =>
      have HOk : Hid (okM xs = none) := by show _ = _; unfold okM; rw [HM.out]; show (if _ then _ else _) = _; rw [if_neg]; intro h9; have := h9.2; dsimp only at this; rw [hM] at this; cases this
      clear hM
      go_wp2_with fail
      refine (HNn.out w3).mono ?_
      rintro e9 w9 ⟨rfl, hw9⟩
      have hw8 := hw9.symm
      subst hw8
      exact HPan.out _ _ rfl HOk.out HK3.out
    | true =>
      have HOk : Hid (okM xs = some c) := by show _ = _; unfold okM; rw [HM.out]; show (if _ then _ else _) = _; rw [if_pos]; exact ⟨rfl, hM⟩
      clear hM
      go_wp2_with fail
      refine (HNy.out w3).mono ?_
      rintro e9 w9 ⟨⟨v9, rfl⟩, hw9⟩
      have hw8 := hw9.symm
      subst hw8
      clear hw9
      go_wp2_with (first
        | (refine wpList_load_all rfl 40 _ rfl 24 g xa.toList rfl HL3.out ⟨dC, hdC, hdR⟩ szMsg HXl.out ?_)
        | (refine wpList_store_all rfl 40 _ _ rfl 24 h2 zeroM.toList xa.toList rfl rfl HLh3.out szMsg rfl HXl.out HX1.out ?_; intro w4 hl4 k4))
      refine bodyPost_ret (res_cell Tryd.results42 _ _ h2 _ rfl (hl4.load ⟨dC, hdC, hdR⟩ szMsg HXl.out)) rfl ?_
      refine ⟨?_, HK3.out.trans k4 (fun b hb e => by have := HO.out; omega)⟩
      unfold M1Res
      rw [HOk.out]
      refine ⟨_, rfl, ?_⟩
      rw [Array.toArray_toList]
      exact (HF3.out.keep k4 (fun b hb e => by have := HO.out; omega)).mono (fun b hb => ⟨by have := HO.out; omega, by have := HZ3.out; have := k4.size; omega⟩)

theorem mcatch_p (p : Addr) (x : Int) (ty : TypeId) (pv : Value) (older : List PanicEntry) (w : World) (hc : w.cell? p = some (.int .i64 x)) (hz : w.frozen? p = false) :
    CallsD Tryd.prog 61 #[.pointer (some p)] (.panicking ({ v := .iface ty pv, recovered := false } :: older)) w fun e u' w' =>
      e = .returned (.tuple #[]) ∧ u' = .panicking ({ v := .iface ty pv, recovered := true } :: older) ∧ w' = w.setCell p (.int .i64 51) := by
  refine callsD_of_wpS Tryd.func61 rfl fun c₀ cs hu => ?_
  apply wpS_seq
  apply wpS_region
  simp [wpOpsS, go_sem, recoverD, hu, Tryd.ntmps61, Exit.thenS]
  refine wpS_cond (t := true) (by simp [Act.eval, Array.replicate]) ?_
  simp only [if_true]
  apply wpS_region
  simp [wpOpsS, go_sem, hc, hz, bodyPostS, results, Tryd.results61]

theorem mcatch_i (p : Addr) (w : World) :
    CallsD Tryd.prog 61 #[.pointer (some p)] .returning w fun e u' w' => e = .returned (.tuple #[]) ∧ u' = .returning ∧ w' = w := by
  refine callsD_of_wpS Tryd.func61 rfl fun c₀ cs hu => ?_
  apply wpS_seq
  apply wpS_region
  simp [wpOpsS, go_sem, recoverD, hu, Tryd.ntmps61, Exit.thenS]
  refine wpS_cond (t := false) (by simp [Act.eval, Array.replicate]) ?_
  simp only [Bool.false_eq_true, if_false]
  refine wpS_of_wp (wp_skip ?_)
  cases c₀
  simp_all [bodyPostS, results, Tryd.results61]

/-- what attempt answers -/
def MtRes (xs : List Nat) (w : World) (e : Ending) (w' : World) : Prop := match okM xs with
  | some m => ∃ v, e = .returned (.tuple #[v, .int .i64 0]) ∧ Mr w' (fun b => w.heap.size ≤ b ∧ b < w'.heap.size) (msOf m) v
  | none => e = .returned (.tuple #[.agg zeroM, .int .i64 51])

set_option maxRecDepth 100000 in
set_option maxHeartbeats 3200000 in
theorem mattempt_ok {Z : Nat → Prop} (r : Nat) (xs : List Nat) (w : World) (h : Cu Z w r xs) (hb : ∀ x ∈ xs, x < 256) (hZ : ∀ b, Z b → b < w.heap.size) : Calls Tryd.prog 41 #[.func (.func 42) #[] #[.pointer (some ⟨r, 0, none⟩)]] w fun e w' => MtRes xs w e w' ∧ Kp (fun b => b = r) w w' := by
  have hr : r < w.heap.size := by
    obtain ⟨q, m, c, h1, _⟩ := h
    exact World.block_lt_of_cell? _ _ h1
  obtain ⟨h2, hh2⟩ : ∃ x, x = w.heap.size := ⟨_, rfl⟩
  obtain ⟨g, hg⟩ : ∃ x, x = w.heap.size + 1 := ⟨_, rfl⟩
  obtain ⟨u, hu⟩ : ∃ x, x = (w.alloc (.cells zeroM 40)).alloc (.cells #[.int .i64 0] 29) := ⟨_, rfl⟩
  have z1 : (w.alloc (.cells zeroM 40)).heap.size = w.heap.size + 1 := by simp
  have k0 : Kp (fun _ => False) w u := by rw [hu]; exact ((Kp.refl _ _).alloc _).alloc _
  have HLh : Hid (Lv u h2 zeroM.toList) := by rw [hu, hh2]; exact (Lv.new w _ _).keep ((Kp.refl (fun _ => False) _).alloc _) id
  have HLg : Hid (Lv u g [.int .i64 0]) := by rw [hu, hg, ← z1]; exact Lv.new _ _ _
  have HK0 : Hid (Kp (fun b => b = r) w u) := k0.mono (fun _ _ e => e.elim)
  have HO : Hid (r < h2 ∧ h2 = w.heap.size ∧ g = h2 + 1 ∧ u.heap.size = g + 1) := by
    have : u.heap.size = w.heap.size + 2 := by rw [hu]; simp
    show _ ∧ _
    omega
  have HC : Hid (Calls _ _ _ u _) := rm1_ok r xs u (h.keep k0 id (fun _ _ => id)) hb (fun b hb => by have := hZ b hb; have := HO.out; omega)
  have hu' : (w.alloc (.cells #[.int .i64 0, .int .i64 0, .int .i64 0, .int .i64 0, .int .i64 0, .int .i64 0, .int .i64 0, .int .i64 0, .int .i64 0, .bool false, .int .i64 0, .int .i64 0, .string ⟨#[]⟩, .int .i64 0, .int .i64 0, .int .i64 0, .int .i64 0, .int .i64 0, .int .u32 0, .int .i64 0, .int .i64 0, .slice none 0 0, .slice none 0 0, .slice none 0 0] 40)).alloc (.cells #[.int .i64 0] 29) = u := hu.symm
  have hmf : ∀ (fn : Fn) (first cap : Array Value) (w : World), (Instr.makeFunc fn first cap).run Tryd.prog w = .ok (.func fn first cap) w := fun _ _ _ _ => rfl
  clear h hb hZ hr hu z1 k0
  go_enter_defers Tryd.func41, Tryd.ntmps41
  go_wp2_with fail
  refine HC.out.mono ?_
  rintro e9 w1 ⟨hq, k1⟩
  have HK1 : Hid (Kp (fun b => b = r) w w1) := HK0.out.trans k1 (fun _ _ e => e)
  have HLh1 : Hid (Lv w1 h2 zeroM.toList) := HLh.out.keep k1 (fun e => by have := HO.out; omega)
  have HLg1 : Hid (Lv w1 g [.int .i64 0]) := HLg.out.keep k1 (fun e => by have := HO.out; omega)
  rw [← hg, ← hh2]
  clear hu' hh2 hg k1 HC
  unfold M1Res at hq
  cases hm : okM xs with
  | none =>
    rw [hm] at hq
    have he : e9 = .panicked gaveUp := hq
    subst he
    have HM : Hid (okM xs = none) := hm
    clear hm
    refine leaves_cons (f := 61) (args := #[.pointer (some ⟨g, 0, none⟩)]) (by simp) (by simp [go_sem]) ?_
    refine (mcatch_p ⟨g, 0, none⟩ 0 29 _ [] w1 (HLg1.out.cell (j := 0) rfl) (HLg1.out.fz (show 0 < 1 by omega))).mono ?_
    rintro e u' w2 ⟨rfl, rfl, hw2⟩
    have ks : Kp (fun b => b = g) w1 w2 := by rw [hw2]; show Kp _ _ _; exact (Kp.refl (fun b => b = g) w1).setCell (fun _ => rfl) _
    have hl2 : Lv w2 g [.int .i64 51] := by rw [hw2]; exact HLg1.out.set1' 0 _ (show 0 < 1 by omega)
    have hlh2 : Lv w2 h2 zeroM.toList := HLh1.out.keep ks (fun e => by have := HO.out; omega)
    refine ⟨_, res_cell_cell Tryd.results41 _ _ h2 g _ _ rfl (hlh2.load dsMsg szMsg rfl) rfl (load_errno g 51 w2 (hl2.cell (j := 0) rfl)), ?_, HK1.out.trans ks (fun b hb e => by have := HO.out; omega)⟩
    unfold MtRes
    rw [HM.out]
  | some c =>
    rw [hm] at hq
    obtain ⟨v, he, hmr⟩ := hq
    subst he
    have HM : Hid (okM xs = some c) := hm
    have HF1 : Hid (Mr w1 (fun b => u.heap.size ≤ b ∧ b < w1.heap.size) (msOf c) v) := hmr
    obtain ⟨xa, hxa, hxl, hx1⟩ := hmr.form
    have HXl : Hid (xa.toList.length = 24) := hxl
    have HX1 : Hid (xa.toList.toArray.all (·.oneCell') = true) := hx1
    subst hxa
    clear hm hmr hxl hx1
    have cg : w1.cell? ⟨g, 0, none⟩ = some (.int .i64 0) := HLg1.out.cell (j := 0) rfl
    have fg : w1.frozen? ⟨g, 0, none⟩ = false := HLg1.out.fz (show 0 < 1 by omega)
    go_wp2_with (refine wpList_store_all rfl 40 _ _ rfl 24 h2 zeroM.toList xa.toList rfl (by rw [Array.toArray_toList]; rfl) HLh1.out szMsg rfl HXl.out HX1.out ?_; intro w2 hl2 k2; have cg2 : w2.cell? ⟨g, 0, none⟩ = some (.int .i64 0) := (HLg1.out.keep k2 (fun e => by have := HO.out; omega)).cell (j := 0) rfl; have fg2 : w2.frozen? ⟨g, 0, none⟩ = false := (HLg1.out.keep k2 (fun e => by have := HO.out; omega)).fz (show 0 < 1 by omega))
    have ks : Kp (fun b => b = g) w2 (w2.setCell ⟨g, 0, none⟩ (.int .i64 0)) := (by show Kp _ _ _; exact (Kp.refl (fun b => b = g) w2).setCell (fun _ => rfl) _)
    have hl3 : Lv (w2.setCell ⟨g, 0, none⟩ (.int .i64 0)) g [.int .i64 0] := (HLg1.out.keep k2 (fun e => by have := HO.out; omega)).set1' 0 _ (show 0 < 1 by omega)
    have hlh3 := hl2.keep ks (fun e => by have := HO.out; omega)
    refine leaves_cons (f := 61) (args := #[.pointer (some ⟨g, 0, none⟩)]) (by simp) (by simp [go_sem]) ?_
    refine (mcatch_i ⟨g, 0, none⟩ _).mono ?_
    rintro e u' w4 ⟨rfl, rfl, hw4⟩
    rw [hw4]
    refine ⟨_, res_cell_cell Tryd.results41 _ _ h2 g _ _ rfl (hlh3.load dsMsg szMsg HXl.out) rfl (load_errno g 0 _ (hl3.cell (j := 0) rfl)), ?_, (HK1.out.trans k2 (fun b hb e => by have := HO.out; omega)).trans ks (fun b hb e => by have := HO.out; omega)⟩
    unfold MtRes
    rw [HM.out]
    refine ⟨_, rfl, ?_⟩
    rw [Array.toArray_toList]
    refine ((HF1.out.keep k2 (fun b hb e => by have := HO.out; omega)).keep ks (fun b hb e => by have := HO.out; omega)).mono (fun b hb => ⟨by have := HO.out; omega, ?_⟩)
    have h8 := k2.size
    have h9 := ks.size
    omega

set_option maxRecDepth 100000 in
set_option maxHeartbeats 3200000 in
theorem readmsg_ok (p : Option Addr) (n cap : Nat) (xs : List Nat) (w : World) (h : Rb w p n xs) (hnc : n ≤ cap) (hcap : (cap : Int) ≤ 9223372036854775807) : Calls Tryd.prog 16 #[.slice p n cap] w fun e w' => MtRes xs w e w' ∧ Kp (fun _ => False) w w' := by
  obtain ⟨h2, hh2⟩ : ∃ x, x = w.heap.size := ⟨_, rfl⟩
  obtain ⟨r, hr⟩ : ∃ x, x = w.heap.size + 1 := ⟨_, rfl⟩
  have HKa : Hid (∀ u, u = (w.alloc (.cells zeroM 40)).alloc (.cells #[.slice p n cap] 74) → Kp (fun _ => False) w u ∧ Lv u h2 zeroM.toList ∧ Cu (fun b => b < w.heap.size) u r xs ∧ u.heap.size = w.heap.size + 2) := fun u hu => by
    have z1 : (w.alloc (.cells zeroM 40)).heap.size = w.heap.size + 1 := by simp
    have k0 : Kp (fun _ => False) w u := by rw [hu]; exact ((Kp.refl _ _).alloc _).alloc _
    have hl : Lv u r [.slice p n cap] := by rw [hu, hr, ← z1]; exact Lv.new _ _ _
    exact ⟨k0, by rw [hu, hh2]; exact (Lv.new w _ _).keep ((Kp.refl (fun _ => False) _).alloc _) id, ⟨p, n, cap, hl.cell (j := 0) rfl, hl.fz (show 0 < 1 by omega), hnc, hcap, h.keep0 k0, fun a ha hp => by have := h.blk a ha hp; exact ⟨by omega, this⟩⟩, by rw [hu]; simp⟩
  have HB : Hid (∀ x ∈ xs, x < 256) := h.byte
  have hmf : ∀ (fn : Fn) (first cap : Array Value) (w : World), (Instr.makeFunc fn first cap).run Tryd.prog w = .ok (.func fn first cap) w := fun _ _ _ _ => rfl
  have HO : Hid (h2 = w.heap.size ∧ r = w.heap.size + 1) := ⟨hh2, hr⟩
  clear h hnc hcap
  go_enter Tryd.func16, Tryd.ntmps16
  go_wp2_with fail
  obtain ⟨u, hu⟩ : ∃ x, x = (w.alloc (.cells zeroM 40)).alloc (.cells #[.slice p n cap] 74) := ⟨_, rfl⟩
  obtain ⟨k0, l0, c0, z0⟩ := HKa.out u hu
  rw [show (w.alloc (.cells #[.int .i64 0, .int .i64 0, .int .i64 0, .int .i64 0, .int .i64 0, .int .i64 0, .int .i64 0, .int .i64 0, .int .i64 0, .bool false, .int .i64 0, .int .i64 0, .string ⟨#[]⟩, .int .i64 0, .int .i64 0, .int .i64 0, .int .i64 0, .int .i64 0, .int .u32 0, .int .i64 0, .int .i64 0, .slice none 0 0, .slice none 0 0, .slice none 0 0] 40)).alloc (.cells #[.slice p n cap] 74) = u from hu.symm, ← hr, ← hh2]
  clear hu hr hh2 HKa
  have HL0 : Hid (Lv u h2 zeroM.toList) := l0
  have HK0 : Hid (Kp (fun _ => False) w u) := k0
  have HU : Hid (u.heap.size = w.heap.size + 2) := z0
  have HA : Hid (Calls _ _ _ u _) := mattempt_ok r xs u c0 HB.out (fun b hb => by have := HU.out; omega)
  clear k0 l0 c0 z0
  refine HA.out.mono ?_
  rintro e9 w1 ⟨hq, k1⟩
  have HK1 : Hid (Kp (fun _ => False) w w1) := HK0.out.trans k1 (fun b hb e => by have := HO.out; omega)
  have HL1 : Hid (Lv w1 h2 zeroM.toList) := HL0.out.keep k1 (fun e => by have := HO.out; omega)
  clear k1 HA
  unfold MtRes at hq
  have HR : Hid (∃ (xa : Array Value) (x : Int), e9 = .returned (.tuple #[.agg xa, .int .i64 x]) ∧ xa.toList.length = 24 ∧ xa.toList.toArray.all (·.oneCell') = true ∧ ∀ w2, Kp (fun b => b = h2) w1 w2 → MtRes xs w (.returned (.tuple #[.agg xa, .int .i64 x])) w2) := by
    cases hm : okM xs with
    | none =>
      rw [hm] at hq
      exact ⟨zeroM, 51, hq, rfl, zeroM_one, fun w2 k => by unfold MtRes; rw [hm]⟩
    | some c =>
      rw [hm] at hq
      obtain ⟨v, he, hmr⟩ := hq
      obtain ⟨xa, hxa, hxl, hx1⟩ := hmr.form
      subst hxa
      refine ⟨xa, 0, he, hxl, hx1, fun w2 k => ?_⟩
      unfold MtRes
      rw [hm]
      exact ⟨_, rfl, (hmr.keep k (fun b hb e => by have := HO.out; have := HU.out; omega)).mono (fun b hb => ⟨by have := HU.out; omega, Nat.lt_of_lt_of_le hb.2 k.size⟩)⟩
  obtain ⟨xa, x, he, hl, h1, hA⟩ := HR.out
  subst he
  have HXl : Hid (xa.toList.length = 24) := hl
  have HX1 : Hid (xa.toList.toArray.all (·.oneCell') = true) := h1
  have HA : Hid (∀ w2, Kp (fun b => b = h2) w1 w2 → MtRes xs w (.returned (.tuple #[.agg xa, .int .i64 x])) w2) := hA
  clear hq HR hl h1 hA
  go_wp2_with (refine wpList_store_all rfl 40 _ _ rfl 24 h2 zeroM.toList xa.toList rfl (by rw [Array.toArray_toList]; rfl) HL1.out szMsg rfl HXl.out HX1.out ?_; intro w2 hl2 k2)
  refine bodyPost_ret (res_cell_tmp Tryd.results16 _ _ h2 _ rfl (hl2.load dsMsg szMsg HXl.out)) rfl ?_
  refine ⟨?_, HK1.out.trans k2 (fun b hb e => by have := HO.out; omega)⟩
  have := HA.out w2 k2
  rw [Array.toArray_toList]
  exact this
end Go.Proofs.YtoepemgflbmlcaaDoor

/- frame.appendTruth, appendMsg, Msg (laid by scripts/mkou.py). -/
namespace Go.Proofs.YtoepemgflbmlcaaDoor
set_option linter.unusedVariables false
set_option linter.unusedSimpArgs false
open Go.RowKit Go.Deep

theorem Ap.grow {u w w' : World} {base : Nat} {v v' : Value} {xs : List Nat} (h : Ap u w base v v' xs) (k : Kp (fun _ => False) w w') : Ap u w' base v v' xs := ⟨ownsRow_keep h.o k (fun _ _ e => e), h.k.trans k (fun _ _ e => e.elim), h.b⟩

set_option maxRecDepth 100000 in
set_option maxHeartbeats 1600000 in
theorem appT_ok (base : Nat) (v : Value) (xs : List Nat) (t : Bool) (w : World) (ho : Ow w base v xs) (hb : base ≤ w.heap.size) (hl : xs.length ≤ 1000000000) :
    Calls Tryd.prog 60 #[v, .bool t] w fun e w' => ∃ v', e = .returned v' ∧ Ap w w' base v v' (xs ++ truthB t) := by
  have HO : Hid (∀ z : Int, Ow (w.alloc (.cells #[.int .u8 z] 5)) base v xs) := fun z => ho.alloc _
  have HV : Hid (∀ b, v.ownBlock = some b → b < w.heap.size) := fun b e => (ownBlock_lt ho e).2
  have HR : Hid (∀ x : Nat, x < 256 → Rb (w.alloc (.cells #[.int .u8 (x : Int)] 5)) (some ⟨w.heap.size, 0, none⟩) 1 [x]) := fun x hx => by
    have hl := Lv.new w #[.int .u8 (x : Int)] 5
    exact ⟨rfl, fun y hy => by rw [List.mem_singleton] at hy; omega, fun j hj => ⟨w.heap.size, 0, rfl, by
      have : j = 0 := by omega
      subst this
      exact hl.cell (j := 0) rfl⟩⟩
  have HB : Hid (base ≤ w.heap.size ∧ xs.length ≤ 1000000000) := ⟨hb, hl⟩
  have HK : Hid (∀ z : Int, Kp (fun b => v.ownBlock = some b) w (w.alloc (.cells #[.int .u8 z] 5))) := fun z => (Kp.refl _ _).alloc _
  clear ho hb hl
  go_enter Tryd.func60, Tryd.ntmps60
  cases t with
  | true =>
    go_wp2_with (at_builtin; refine wpList_append_bytes _ rfl _ _ rfl base v xs rfl (HO.out 1) (some ⟨w.heap.size, 0, none⟩) 1 1 [1] rfl (HR.out 1 (by decide)) (by have := HB.out; omega) (by have := HB.out; simp; omega) ?_; intro v2 w2 o2 k2 b2)
    have k2' : Kp (fun b => v.ownBlock = some b) w w2 := (HK.out 1).trans k2 (fun _ _ e => e)
    go_ret
    refine ⟨v2, rfl, ⟨o2, k2', fun b e => ?_⟩⟩
    rcases b2 with q | q
    · exact Or.inl (q ▸ e)
    · rw [q] at e
      injection e with e
      exact Or.inr (by simp at e; omega)
  | false =>
    go_wp2_with (at_builtin; refine wpList_append_bytes _ rfl _ _ rfl base v xs rfl (HO.out 0) (some ⟨w.heap.size, 0, none⟩) 1 1 [0] rfl (HR.out 0 (by decide)) (by have := HB.out; omega) (by have := HB.out; simp; omega) ?_; intro v2 w2 o2 k2 b2)
    have k2' : Kp (fun b => v.ownBlock = some b) w w2 := (HK.out 0).trans k2 (fun _ _ e => e)
    go_ret
    refine ⟨v2, rfl, ⟨o2, k2', fun b e => ?_⟩⟩
    rcases b2 with q | q
    · exact Or.inl (q ▸ e)
    · rw [q] at e
      injection e with e
      exact Or.inr (by simp at e; omega)
/-- votes and messages, plain -/
def vpOf (v : Vo) : Vp := ⟨v.slot.toNat, v.ballot.toNat, cpOf v.c v.nodes⟩
def mpOf (μ : Ms) : Mp := ⟨μ.s.kind.toNat, μ.s.src.toNat, μ.s.dst.toNat, μ.s.ballot.toNat, μ.s.slot.toNat, μ.s.blob.toNat, μ.s.index.toNat, μ.s.epoch.toNat, μ.s.id.toNat, μ.s.ok, cpOf μ.s.c μ.nodes, μ.votes.map vpOf, μ.bytes⟩
theorem cmdB_len {c : Cs0} {zs : List Int} (h : mayC c zs = true) (hs : 0 ≤ c.sum ∧ c.sum < 4294967296) : (cmdB (cpOf c zs)).length ≤ 2420 := by
  have hF := mayC_full h
  have hn := hF.n
  simp only [List.mem_cons, List.not_mem_nil, or_false, forall_eq_or_imp, forall_eq] at hn
  have hk := hF.key
  have hl := hF.len
  unfold cmdB
  rw [List.length_append, List.length_append, List.length_append]
  have h1 := numsB_len [(cpOf c zs).id, (cpOf c zs).kind, (cpOf c zs).blob, (cpOf c zs).other, (cpOf c zs).index, (cpOf c zs).node, (cpOf c zs).size, (cpOf c zs).sum, (cpOf c zs).k, (cpOf c zs).m, (cpOf c zs).key.length] (fun x hx => by
    simp only [cpOf, List.mem_cons, List.not_mem_nil, or_false] at hx
    rw [keyB_len] at hx
    omega)
  have h2 : (cpOf c zs).key.length ≤ 8 := by show (keyB c.key).length ≤ 8; rw [keyB_len]; exact hk
  have h3 : (numB (cpOf c zs).nodes.length).length ≤ 9 := numB_len (by show (zs.map Int.toNat).length < _; rw [List.length_map]; omega)
  have h4 := numsB_len (cpOf c zs).nodes (fun x hx => by
    obtain ⟨z, hz, rfl⟩ := List.mem_map.1 (show x ∈ zs.map Int.toNat from hx)
    have := hF.z z hz
    omega)
  have h5 : (cpOf c zs).nodes.length = zs.length := by show (zs.map Int.toNat).length = _; rw [List.length_map]
  simp only [List.length_cons, List.length_nil] at h1
  omega
theorem mayVo_parts {v : Vo} (h : mayVo v = true) : (0 ≤ v.slot ∧ v.slot ≤ 1152921504606846976) ∧ (0 ≤ v.ballot ∧ v.ballot ≤ 1152921504606846976) ∧ mayC v.c v.nodes = true := by
  unfold mayVo at h
  rw [Bool.and_eq_true] at h
  have := upTo_mem h.1
  simp only [List.mem_cons, List.not_mem_nil, or_false, forall_eq_or_imp, forall_eq] at this
  exact ⟨this.1, this.2, h.2⟩
theorem voteB_len {v : Vo} (h : mayVo v = true) (hg : goodC v.c) : (voteB (vpOf v)).length ≤ 2438 := by
  obtain ⟨h1, h2, h3⟩ := mayVo_parts h
  have h4 := cmdB_len h3 ⟨hg.1, hg.2.1⟩
  unfold voteB
  rw [List.length_append]
  have h5 := numsB_len [(vpOf v).slot, (vpOf v).ballot] (fun x hx => by
    simp only [vpOf, List.mem_cons, List.not_mem_nil, or_false] at hx
    omega)
  simp only [List.length_cons, List.length_nil] at h5
  show (numsB _).length + (cmdB (cpOf v.c v.nodes)).length ≤ _
  omega
theorem votesB_len : ∀ (l : List Vo), (∀ v ∈ l, mayVo v = true ∧ goodC v.c) → (votesB (l.map vpOf)).length ≤ l.length * 2438
  | [], _ => Nat.zero_le _
  | v :: l, h => by
    show (voteB (vpOf v) ++ votesB (l.map vpOf)).length ≤ _
    rw [List.length_append]
    have h1 := voteB_len (h v (List.mem_cons_self ..)).1 (h v (List.mem_cons_self ..)).2
    have h2 := votesB_len l (fun y hy => h y (List.mem_cons_of_mem _ hy))
    rw [List.length_cons, Nat.add_mul]
    omega
theorem votesB_take {l : List (Vo × Value)} {k : Nat} {x : Vo × Value} (h : l[k]? = some x) : votesB (((l.take (k + 1)).map (·.1)).map vpOf) = votesB (((l.take k).map (·.1)).map vpOf) ++ voteB (vpOf x.1) := by
  rw [List.take_add_one, h]
  show votesB (((l.take k ++ [x]).map (·.1)).map vpOf) = _
  rw [List.map_append, List.map_append]
  unfold votesB
  rw [List.flatMap_append]
  congr 1
  show voteB (vpOf x.1) ++ [] = _
  rw [List.append_nil]

set_option maxRecDepth 100000 in
set_option maxHeartbeats 6400000 in
theorem appM_nat (base : Nat) (v : Value) (xs : List Nat) (k0 k1 k2 k3 k4 k5 k6 k7 k8 : Nat) (ok : Bool) (c : Cs0) (Z : Nat → Prop) (p pv pb : Option Addr) (n1 cp n2 cv n3 cb : Nat) (zs : List Int) (l : List (Vo × Value)) (bs : List Nat) (w : World) (ho : Ow w base v xs) (hb : base ≤ w.heap.size) (hx : xs.length ≤ 1000)
    (hf : Fl w Z p (zs.map encI)) (hn1 : n1 = zs.length) (hfv : Fl w Z pv (vflat l)) (hvn : Vn w Z l) (hn2 : n2 = l.length) (hfb : Rb w pb n3 bs) (hbk : ∀ a, pb = some a → 0 < n3 → Z a.block) (hZ : ∀ b, Z b → v.ownBlock ≠ some b ∧ b < w.heap.size)
    (hk : ∀ x ∈ [k0, k1, k2, k3, k4, k5, k6, k7, k8], x ≤ 1152921504606846976) (hc : mayC c zs = true) (hgc : goodC c) (hl : ∀ x ∈ l, mayVo x.1 = true ∧ goodC x.1.c) (hl9 : n2 ≤ 1000) (hb9 : n3 ≤ 2000) :
    Calls Tryd.prog 40 #[v, .agg (msgA ⟨(k0 : Int), (k1 : Int), (k2 : Int), (k3 : Int), (k4 : Int), (k5 : Int), (k6 : Int), (k7 : Int), (k8 : Int), ok, c⟩ (.slice p n1 cp) (.slice pv n2 cv) (.slice pb n3 cb))] w fun e w' => ∃ v', e = .returned v' ∧ Ap w w' base v v' (xs ++ msgB ⟨k0, k1, k2, k3, k4, k5, k6, k7, k8, ok, cpOf c zs, (l.map (·.1)).map vpOf, bs⟩) := by
  have HSm : Hid (∀ x ∈ [k0, k1, k2, k3, k4, k5, k6, k7, k8], x < 9223372036854775808) := fun x hx => by have := hk x hx; omega
  have HO : Hid (Ow w base v xs) := ho
  have HF : Hid (Fl w Z p (zs.map encI) ∧ Fl w Z pv (vflat l) ∧ Vn w Z l ∧ Rb w pb n3 bs ∧ ∀ a, pb = some a → 0 < n3 → Z a.block) := ⟨hf, hfv, hvn, hfb, hbk⟩
  have HZ : Hid (∀ b, Z b → v.ownBlock ≠ some b ∧ b < w.heap.size) := hZ
  have HN : Hid (n1 = zs.length ∧ n2 = l.length ∧ n2 ≤ 1000 ∧ n3 ≤ 2000 ∧ xs.length ≤ 1000 ∧ base ≤ w.heap.size) := ⟨hn1, hn2, hl9, hb9, hx, hb⟩
  have HM : Hid (MayF c zs ∧ (0 ≤ c.sum ∧ c.sum < 4294967296) ∧ (cmdB (cpOf c zs)).length ≤ 2420) := ⟨mayC_full hc, ⟨hgc.1, hgc.2.1⟩, cmdB_len hc ⟨hgc.1, hgc.2.1⟩⟩
  have HV : Hid (∀ x ∈ l, mayVo x.1 = true ∧ goodC x.1.c) := hl
  have HVg : Hid (v.ownBlock ≠ some w.heap.size) := fun e => by have := (ownBlock_lt ho e).2; omega
  have HK0 : Hid (Kp (fun _ => False) w (w.alloc (.cells (msgA ⟨(k0 : Int), (k1 : Int), (k2 : Int), (k3 : Int), (k4 : Int), (k5 : Int), (k6 : Int), (k7 : Int), (k8 : Int), ok, c⟩ (.slice p n1 cp) (.slice pv n2 cv) (.slice pb n3 cb)) 40))) := (Kp.refl _ _).alloc _
  have HL0 : Hid (Lv (w.alloc (.cells (msgA ⟨(k0 : Int), (k1 : Int), (k2 : Int), (k3 : Int), (k4 : Int), (k5 : Int), (k6 : Int), (k7 : Int), (k8 : Int), ok, c⟩ (.slice p n1 cp) (.slice pv n2 cv) (.slice pb n3 cb)) 40)) w.heap.size (msgA ⟨(k0 : Int), (k1 : Int), (k2 : Int), (k3 : Int), (k4 : Int), (k5 : Int), (k6 : Int), (k7 : Int), (k8 : Int), ok, c⟩ (.slice p n1 cp) (.slice pv n2 cv) (.slice pb n3 cb)).toList) := Lv.new w _ _
  have hn2i : (n2 : Int) ≤ 1000 := by omega
  have hn3i : (n3 : Int) ≤ 2000 := by omega
  obtain ⟨dV, hdV, hdVr⟩ := dsVote
  obtain ⟨dC, hdC, hdCr⟩ := dsCmd
  clear ho hb hx hf hn1 hfv hvn hn2 hfb hbk hZ hk hc hgc hl hl9 hb9
  go_enter Tryd.func40, Tryd.ntmps40
  go_upto_region 1 with fail
  obtain ⟨u0, hu0⟩ : ∃ x, x = w.alloc (.cells (msgA ⟨(k0 : Int), (k1 : Int), (k2 : Int), (k3 : Int), (k4 : Int), (k5 : Int), (k6 : Int), (k7 : Int), (k8 : Int), ok, c⟩ (.slice p n1 cp) (.slice pv n2 cv) (.slice pb n3 cb)) 40) := ⟨_, rfl⟩
  have hu0' := hu0.symm
  simp only [msgA] at hu0'
  rw [hu0']
  rw [← hu0] at HK0 HL0
  have HU0 : Hid (u0.heap.size = w.heap.size + 1) := by show _ = _; rw [hu0]; simp
  clear hu0 hu0'
  obtain ⟨g, hg⟩ : ∃ x, x = w.heap.size := ⟨_, rfl⟩
  have HG : Hid (g = w.heap.size) := hg
  rw [← hg] at HL0 HVg ⊢
  clear hg
  have HA0 : Hid (Ap u0 u0 base v v xs) := Ap.refl (ownsRow_keep HO.out HK0.out (fun _ _ e => e))
  -- what lies there lasts
  have HS : Hid (∀ {u : World} {v1 : Value} {ys : List Nat}, Ap u0 u base v v1 ys → Lv u g (msgA ⟨(k0 : Int), (k1 : Int), (k2 : Int), (k3 : Int), (k4 : Int), (k5 : Int), (k6 : Int), (k7 : Int), (k8 : Int), ok, c⟩ (.slice p n1 cp) (.slice pv n2 cv) (.slice pb n3 cb)).toList ∧ Fl u Z p (zs.map encI) ∧ Fl u Z pv (vflat l) ∧ Vn u Z l ∧ Rb u pb n3 bs ∧ (∀ b, Z b → v1.ownBlock ≠ some b ∧ b < u.heap.size) ∧ v1.ownBlock ≠ some g ∧ base ≤ u.heap.size ∧ g < u.heap.size) := fun {u v1 ys} ha => by
    obtain ⟨f1, f2, f3, f4, f5⟩ := HF.out
    have hz : ∀ b, Z b → v.ownBlock ≠ some b := fun b hb => (HZ.out b hb).1
    have hk := ha.k
    have hs := hk.size
    have hu := HU0.out
    have hg := HG.out
    have hN := HN.out
    refine ⟨HL0.out.keep hk HVg.out, (f1.keep HK0.out (fun _ _ e => e)).keep hk hz, (f2.keep HK0.out (fun _ _ e => e)).keep hk hz, (f3.keep HK0.out (fun _ _ e => e)).keep hk hz, (f4.keep0 HK0.out).keepP hk (fun a ha2 hp => hz _ (f5 a ha2 hp)), fun b hb => ⟨ha.apart (xs := xs) (by have := (HZ.out b hb).2; omega) (hz b hb), by have := (HZ.out b hb).2; omega⟩, ha.apart (xs := xs) (by omega) HVg.out, by omega, by omega⟩
  have c0 : u0.cell? ⟨g, 0, none⟩ = some (.int .i64 (k0 : Int)) := HL0.out.cell (j := 0) rfl
  have c1 : u0.cell? ⟨g, 1, none⟩ = some (.int .i64 (k1 : Int)) := HL0.out.cell (j := 1) rfl
  have c2 : u0.cell? ⟨g, 2, none⟩ = some (.int .i64 (k2 : Int)) := HL0.out.cell (j := 2) rfl
  have c3 : u0.cell? ⟨g, 3, none⟩ = some (.int .i64 (k3 : Int)) := HL0.out.cell (j := 3) rfl
  have c4 : u0.cell? ⟨g, 4, none⟩ = some (.int .i64 (k4 : Int)) := HL0.out.cell (j := 4) rfl
  have c5 : u0.cell? ⟨g, 5, none⟩ = some (.int .i64 (k5 : Int)) := HL0.out.cell (j := 5) rfl
  have c6 : u0.cell? ⟨g, 6, none⟩ = some (.int .i64 (k6 : Int)) := HL0.out.cell (j := 6) rfl
  have c7 : u0.cell? ⟨g, 7, none⟩ = some (.int .i64 (k7 : Int)) := HL0.out.cell (j := 7) rfl
  have c8 : u0.cell? ⟨g, 8, none⟩ = some (.int .i64 (k8 : Int)) := HL0.out.cell (j := 8) rfl
  have H1 : Hid (Calls Tryd.prog 52 #[v, .slice (some ⟨u0.heap.size, 0, none⟩) 9 9] (u0.alloc (.cells #[.int .i64 (k0 : Int), .int .i64 (k1 : Int), .int .i64 (k2 : Int), .int .i64 (k3 : Int), .int .i64 (k4 : Int), .int .i64 (k5 : Int), .int .i64 (k6 : Int), .int .i64 (k7 : Int), .int .i64 (k8 : Int)] 3)) fun e w' => ∃ v', e = .returned v' ∧ Ap u0 w' base v v' (xs ++ numsB [k0, k1, k2, k3, k4, k5, k6, k7, k8])) := appN_new base v xs [k0, k1, k2, k3, k4, k5, k6, k7, k8] 9 u0 HA0.out.o (by have := HN.out; have := HU0.out; omega) rfl HSm.out (by have := HN.out; simp; omega)
  go_wp2_with fail
  refine H1.out.mono ?_
  rintro e9 w1 ⟨v1, rfl, h1⟩
  have HA1 : Hid (Ap u0 w1 base v v1 (xs ++ numsB [k0, k1, k2, k3, k4, k5, k6, k7, k8])) := h1
  have HE1 : Hid ((xs ++ numsB [k0, k1, k2, k3, k4, k5, k6, k7, k8]).length ≤ 1081) := by have h2 := numsB_len [k0, k1, k2, k3, k4, k5, k6, k7, k8] HSm.out; have := HN.out; show _ ≤ _; rw [List.length_append]; simp at h2; omega
  obtain ⟨L1, _, _, _, _, _, _, B1, _⟩ := HS.out h1
  have d9 : w1.cell? ⟨g, 9, none⟩ = some (.bool ok) := L1.cell (j := 9) rfl
  have H2 : Hid (Calls _ _ _ w1 _) := appT_ok base v1 (xs ++ numsB [k0, k1, k2, k3, k4, k5, k6, k7, k8]) ok w1 h1.o B1 (by have := HE1.out; omega)
  clear h1 H1 L1 B1 c0 c1 c2 c3 c4 c5 c6 c7 c8
  go_wp2_with fail
  refine H2.out.mono ?_
  rintro e9 w2 ⟨v2, rfl, h2⟩
  have HA2 : Hid (Ap u0 w2 base v v2 (xs ++ numsB [k0, k1, k2, k3, k4, k5, k6, k7, k8] ++ truthB ok)) := HA1.out.trans h2
  have HE2 : Hid ((xs ++ numsB [k0, k1, k2, k3, k4, k5, k6, k7, k8] ++ truthB ok).length ≤ 1082) := by have := HE1.out; show _ ≤ _; rw [List.length_append]; show _ + 1 ≤ _; omega
  obtain ⟨L2, F2, _, _, _, Z2, _, B2, _⟩ := HS.out HA2.out
  have HL2 : Hid (Lv w2 g (msgA ⟨(k0 : Int), (k1 : Int), (k2 : Int), (k3 : Int), (k4 : Int), (k5 : Int), (k6 : Int), (k7 : Int), (k8 : Int), ok, c⟩ (.slice p n1 cp) (.slice pv n2 cv) (.slice pb n3 cb)).toList) := L2
  have H3 : Hid (Calls Tryd.prog 24 #[v2, .agg (cmdA c (.slice p n1 cp))] w2 fun e w' => ∃ v', e = .returned v' ∧ Ap w2 w' base v2 v' (xs ++ numsB [k0, k1, k2, k3, k4, k5, k6, k7, k8] ++ truthB ok ++ cmdB (cpOf c zs))) := appC_ok base v2 _ c Z p n1 cp zs w2 HA2.out.o B2 F2 Z2 HN.out.1 HM.out.1 HM.out.2.1 (by have := HE2.out; omega)
  clear h2 H2 L2 F2 Z2 B2 d9 HA1
  go_wp2_with (refine wpList_ldm (by first | rfl | go_simp) 27 _ rfl g 10 rfl (cmdA c (.slice p n1 cp)).toList dC (HL2.out.range 10 12) hdC hdCr szCmd ?_)
  refine H3.out.mono ?_
  rintro e9 w3 ⟨v3, rfl, h3⟩
  have HA3 : Hid (Ap u0 w3 base v v3 (xs ++ numsB [k0, k1, k2, k3, k4, k5, k6, k7, k8] ++ truthB ok ++ cmdB (cpOf c zs))) := HA2.out.trans h3
  have HE3 : Hid ((xs ++ numsB [k0, k1, k2, k3, k4, k5, k6, k7, k8] ++ truthB ok ++ cmdB (cpOf c zs)).length ≤ 3502) := by have := HE2.out; have := HM.out.2.2; show _ ≤ _; rw [List.length_append]; omega
  obtain ⟨L3, _, _, _, _, _, _, B3, _⟩ := HS.out HA3.out
  have d22 : w3.cell? ⟨g, 22, none⟩ = some (.slice pv n2 cv) := L3.cell (j := 22) rfl
  have H4 : Hid (Calls Tryd.prog 52 #[v3, .slice (some ⟨w3.heap.size, 0, none⟩) 1 1] (w3.alloc (.cells #[.int .i64 (n2 : Int)] 3)) fun e w' => ∃ v', e = .returned v' ∧ Ap w3 w' base v3 v' (xs ++ numsB [k0, k1, k2, k3, k4, k5, k6, k7, k8] ++ truthB ok ++ cmdB (cpOf c zs) ++ numsB [n2])) := appN_new base v3 _ [n2] 1 w3 HA3.out.o B3 rfl (fun x hx => by rw [List.mem_singleton] at hx; have := HN.out; omega) (by have := HE3.out; simp only [List.length_cons, List.length_nil]; omega)
  clear h3 H3 L3 B3 HA2 HL2
  go_wp2_with fail
  refine H4.out.mono ?_
  rintro e9 w4 ⟨v4, rfl, h4⟩
  obtain ⟨pre, hpre⟩ : ∃ x, x = xs ++ numsB [k0, k1, k2, k3, k4, k5, k6, k7, k8] ++ truthB ok ++ cmdB (cpOf c zs) ++ numsB [n2] := ⟨_, rfl⟩
  have HA4 : Hid (Ap u0 w4 base v v4 pre) := by rw [hpre]; exact HA3.out.trans h4
  have HE4 : Hid (pre.length ≤ 3511) := by
    have h5 := numsB_len [n2] (fun x hx => by rw [List.mem_singleton] at hx; have := HN.out; omega)
    have := HE3.out
    show _ ≤ _
    rw [hpre, List.length_append]
    simp only [List.length_cons, List.length_nil] at h5
    omega
  have HPre : Hid (pre = xs ++ numsB [k0, k1, k2, k3, k4, k5, k6, k7, k8] ++ truthB ok ++ cmdB (cpOf c zs) ++ numsB [n2]) := hpre
  obtain ⟨L4, _, _, _, _, _, _, B4, _⟩ := HS.out HA4.out
  have e22 : w4.cell? ⟨g, 22, none⟩ = some (.slice pv n2 cv) := L4.cell (j := 22) rfl
  clear h4 H4 L4 B4 hpre HA3 d22
  go_wp2_with fail
  go_loopg [0, 45] n2 (fun gk bv iv wz => ∃ (k : Nat) (vk : Value), k ≤ n2 ∧ gk = n2 - k ∧ iv = .int .i64 k ∧ vk = bv ∧ Hid (Ap u0 wz base v vk (pre ++ votesB (((l.take k).map (·.1)).map vpOf))))
  case atStart => exact ⟨0, v4, Nat.zero_le _, rfl, rfl, rfl, by show Ap _ _ _ _ _ _; rw [show votesB (((l.take 0).map (·.1)).map vpOf) = [] from rfl, List.append_nil]; exact HA4.out⟩
  case round =>
    obtain ⟨k, vk, hk, rfl, rfl, rfl, HAk⟩ := hrel
    by_cases hlt : (k : Int) < (n2 : Int)
    · have hk1 : k < l.length := by have := HN.out; omega
      obtain ⟨_, _, Fv, Nv, _, Zk, _, Bk, _⟩ := HS.out HAk.out
      obtain ⟨b1, o1, rfl, r1⟩ := fl_range Fv hk1
      obtain ⟨q1, d1, en1, f1, hb1⟩ := Nv l[k] (List.getElem_mem hk1)
      have hvk := HV.out l[k] (List.getElem_mem hk1)
      rw [en1] at r1
      obtain ⟨x, hvv⟩ : ∃ x, x = l[k].1 := ⟨_, rfl⟩
      rw [← hvv] at r1 f1 hb1 hvk
      have HAt : Hid (∃ y, l[k]? = some y ∧ y.1 = x) := ⟨l[k], List.getElem?_eq_getElem hk1, hvv.symm⟩
      obtain ⟨nl, hnl⟩ : ∃ nl, nl = x.nodes.length := ⟨_, rfl⟩
      rw [← hnl] at r1
      obtain ⟨hs1, hs2, hs3⟩ := mayVo_parts hvk.1
      obtain ⟨sl, ba, cx, nx⟩ := x
      dsimp only at hs1 hs2 hs3 r1 f1 hb1 hvk hnl
      obtain ⟨sl, rfl⟩ := nat_of hs1.1
      obtain ⟨ba, rfl⟩ := nat_of hs2.1
      have HR1 : Hid (wr.rangeAt b1 (o1 + k * 14) (vcell ⟨(sl : Int), (ba : Int), cx, nx⟩ (.slice q1 nl d1))) := r1
      have HO1 : Hid ((vcell ⟨(sl : Int), (ba : Int), cx, nx⟩ (.slice q1 nl d1)).toArray.all (·.oneCell') = true) := vcell_one _ rfl
      have HKi : Hid (wrap64 ((k : Int) + 1) = ((k + 1 : Nat) : Int)) := (by show _ = _; unfold wrap64; omega)
      have HFn : Hid (Fl wr Z q1 (nx.map encI) ∧ nl = nx.length ∧ mayC cx nx = true ∧ goodC cx ∧ sl ≤ 1152921504606846976 ∧ ba ≤ 1152921504606846976) := ⟨f1, hnl, hs3, hvk.2, by omega, by omega⟩
      have HEk : Hid ((pre ++ votesB (((l.take k).map (·.1)).map vpOf)).length ≤ 3511 + 2438 * 1000) := by
        have h1 := votesB_len ((l.take k).map (·.1)) (fun y hy => by
          obtain ⟨z, hz, rfl⟩ := List.mem_map.1 hy
          exact HV.out z (List.mem_of_mem_take hz))
        rw [List.length_map, List.length_take] at h1
        have := HE4.out
        have := HN.out
        have h9 : min k l.length * 2438 ≤ 1000 * 2438 := Nat.mul_le_mul_right _ (by omega)
        show _ ≤ _
        rw [List.length_append]
        omega
      have HZk : Hid (∀ b, Z b → vk.ownBlock ≠ some b ∧ b < wr.heap.size) := Zk
      have HBk : Hid (base ≤ wr.heap.size) := Bk
      clear r1 f1 en1 hvv hnl hb1 hk1 hvk hs1 hs2 hs3 Fv Nv Zk Bk
      go_upto_region 8 with (first
        | (refine wpList_load_mid rfl 72 _ rfl b1 (o1 + k * 14) rfl _ dV HR1.out hdV hdVr szVote ?_)
        | (refine wpList_store_all rfl 72 _ _ rfl 14 wr.heap.size zeroV (vcell ⟨(sl : Int), (ba : Int), cx, nx⟩ (.slice q1 nl d1)) rfl rfl (by exact Lv.new wr _ _) szVote rfl rfl HO1.out ?_; intro u2 hl2 k2))
      have ku2 : Kp (fun _ => False) wr u2 := ((Kp.refl (fun _ => False) wr).alloc (.cells zeroV.toArray 72)).trans k2 (fun b hb e => by omega)
      obtain ⟨gv, hgv⟩ : ∃ x, x = wr.heap.size := ⟨_, rfl⟩
      rw [← hgv] at hl2 ⊢
      have HGv : Hid (gv = wr.heap.size) := hgv
      have HAu : Hid (Ap u0 u2 base v vk (pre ++ votesB (((l.take k).map (·.1)).map vpOf))) := HAk.out.grow ku2
      have HL2 : Hid (Lv u2 gv (vcell ⟨(sl : Int), (ba : Int), cx, nx⟩ (.slice q1 nl d1))) := hl2
      have HFu : Hid (Fl u2 Z q1 (nx.map encI)) := HFn.out.1.keep ku2 (fun _ _ e => e)
      have HZu : Hid (wr.heap.size < u2.heap.size) := by have := hl2.lt (by show 0 < 14; decide); show _ < _; omega
      have HVk : Hid (vk.ownBlock ≠ some gv) := fun e => by have := (ownBlock_lt HAk.out.o e).2; have := HGv.out; omega
      have c0 : u2.cell? ⟨gv, 0, none⟩ = some (.int .i64 (sl : Int)) := hl2.cell (j := 0) rfl
      have c1 : u2.cell? ⟨gv, 1, none⟩ = some (.int .i64 (ba : Int)) := hl2.cell (j := 1) rfl
      have H5 : Hid (Calls Tryd.prog 52 #[vk, .slice (some ⟨u2.heap.size, 0, none⟩) 2 2] (u2.alloc (.cells #[.int .i64 (sl : Int), .int .i64 (ba : Int)] 3)) fun e w' => ∃ v', e = .returned v' ∧ Ap u2 w' base vk v' (pre ++ votesB (((l.take k).map (·.1)).map vpOf) ++ numsB [sl, ba])) := appN_new base vk _ [sl, ba] 2 u2 HAu.out.o (Nat.le_trans HBk.out ku2.size) rfl (fun x hx => by simp only [List.mem_cons, List.not_mem_nil, or_false] at hx; have := HFn.out; omega) (by have := HEk.out; simp only [List.length_cons, List.length_nil]; omega)
      clear ku2 hl2 k2 hgv HR1
      go_wp2_with fail
      refine H5.out.mono ?_
      rintro e9 u3 ⟨v5, rfl, h5⟩
      have HAv : Hid (Ap u2 u3 base vk v5 (pre ++ votesB (((l.take k).map (·.1)).map vpOf) ++ numsB [sl, ba])) := h5
      have HL3 : Hid (Lv u3 gv (vcell ⟨(sl : Int), (ba : Int), cx, nx⟩ (.slice q1 nl d1))) := HL2.out.keep h5.k HVk.out
      have HF3 : Hid (Fl u3 Z q1 (nx.map encI)) := HFu.out.keep h5.k (fun b hb => (HZk.out b hb).1)
      have H6 : Hid (Calls Tryd.prog 24 #[v5, .agg (cmdA cx (.slice q1 nl d1))] u3 fun e w' => ∃ v', e = .returned v' ∧ Ap u3 w' base v5 v' (pre ++ votesB (((l.take k).map (·.1)).map vpOf) ++ numsB [sl, ba] ++ cmdB (cpOf cx nx))) := appC_ok base v5 _ cx Z q1 nl d1 nx u3 h5.o (by have := HBk.out; have := HZu.out; have := h5.k.size; omega) HF3.out (fun b hb => ⟨h5.apart (xs := xs) (by have := (HZk.out b hb).2; have := HZu.out; omega) (HZk.out b hb).1, by have := (HZk.out b hb).2; have := HZu.out; have := h5.k.size; omega⟩) HFn.out.2.1 (mayC_full HFn.out.2.2.1) ⟨HFn.out.2.2.2.1.1, HFn.out.2.2.2.1.2.1⟩ (by
        have h1 := numsB_len [sl, ba] (fun x hx => by simp only [List.mem_cons, List.not_mem_nil, or_false] at hx; have := HFn.out; omega)
        have := HEk.out
        rw [List.length_append]
        simp only [List.length_cons, List.length_nil] at h1
        omega)
      clear h5 H5 c0 c1 HL2 HFu
      go_wp2_with (refine wpList_ldm (by first | rfl | go_simp) 27 _ rfl gv 2 rfl (cmdA cx (.slice q1 nl d1)).toList dC (HL3.out.range 2 12) hdC hdCr szCmd ?_)
      refine H6.out.mono ?_
      rintro e9 u4 ⟨v6, rfl, h6⟩
      have HAz : Hid (Ap u0 u4 base v v6 (pre ++ votesB (((l.take (k + 1)).map (·.1)).map vpOf))) := by
        have h7 := HAu.out.trans (HAv.out.trans h6)
        obtain ⟨y, hy, hyx⟩ := HAt.out
        show Ap _ _ _ _ _ _
        rw [votesB_take hy, hyx]
        have e1 : voteB (vpOf ⟨(sl : Int), (ba : Int), cx, nx⟩) = numsB [sl, ba] ++ cmdB (cpOf cx nx) := rfl
        rw [e1]
        simp only [List.append_assoc] at h7 ⊢
        exact h7
      clear h6 H6 HL3 HF3
      go_wp2_with fail
      go_roundg (n2 - (k + 1))
      case rel => exact ⟨k + 1, v6, by omega, rfl, by first | rw [HKi.out] | rfl | go_num, rfl, HAz.out⟩
      case measure => omega
    · have hkn : l.take k = l := List.take_of_length_le (by have := HN.out; omega)
      rw [hkn] at HAk
      clear hkn
      obtain ⟨mid, hmid⟩ : ∃ x, x = pre ++ votesB ((l.map (·.1)).map vpOf) := ⟨_, rfl⟩
      rw [← hmid] at HAk
      have HMid : Hid (mid = pre ++ votesB ((l.map (·.1)).map vpOf)) := hmid
      have HEm : Hid (mid.length ≤ 3511 + 2438 * 1000) := by
        have h1 := votesB_len (l.map (·.1)) (fun y hy => by
          obtain ⟨z, hz, rfl⟩ := List.mem_map.1 hy
          exact HV.out z hz)
        rw [List.length_map] at h1
        have := HE4.out
        have := HN.out
        have h9 : l.length * 2438 ≤ 1000 * 2438 := Nat.mul_le_mul_right _ (by omega)
        show _ ≤ _
        rw [hmid, List.length_append]
        omega
      clear hmid
      obtain ⟨L5, _, _, _, _, _, _, B5, _⟩ := HS.out HAk.out
      have e23 : wr.cell? ⟨g, 23, none⟩ = some (.slice pb n3 cb) := L5.cell (j := 23) rfl
      have H7 : Hid (Calls Tryd.prog 52 #[vk, .slice (some ⟨wr.heap.size, 0, none⟩) 1 1] (wr.alloc (.cells #[.int .i64 (n3 : Int)] 3)) fun e w' => ∃ v', e = .returned v' ∧ Ap wr w' base vk v' (mid ++ numsB [n3])) := appN_new base vk _ [n3] 1 wr HAk.out.o B5 rfl (fun x hx => by rw [List.mem_singleton] at hx; have := HN.out; omega) (by have := HEm.out; simp only [List.length_cons, List.length_nil]; omega)
      clear L5 B5
      go_wp2_with fail
      refine H7.out.mono ?_
      rintro e9 w7 ⟨v7, rfl, h7⟩
      have HA7 : Hid (Ap u0 w7 base v v7 (mid ++ numsB [n3])) := HAk.out.trans h7
      have HE7 : Hid ((mid ++ numsB [n3]).length ≤ 3520 + 2438 * 1000) := by
        have h5 := numsB_len [n3] (fun x hx => by rw [List.mem_singleton] at hx; have := HN.out; omega)
        have := HEm.out
        show _ ≤ _
        rw [List.length_append]
        simp only [List.length_cons, List.length_nil] at h5
        omega
      obtain ⟨L7, _, _, _, R7, _, _, B7, _⟩ := HS.out HA7.out
      have f23 : w7.cell? ⟨g, 23, none⟩ = some (.slice pb n3 cb) := L7.cell (j := 23) rfl
      have HR7 : Hid (Rb w7 pb n3 bs ∧ base ≤ w7.heap.size) := ⟨R7, B7⟩
      clear h7 H7 L7 R7 B7 e23
      go_wp2_with (at_builtin; refine wpList_append_bytes w7 rfl _ _ rfl base v7 (mid ++ numsB [n3]) rfl HA7.out.o pb n3 cb bs rfl HR7.out.1 (by have := HE7.out; have := HN.out; omega) HR7.out.2 ?_; intro v8 w8 o8 k8 b8)
      have HA8 : Hid (Ap w w8 base v v8 (mid ++ numsB [n3] ++ bs)) := by
        have h8 : Ap u0 w8 base v v8 (mid ++ numsB [n3] ++ bs) := HA7.out.trans ⟨o8, k8, fun b e => by
          rcases b8 with q | q
          · exact Or.inl (q ▸ e)
          · rw [q] at e
            injection e with e
            exact Or.inr (by omega)⟩
        exact (⟨ownsRow_keep HO.out HK0.out (fun _ _ e => e), HK0.out.mono (fun _ _ e => e.elim), fun b e => Or.inl e⟩ : Ap w u0 base v v xs).trans h8
      clear o8 k8 b8
      go_ret
      refine ⟨v8, rfl, ?_⟩
      have h9 := HA8.out
      rw [HMid.out, HPre.out] at h9
      have hbl : bs.length = n3 := HF.out.2.2.2.1.len
      unfold msgB
      dsimp only
      rw [hbl, List.length_map, List.length_map, ← HN.out.2.1, ← numsB_one n2, ← numsB_one n3]
      simp only [List.append_assoc] at h9 ⊢
      exact h9
end Go.Proofs.YtoepemgflbmlcaaDoor
