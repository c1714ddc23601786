/- The verifier's does: a call on both plates. -/
import Derived.Test.YtfaaikblkakiaaaPm
import Derived.Test.YtfaaikblkakiaaaPz
import Derived.Test.YtfaaikblkakiaaaFe3
import Derived.Deep.RegionHeldLaw
namespace Go.Proofs.Ytfaaikblkakiaaa
open Go.RowKit Go.Deep Go.Maps

set_option maxRecDepth 100000 in
set_option maxHeartbeats 6400000 in
theorem does_ok {w : World} {b x n q : Nat} {F : Nat → Prop} (h : Pr w b x n q F N0) (hq : (q : Int) < 9223372036854775807) (op i tn nn : Int) (pb : Option Addr) (cb : Nat) (xs : List Nat) (hb : ∀ w', Kp F w w' → Rb w' pb xs.length xs) (hnb : xs.length ≤ 140737488355328)
    (pk : Option Addr) (ck : Nat) (zs : List Int) (hz : ∀ w', Kp F w w' → Rz w' pk zs) (hzl : zs.length * 8 ≤ 140737488355328) (hzw : ∀ z ∈ zs, (Lit.int .i64 z).wf = true) (htw : (Lit.int .i64 tn).wf = true) :
    Calls Try.prog 14 #[.pointer (some ⟨b, 0, none⟩), .pointer (some ⟨x, 0, none⟩), .agg #[.int .i64 op, .int .i64 i, .int .i64 tn, .int .i64 nn, .slice pb xs.length cb, .slice pk zs.length ck]] w fun e w' => e = .returned (.bool true) ∧ Kp F w w' ∧ Pr w' b x n (q + 1) F N0 := by
  have HFlt : Hid (∀ z, F z → z < w.heap.size) := h.1
  have HPr : Hid (Pr w b x n q F N0) := h
  have HRb : Hid (∀ w', Kp F w w' → Rb w' pb xs.length xs) := hb
  have HRz : Hid (∀ w', Kp F w w' → Rz w' pk zs) := hz
  have HZW : Hid _ := hzw
  have HTW : Hid (_ = true) := htw
  have HNB : Hid (xs.length ≤ 140737488355328) := hnb
  have HZL : Hid (zs.length * 8 ≤ 140737488355328) := hzl
  have HQ : Hid ((q : Int) < 9223372036854775807) := hq
  have HBy : Hid (∀ y ∈ xs, y < 256) := (hb w (Kp.refl _ _)).byte
  obtain ⟨L1, hL1⟩ : ∃ l, l = xs.length := ⟨_, rfl⟩
  obtain ⟨L2, hL2⟩ : ∃ l, l = zs.length := ⟨_, rfl⟩
  have HM : Hid (_ = _) := m7_eq op
  have HMlt : Hid (m7 op < 7) := m7_lt op
  generalize m7 op = M at *
  rw [← hL1, ← hL2]
  have HL1 : Hid (L1 = xs.length) := hL1
  have HL2 : Hid (L2 = zs.length) := hL2
  clear h hb hz hzw htw hnb hzl hq hL1 hL2
  go_enter Try.func14, Try.ntmps14
  go_wp2_with fail
  obtain ⟨cs, hcs⟩ : ∃ cs : Array Value, cs = #[.int .i64 op, .int .i64 i, .int .i64 tn, .int .i64 nn, .slice pb L1 cb, .slice pk L2 ck] := ⟨_, rfl⟩
  rw [← hcs]
  obtain ⟨wk, hwk⟩ : ∃ z, z = w.alloc (.cells cs 35) := ⟨_, rfl⟩
  rw [← hwk]
  have hzk : w.heap.size < wk.heap.size := by rw [hwk]; simp
  have k0 : Kp (fun _ => False) w wk := by rw [hwk]; exact (Kp.refl _ _).alloc _
  have cc : ∀ j v, cs[j]? = some v → wk.cell? ⟨w.heap.size, j, none⟩ = some v := fun j v hv => by
    rw [hwk, cell_of_row _ _ j cs _ (0, 0) (heap_alloc_new w (.cells cs 35))]
    exact hv
  have e0 := cc 0 _ (by rw [hcs]; rfl)
  have e1 := cc 1 _ (by rw [hcs]; rfl)
  have e2 := cc 2 _ (by rw [hcs]; rfl)
  have e3 := cc 3 _ (by rw [hcs]; rfl)
  have e4 := cc 4 _ (by rw [hcs]; rfl)
  have e5 := cc 5 _ (by rw [hcs]; rfl)
  clear cc hwk hcs
  obtain ⟨kb, hkb⟩ : ∃ z, z = w.heap.size := ⟨_, rfl⟩
  rw [← hkb] at e0 e1 e2 e3 e4 e5 ⊢
  have HKb : Hid (kb = w.heap.size) := hkb
  clear hkb
  have HT0 : Hid (∀ u, Kp (fun _ => False) wk u → Kp (fun _ => False) w u) := fun u k => k0.trans k (fun _ _ e => e)
  have HTr : Hid (∀ u u' : World, Kp (fun _ => False) wk u → Kp (fun _ => False) u u' → Kp (fun _ => False) wk u') := fun u u' h1 h2 => h1.trans h2 (fun _ _ e => e)
  have HCl : Hid (∀ u, Kp (fun _ => False) wk u → ∀ c, Calls _ _ #[.slice pb L1 c] u _) := fun u k c => by
    rw [HL1.out]
    exact clone_any pb xs.length c xs u (HRb.out u ((HT0.out u k).mono (fun _ _ e => e.elim))) HNB.out
  have HZs : Hid (∀ u, Kp (fun _ => False) wk u → ∀ c, Src Try.prog 1 33 (.slice pk L2 c) L2 (zs.map encZ) u) := fun u k c => by
    rw [HL2.out]
    exact (HRz.out u ((HT0.out u k).mono (fun _ _ e => e.elim))).src c
  have HZ8 : Hid (L2 * 8 ≤ 140737488355328) := by show _ ≤ _; rw [HL2.out]; exact HZL.out
  have HOw : Hid (∀ (v : Value) (u u' : World), Kp (fun _ => False) wk u → u.ownsRow wk.heap.size 3 1 v 0 [] → Kp (fun b => v.ownBlock = some b) u u' → Kp (fun _ => False) wk u') := fun v u u' h1 h2 h3 => h1.trans h3 (fun z hz e => by have := (ownBlock_lt h2 e).1; omega)
  have HE1 : Hid (∀ u : World, Kp (fun _ => False) (wk.alloc (.cells #[] 3)).drew u → u.ownsRow wk.heap.size 3 1 (.slice (some ⟨wk.heap.size, 0, none⟩) 0 0) 0 []) := fun u k => by
    have h0 : ((wk.alloc (.cells #[] 3)).drew).ownsRow wk.heap.size 3 1 (.slice (some ⟨wk.heap.size, 0, none⟩) 0 0) 0 [] := empty_ints wk
    exact ownsRow_keep h0 k (fun _ _ => id)
  have HS : Hid (∀ z, Kp (fun _ => False) wk z → (Kp (fun _ => False) wk z ∧ z.cell? ⟨kb, 4, none⟩ = some (.slice pb L1 cb) ∧ z.cell? ⟨kb, 5, none⟩ = some (.slice pk L2 ck))) := fun z k => ⟨k, k.cellv e4 id, k.cellv e5 id⟩
  have HIs : Hid (∀ (u : World) (v : Value), u.ownsRow wk.heap.size 3 1 v L2 (zs.map encZ) → ∃ p c, v = .slice p L2 c ∧ Rz u p zs ∧ ∀ a, p = some a → wk.heap.size ≤ a.block) := fun u v h => by
    rw [HL2.out] at h ⊢
    obtain ⟨p, c, e, r, hp⟩ := Is.rz (w := u) (base := wk.heap.size) (v := v) (zs := zs) h
    exact ⟨p, c, e, r, fun a ha => (hp a ha).1⟩
  have HGv : Hid (∀ (u u' : World) (v : Value), Kp (fun _ => False) wk u → Ow u' u.heap.size v xs → ∃ p c, v = .slice p L1 c ∧ Rb u' p L1 xs ∧ (∀ a, p = some a → u.heap.size ≤ a.block ∧ a.block < u'.heap.size) ∧ Ow u' u.heap.size v xs) := fun u u' v _ o => by
    obtain ⟨p, c, e, hc, r, hp⟩ := o.rb HBy.out
    rw [HL1.out]
    exact ⟨p, c, e, r, fun a ha => ⟨(hp a ha).1, (ownBlock_lt o (hp a ha).2).2⟩, o⟩
  have HEm : Hid (∀ u : World, Kp (fun _ => False) wk u → (u.alloc (.cells #[] 3)).ownsRow wk.heap.size 3 1 (.slice (some ⟨u.heap.size, 0, none⟩) 0 0) 0 []) := fun u k => ownsRow_base (empty_ints u) k.size
  have HK1 : Hid (∀ (u u' : World) (v : Value), Ow u ((wk.alloc (.cells #[] 3)).drew).heap.size v xs → Kp (fun b => (Value.slice (some ⟨wk.heap.size, 0, none⟩) 0 0).ownBlock = some b) u u' → Ow u' wk.heap.size v xs) := fun u u' v o k => by
    have hs : ((wk.alloc (.cells #[] 3)).drew).heap.size = wk.heap.size + 1 := by simp [World.drew]
    exact ownsRow_base (ownsRow_keep o k (fun g hg e => by
      have h1 := (ownBlock_lt o hg).1
      have h2 : wk.heap.size = g := Option.some.inj (show some wk.heap.size = some g from e)
      omega)) (by omega)
  have HK2 : Hid (∀ (u u' : World) (v : Value), Ow u (wk.drew).heap.size v xs → Kp (fun b => (Value.slice (some ⟨u.heap.size, 0, none⟩) 0 0).ownBlock = some b) (u.alloc (.cells #[] 3)) u' → Ow u' wk.heap.size v xs) := fun u u' v o k =>
    ownsRow_keep (ownsRow_keep (S := fun _ => False) o ((Kp.refl _ _).alloc _) (fun _ _ => id)) k (fun g hg e => by
      have h1 := (ownBlock_lt o hg).2
      have h2 : u.heap.size = g := Option.some.inj (show some u.heap.size = some g from e)
      omega)
  have kd : Kp (fun _ => False) wk wk.drew := (Kp.refl _ _).drew
  have kda : Kp (fun _ => False) wk (wk.alloc (.cells #[] 3)).drew := ((Kp.refl _ _).alloc _).drew
  go_region_held_law (fun z => Kp (fun _ => False) wk z ∧ z.cell? ⟨kb, 4, none⟩ = some (.slice pb L1 cb) ∧ z.cell? ⟨kb, 5, none⟩ = some (.slice pk L2 ck))
    (first
      | exact HS.out _ kd
      | exact HS.out _ kda
      | exact HS.out _ kw2
      | exact HS.out _ (kw2.alloc _)
      | exact HS.out _ kw3)
    (first
      | (have kx := kw2
         refine step_append_ints _ rfl (.tmp 17) (.tmp 19) rfl wk.heap.size _ rfl ?_ _ L2 _ rfl (HZs.out _ ?_ _) HZ8.out ?_ ?_
         · first
           | exact HE1.out _ k2
           | exact HEm.out _ kw2
         · first
           | exact kw2
           | exact kw2.alloc _
         · first
           | exact kw2.size
           | exact (kw2.alloc _).size
         intro v3 w3 o3 hk3 hat3
         have kw3 : Kp (fun _ => False) wk w3 := by
           first
           | exact HOw.out _ _ _ kw2 (HE1.out _ k2) hk3
           | exact HOw.out _ _ _ (kw2.alloc _) (HEm.out _ kw2) hk3
         obtain ⟨p3, c3, ev3, rz3, hp3⟩ := HIs.out _ _ o3
         have og3 : Ow w3 wk.heap.size (.slice p2 L1 c2) xs := by
           first
           | exact HK1.out _ _ _ o2 hk3
           | exact HK2.out _ _ _ o2 hk3
         clear hk3 hat3 o3 o2
         subst ev3)
      | (go_at_call 23
         refine (HCl.out _ ?_ _).mono ?_
         · first
           | exact kd
           | exact kda
         rintro e w2 ⟨v2, rfl, k2, o2'⟩
         have kw2 : Kp (fun _ => False) wk w2 := by
           first
           | exact HTr.out _ _ kd k2
           | exact HTr.out _ _ kda k2
         obtain ⟨p2, c2, ev2, rb2, hp2, o2⟩ : ∃ p c, v2 = .slice p L1 c ∧ Rb w2 p L1 xs ∧ (∀ a, p = some a → _ ≤ a.block ∧ a.block < w2.heap.size) ∧ Ow w2 _ v2 xs := by
           first
           | exact HGv.out _ _ _ kd o2'
           | exact HGv.out _ _ _ kda o2'
         clear o2'
         subst ev2))
  all_goals
    have hz3 := kw3.size
    have kF3 : Kp F w w3 := (HT0.out _ kw3).mono (fun _ _ e => e.elim)
    have hkF : ¬ F kb := fun e => by have h1 := HFlt.out _ e; have h2 := HKb.out; omega
    have HKd : Hid (kb < wk.heap.size) := by have h2 := HKb.out; show _ < _; omega
    obtain ⟨Y, hY1, hY2⟩ : ∃ Y : Nat → Prop, Hid (∀ z, w.heap.size ≤ z → z < w3.heap.size → Y z) ∧ Hid (∀ z, Y z → w.heap.size ≤ z ∧ z < w3.heap.size) := ⟨fun z => w.heap.size ≤ z ∧ z < w3.heap.size, fun z a b => ⟨a, b⟩, fun z h => h⟩
    have HP3 : Hid (Pr w3 b x n q F Y) := (HPr.out.fresh (Y' := Y) (fun z e => (hY2.out z e).1)).keep0 (HT0.out _ kw3)
    have HYl : Hid (∀ z, Y z → z < w3.heap.size) := fun z e => (hY2.out z e).2
    have HO3 : Hid (Ow w3 wk.heap.size (.slice p2 L1 c2) xs) := og3
    have HRk : Hid (∀ z, Kp F w3 z → Rb z p2 L1 xs) := fun z k => by
      obtain ⟨p', c', e', _, r', hp'⟩ := HO3.out.rb HBy.out
      rw [← HL1.out] at e' r'
      obtain ⟨rfl, _, _⟩ := Value.slice.inj e'
      exact r'.keep k (fun a ha _ e => by have h1 := (hp' a ha).1; have h2 := HFlt.out _ e; omega)
    have HZk : Hid (∀ z, Kp F w3 z → Rz z p3 zs) := fun z k => Rz.keep rz3 k (fun a ha e => by have h1 := hp3 a ha; have h2 := HFlt.out _ e; omega)
    have HRb3 : Hid (∀ z, Kp F w3 z → Rb z pb L1 xs) := fun z k => by rw [HL1.out]; exact HRb.out z (kF3.trans k (fun _ _ e => e))
    have HRz3 : Hid (∀ z, Kp F w3 z → Rz z pk zs) := fun z k => HRz.out z (kF3.trans k (fun _ _ e => e))
    have HSc : Hid (∀ z, Kp F w3 z → z.cell? ⟨kb, 1, none⟩ = some (.int .i64 i) ∧ z.cell? ⟨kb, 2, none⟩ = some (.int .i64 tn) ∧ z.cell? ⟨kb, 3, none⟩ = some (.int .i64 nn) ∧ z.cell? ⟨kb, 4, none⟩ = some (.slice pb L1 cb) ∧ z.cell? ⟨kb, 5, none⟩ = some (.slice pk L2 ck)) := fun z k => ⟨k.cellv (kw3.cellv e1 id) hkF, k.cellv (kw3.cellv e2 id) hkF, k.cellv (kw3.cellv e3 id) hkF, k.cellv (kw3.cellv e4 id) hkF, k.cellv (kw3.cellv e5 id) hkF⟩
    have HTf : Hid (∀ u u' : World, Kp F w3 u → Kp F u u' → Kp F w3 u') := fun u u' h1 h2 => h1.trans h2 (fun _ _ e => e)
    have HKF : Hid (Kp F w w3) := kF3
    have f0 := kw3.cellv e0 id
    obtain ⟨f1, f2, f3, f4, f5⟩ := HSc.out w3 (Kp.refl _ _)
    have hm := HM.out
    clear e0 e1 e2 e3 e4 e5 rz3 hp3 og3 kF3 HCl HZs HZ8 HOw HE1 HS HIs HGv HEm HK1 HK2 kd kda rb2 hp2 k2 kw2 HTr HT0 HPr HRb HRz HM
    have hM7 : M = 0 ∨ M = 1 ∨ M = 2 ∨ M = 3 ∨ M = 4 ∨ M = 5 ∨ M = 6 := by have := HMlt.out; omega
    clear HMlt
    rcases hM7 with rfl | rfl | rfl | rfl | rfl | rfl | rfl
    · go_wp2_with fail
      have kd3 : Kp F w3 w3.drew := (Kp.refl _ _).drew
      have HWr : Hid (Calls _ _ _ w3.drew _) := write_pair (HP3.out.keep0 (Kp.refl _ _).drew) HYl.out HQ.out i p2 pb L1 c2 cb xs (HRk.out _ kd3) (fun z k => HRb3.out z (HTf.out _ _ kd3 k))
      have HSw : Hid (∀ z, Kp F w3 z → z.cell? ⟨kb, 1, none⟩ = some (.int .i64 i) ∧ z.cell? ⟨kb, 4, none⟩ = some (.slice pb L1 cb)) := fun z k => ⟨(HSc.out z k).1, (HSc.out z k).2.2.2.1⟩
      go_region_held3 (fun z => z.cell? ⟨kb, 1, none⟩ = some (.int .i64 i) ∧ z.cell? ⟨kb, 4, none⟩ = some (.slice pb L1 cb))
        (first
          | exact HSw.out _ kd3
          | exact HSw.out _ k34
          | exact HSw.out _ k35)
        (first
          | (go_at_call 30; refine HWr.out.mono ?_; rintro e w4 ⟨c4, rfl, k4, hC4⟩; have HC4 : Hid (Calls _ _ _ _ _) := hC4; clear hC4; have k34 := HTf.out _ _ kd3 k4)
          | (go_at_call 39; refine HC4.out.mono ?_; rintro e w5 ⟨rfl, k5, hP5⟩; have k35 := HTf.out _ _ k34 k5))
      all_goals
        have HP5 : Hid (Pr w5 b x n (q + 1) F Y) := hP5
        have HK35 : Hid (Kp F w3 w5) := k35
        have hz5 := k35.size
        clear hP5 HC4 HWr HSw k4 k5 k34 k35 kd3
        go_wp2_with fail
        obtain ⟨ws, hws⟩ : ∃ z, z = w5.alloc (.cells #[.slice p2 L1 c2] 32) := ⟨_, rfl⟩
        have ks : Kp (fun _ => False) w5 ws := by rw [hws]; exact (Kp.refl _ _).alloc _
        have rs : ws.rowIs w5.heap.size 32 1 (fun _ => .slice p2 L1 c2) := by
          rw [hws]
          exact ⟨_, blk_alloc_new _ _, rfl, fun i hi => by
            obtain rfl : i = 0 := by omega
            rfl⟩
        have HSp : Hid (Calls _ _ _ ws _) := spoil_in (fun g => (Value.slice p2 L1 c2).ownBlock = some g) w5.heap.size 1 1 (fun _ => .slice p2 L1 c2) ws rs (fun _ _ => Ow.wq (xs := xs) (ownsRow_keep (ownsRow_keep HO3.out HK35.out (fun g hg e => by have h1 := (ownBlock_lt HO3.out hg).1; have h2 := HFlt.out _ e; omega)) ks (fun _ _ => id)) (by have := HNB.out; omega) (fun g hg e => by have := (ownBlock_lt HO3.out hg).2; omega)) (by omega)
        rw [← hws]
        refine HSp.out.mono ?_
        rintro e w6 ⟨rfl, k6⟩
        have hOw : ∀ g, (Value.slice p2 L1 c2).ownBlock = some g → w.heap.size ≤ g ∧ g < w3.heap.size ∧ g ≠ kb := fun g hg => by
          have h1 := ownBlock_lt HO3.out hg
          have h2 := HKd.out
          omega
        have HP6 : Hid (Pr w6 b x n (q + 1) F Y) := (HP5.out.keep0 ks).keep k6 (fun z hz hf => by have h1 := (hOw z hz).1; have h2 := HFlt.out _ hf; omega) (fun z hz => hY1.out z (hOw z hz).1 (hOw z hz).2.1)
        have HK6 : Hid (Kp F w w6) := ((HKF.out.trans HK35.out (fun _ _ e => e)).trans ks (fun _ _ e => e.elim)).trans k6 (fun z hz e => by have h1 := (hOw z e).1; omega)
        have gk1 : w6.cell? ⟨kb, 1, none⟩ = some (.int .i64 i) := k6.cellv (ks.cellv (HSc.out w5 HK35.out).1 id) (fun e => (hOw _ e).2.2 rfl)
        clear HSp hws ks rs k6 hOw HP5 HK35
        have HRd : Hid (Calls _ _ _ w6 _) := read_pair HP6.out i
        clear f0 f1 f2 f3 f4 f5
        have g1 := gk1
        go_wp2_with fail
        refine HRd.out.mono ?_
        rintro e wy ⟨q1, l, d1, cy, rfl, ky, hCy⟩
        have HCy : Hid (Calls _ _ _ _ _) := hCy
        have g2 := ky.cellv g1 id
        clear HRd g1 hCy
        go_wp2_with fail
        refine HCy.out.mono ?_
        rintro e wz ⟨q2, d2, ys, rfl, kz, r1, r2⟩
        have HEq : Hid (Calls _ _ _ wz _) := equal_same q1 q2 l l d1 d2 ys wz r1 r2
        have HPz : Hid (Pr wz b x n (q + 1) F N0) := ((HP6.out.keep0 ky).keep0 kz).fresh (fun _ e => e.elim)
        have HSm : Hid (Calls _ _ _ wz _) := same_pair HPz.out
        have HKz : Hid (Kp F w wz) := (HK6.out.trans ky (fun _ _ e => e.elim)).trans kz (fun _ _ e => e.elim)
        clear HCy g2 r1 r2 ky kz
        go_wp2_with (first
          | (go_at_call 31; refine HEq.out.mono ?_; rintro e w' ⟨rfl, hw⟩; obtain rfl := hw.symm)
          | (go_at_call 15; refine HSm.out.mono ?_; rintro e wl ⟨rfl, kl⟩))
        go_ret
        exact ⟨rfl, HKz.out.trans kl (fun _ _ e => e.elim), HPz.out.keep0 kl⟩
    · go_wp2_with fail
      have kd3 : Kp F w3 w3.drew := (Kp.refl _ _).drew
      have HWr : Hid (Calls _ _ _ w3.drew _) := write_pair (HP3.out.keep0 (Kp.refl _ _).drew) HYl.out HQ.out i p2 pb L1 c2 cb xs (HRk.out _ kd3) (fun z k => HRb3.out z (HTf.out _ _ kd3 k))
      have HSw : Hid (∀ z, Kp F w3 z → z.cell? ⟨kb, 1, none⟩ = some (.int .i64 i) ∧ z.cell? ⟨kb, 4, none⟩ = some (.slice pb L1 cb)) := fun z k => ⟨(HSc.out z k).1, (HSc.out z k).2.2.2.1⟩
      go_region_held3 (fun z => z.cell? ⟨kb, 1, none⟩ = some (.int .i64 i) ∧ z.cell? ⟨kb, 4, none⟩ = some (.slice pb L1 cb))
        (first
          | exact HSw.out _ kd3
          | exact HSw.out _ k34
          | exact HSw.out _ k35)
        (first
          | (go_at_call 30; refine HWr.out.mono ?_; rintro e w4 ⟨c4, rfl, k4, hC4⟩; have HC4 : Hid (Calls _ _ _ _ _) := hC4; clear hC4; have k34 := HTf.out _ _ kd3 k4)
          | (go_at_call 39; refine HC4.out.mono ?_; rintro e w5 ⟨rfl, k5, hP5⟩; have k35 := HTf.out _ _ k34 k5))
      all_goals
        have HP5 : Hid (Pr w5 b x n (q + 1) F Y) := hP5
        have HK35 : Hid (Kp F w3 w5) := k35
        have hz5 := k35.size
        clear hP5 HC4 HWr HSw k4 k5 k34 k35 kd3
        go_wp2_with fail
        obtain ⟨ws, hws⟩ : ∃ z, z = w5.alloc (.cells #[.slice p2 L1 c2] 32) := ⟨_, rfl⟩
        have ks : Kp (fun _ => False) w5 ws := by rw [hws]; exact (Kp.refl _ _).alloc _
        have rs : ws.rowIs w5.heap.size 32 1 (fun _ => .slice p2 L1 c2) := by
          rw [hws]
          exact ⟨_, blk_alloc_new _ _, rfl, fun i hi => by
            obtain rfl : i = 0 := by omega
            rfl⟩
        have HSp : Hid (Calls _ _ _ ws _) := spoil_in (fun g => (Value.slice p2 L1 c2).ownBlock = some g) w5.heap.size 1 1 (fun _ => .slice p2 L1 c2) ws rs (fun _ _ => Ow.wq (xs := xs) (ownsRow_keep (ownsRow_keep HO3.out HK35.out (fun g hg e => by have h1 := (ownBlock_lt HO3.out hg).1; have h2 := HFlt.out _ e; omega)) ks (fun _ _ => id)) (by have := HNB.out; omega) (fun g hg e => by have := (ownBlock_lt HO3.out hg).2; omega)) (by omega)
        rw [← hws]
        refine HSp.out.mono ?_
        rintro e w6 ⟨rfl, k6⟩
        have hOw : ∀ g, (Value.slice p2 L1 c2).ownBlock = some g → w.heap.size ≤ g ∧ g < w3.heap.size ∧ g ≠ kb := fun g hg => by
          have h1 := ownBlock_lt HO3.out hg
          have h2 := HKd.out
          omega
        have HP6 : Hid (Pr w6 b x n (q + 1) F Y) := (HP5.out.keep0 ks).keep k6 (fun z hz hf => by have h1 := (hOw z hz).1; have h2 := HFlt.out _ hf; omega) (fun z hz => hY1.out z (hOw z hz).1 (hOw z hz).2.1)
        have HK6 : Hid (Kp F w w6) := ((HKF.out.trans HK35.out (fun _ _ e => e)).trans ks (fun _ _ e => e.elim)).trans k6 (fun z hz e => by have h1 := (hOw z e).1; omega)
        have gk1 : w6.cell? ⟨kb, 1, none⟩ = some (.int .i64 i) := k6.cellv (ks.cellv (HSc.out w5 HK35.out).1 id) (fun e => (hOw _ e).2.2 rfl)
        clear HSp hws ks rs k6 hOw HP5 HK35
        have HRd : Hid (Calls _ _ _ w6 _) := read_pair HP6.out i
        clear f0 f1 f2 f3 f4 f5
        have g1 := gk1
        go_wp2_with fail
        refine HRd.out.mono ?_
        rintro e wy ⟨q1, l, d1, cy, rfl, ky, hCy⟩
        have HCy : Hid (Calls _ _ _ _ _) := hCy
        have g2 := ky.cellv g1 id
        clear HRd g1 hCy
        go_wp2_with fail
        refine HCy.out.mono ?_
        rintro e wz ⟨q2, d2, ys, rfl, kz, r1, r2⟩
        have HEq : Hid (Calls _ _ _ wz _) := equal_same q1 q2 l l d1 d2 ys wz r1 r2
        have HPz : Hid (Pr wz b x n (q + 1) F N0) := ((HP6.out.keep0 ky).keep0 kz).fresh (fun _ e => e.elim)
        have HSm : Hid (Calls _ _ _ wz _) := same_pair HPz.out
        have HKz : Hid (Kp F w wz) := (HK6.out.trans ky (fun _ _ e => e.elim)).trans kz (fun _ _ e => e.elim)
        clear HCy g2 r1 r2 ky kz
        go_wp2_with (first
          | (go_at_call 31; refine HEq.out.mono ?_; rintro e w' ⟨rfl, hw⟩; obtain rfl := hw.symm)
          | (go_at_call 15; refine HSm.out.mono ?_; rintro e wl ⟨rfl, kl⟩))
        go_ret
        exact ⟨rfl, HKz.out.trans kl (fun _ _ e => e.elim), HPz.out.keep0 kl⟩
    · go_wp2_with fail
      have kd3 : Kp F w3 w3.drew := (Kp.refl _ _).drew
      have HWr : Hid (Calls _ _ _ w3.drew _) := write_pair (HP3.out.keep0 (Kp.refl _ _).drew) HYl.out HQ.out i p2 pb L1 c2 cb xs (HRk.out _ kd3) (fun z k => HRb3.out z (HTf.out _ _ kd3 k))
      have HSw : Hid (∀ z, Kp F w3 z → z.cell? ⟨kb, 1, none⟩ = some (.int .i64 i) ∧ z.cell? ⟨kb, 4, none⟩ = some (.slice pb L1 cb)) := fun z k => ⟨(HSc.out z k).1, (HSc.out z k).2.2.2.1⟩
      go_region_held3 (fun z => z.cell? ⟨kb, 1, none⟩ = some (.int .i64 i) ∧ z.cell? ⟨kb, 4, none⟩ = some (.slice pb L1 cb))
        (first
          | exact HSw.out _ kd3
          | exact HSw.out _ k34
          | exact HSw.out _ k35)
        (first
          | (go_at_call 30; refine HWr.out.mono ?_; rintro e w4 ⟨c4, rfl, k4, hC4⟩; have HC4 : Hid (Calls _ _ _ _ _) := hC4; clear hC4; have k34 := HTf.out _ _ kd3 k4)
          | (go_at_call 39; refine HC4.out.mono ?_; rintro e w5 ⟨rfl, k5, hP5⟩; have k35 := HTf.out _ _ k34 k5))
      all_goals
        have HP5 : Hid (Pr w5 b x n (q + 1) F Y) := hP5
        have HK35 : Hid (Kp F w3 w5) := k35
        have hz5 := k35.size
        clear hP5 HC4 HWr HSw k4 k5 k34 k35 kd3
        go_wp2_with fail
        obtain ⟨ws, hws⟩ : ∃ z, z = w5.alloc (.cells #[.slice p2 L1 c2] 32) := ⟨_, rfl⟩
        have ks : Kp (fun _ => False) w5 ws := by rw [hws]; exact (Kp.refl _ _).alloc _
        have rs : ws.rowIs w5.heap.size 32 1 (fun _ => .slice p2 L1 c2) := by
          rw [hws]
          exact ⟨_, blk_alloc_new _ _, rfl, fun i hi => by
            obtain rfl : i = 0 := by omega
            rfl⟩
        have HSp : Hid (Calls _ _ _ ws _) := spoil_in (fun g => (Value.slice p2 L1 c2).ownBlock = some g) w5.heap.size 1 1 (fun _ => .slice p2 L1 c2) ws rs (fun _ _ => Ow.wq (xs := xs) (ownsRow_keep (ownsRow_keep HO3.out HK35.out (fun g hg e => by have h1 := (ownBlock_lt HO3.out hg).1; have h2 := HFlt.out _ e; omega)) ks (fun _ _ => id)) (by have := HNB.out; omega) (fun g hg e => by have := (ownBlock_lt HO3.out hg).2; omega)) (by omega)
        rw [← hws]
        refine HSp.out.mono ?_
        rintro e w6 ⟨rfl, k6⟩
        have hOw : ∀ g, (Value.slice p2 L1 c2).ownBlock = some g → w.heap.size ≤ g ∧ g < w3.heap.size ∧ g ≠ kb := fun g hg => by
          have h1 := ownBlock_lt HO3.out hg
          have h2 := HKd.out
          omega
        have HP6 : Hid (Pr w6 b x n (q + 1) F Y) := (HP5.out.keep0 ks).keep k6 (fun z hz hf => by have h1 := (hOw z hz).1; have h2 := HFlt.out _ hf; omega) (fun z hz => hY1.out z (hOw z hz).1 (hOw z hz).2.1)
        have HK6 : Hid (Kp F w w6) := ((HKF.out.trans HK35.out (fun _ _ e => e)).trans ks (fun _ _ e => e.elim)).trans k6 (fun z hz e => by have h1 := (hOw z e).1; omega)
        have gk1 : w6.cell? ⟨kb, 1, none⟩ = some (.int .i64 i) := k6.cellv (ks.cellv (HSc.out w5 HK35.out).1 id) (fun e => (hOw _ e).2.2 rfl)
        clear HSp hws ks rs k6 hOw HP5 HK35
        have HRd : Hid (Calls _ _ _ w6 _) := read_pair HP6.out i
        clear f0 f1 f2 f3 f4 f5
        have g1 := gk1
        go_wp2_with fail
        refine HRd.out.mono ?_
        rintro e wy ⟨q1, l, d1, cy, rfl, ky, hCy⟩
        have HCy : Hid (Calls _ _ _ _ _) := hCy
        have g2 := ky.cellv g1 id
        clear HRd g1 hCy
        go_wp2_with fail
        refine HCy.out.mono ?_
        rintro e wz ⟨q2, d2, ys, rfl, kz, r1, r2⟩
        have HEq : Hid (Calls _ _ _ wz _) := equal_same q1 q2 l l d1 d2 ys wz r1 r2
        have HPz : Hid (Pr wz b x n (q + 1) F N0) := ((HP6.out.keep0 ky).keep0 kz).fresh (fun _ e => e.elim)
        have HSm : Hid (Calls _ _ _ wz _) := same_pair HPz.out
        have HKz : Hid (Kp F w wz) := (HK6.out.trans ky (fun _ _ e => e.elim)).trans kz (fun _ _ e => e.elim)
        clear HCy g2 r1 r2 ky kz
        go_wp2_with (first
          | (go_at_call 31; refine HEq.out.mono ?_; rintro e w' ⟨rfl, hw⟩; obtain rfl := hw.symm)
          | (go_at_call 15; refine HSm.out.mono ?_; rintro e wl ⟨rfl, kl⟩))
        go_ret
        exact ⟨rfl, HKz.out.trans kl (fun _ _ e => e.elim), HPz.out.keep0 kl⟩
    · have HSy : Hid (Calls _ _ _ w3 _) := sync_pair HP3.out HYl.out
      go_wp2_with fail
      refine HSy.out.mono ?_
      rintro e w4 ⟨c4, rfl, k4, hC4⟩
      have HC4 : Hid (Calls _ _ _ _ _) := hC4
      clear hC4 HSy
      go_wp2_with fail
      refine HC4.out.mono ?_
      rintro e w5 ⟨rfl, k5, hP5⟩
      have k35 := HTf.out _ _ k4 k5
      have HP5 : Hid (Pr w5 b x n (q + 1) F Y) := hP5.mono (Nat.le_succ _)
      have HK5 : Hid (Kp F w w5) := HKF.out.trans k35 (fun _ _ e => e)
      have gk1 := (HSc.out w5 k35).1
      clear hP5 HC4 k4 k5 k35
      have HRd : Hid (Calls _ _ _ w5 _) := read_pair HP5.out i
      clear f0 f1 f2 f3 f4 f5
      have g1 := gk1
      go_wp2_with fail
      refine HRd.out.mono ?_
      rintro e wy ⟨q1, l, d1, cy, rfl, ky, hCy⟩
      have HCy : Hid (Calls _ _ _ _ _) := hCy
      have g2 := ky.cellv g1 id
      clear HRd g1 hCy
      go_wp2_with fail
      refine HCy.out.mono ?_
      rintro e wz ⟨q2, d2, ys, rfl, kz, r1, r2⟩
      have HEq : Hid (Calls _ _ _ wz _) := equal_same q1 q2 l l d1 d2 ys wz r1 r2
      have HPz : Hid (Pr wz b x n (q + 1) F N0) := ((HP5.out.keep0 ky).keep0 kz).fresh (fun _ e => e.elim)
      have HSm : Hid (Calls _ _ _ wz _) := same_pair HPz.out
      have HKz : Hid (Kp F w wz) := (HK5.out.trans ky (fun _ _ e => e.elim)).trans kz (fun _ _ e => e.elim)
      clear HCy g2 r1 r2 ky kz
      go_wp2_with (first
        | (go_at_call 31; refine HEq.out.mono ?_; rintro e w' ⟨rfl, hw⟩; obtain rfl := hw.symm)
        | (go_at_call 15; refine HSm.out.mono ?_; rintro e wl ⟨rfl, kl⟩))
      go_ret
      exact ⟨rfl, HKz.out.trans kl (fun _ _ e => e.elim), HPz.out.keep0 kl⟩
    · go_wp2_with fail
      have kd3 : Kp F w3 w3.drew := (Kp.refl _ _).drew
      have HCr : Hid (Calls Try.prog 24 #[.pointer (some ⟨b, 0, none⟩), .slice p3 L2 c3, .int .i64 tn, .int .i64 nn] w3.drew fun e w1 => ∃ c : Int, e = .returned (.int .i64 c) ∧ Kp F w3.drew w1 ∧ Calls Try.prog 41 #[.pointer (some ⟨x, 0, none⟩), .slice pk L2 ck, .int .i64 tn, .int .i64 nn] w1 fun e' w2 => e' = .returned (.int .i64 c) ∧ Kp F w1 w2 ∧ Pr w2 b x n q F Y) := by
        rw [HL2.out]
        exact crash_pair (HP3.out.keep0 (Kp.refl _ _).drew) HYl.out p3 pk c3 ck zs tn nn (fun z k => HZk.out z (HTf.out _ _ kd3 k)) (fun z k => HRz3.out z (HTf.out _ _ kd3 k)) HZW.out HTW.out (by have := HZL.out; omega)
      have HSw : Hid (∀ z, Kp F w3 z → z.cell? ⟨kb, 2, none⟩ = some (.int .i64 tn) ∧ z.cell? ⟨kb, 3, none⟩ = some (.int .i64 nn) ∧ z.cell? ⟨kb, 5, none⟩ = some (.slice pk L2 ck)) := fun z k => ⟨(HSc.out z k).2.1, (HSc.out z k).2.2.1, (HSc.out z k).2.2.2.2⟩
      go_region_held3 (fun z => z.cell? ⟨kb, 2, none⟩ = some (.int .i64 tn) ∧ z.cell? ⟨kb, 3, none⟩ = some (.int .i64 nn) ∧ z.cell? ⟨kb, 5, none⟩ = some (.slice pk L2 ck))
        (first
          | exact HSw.out _ kd3
          | exact HSw.out _ k34
          | exact HSw.out _ k35)
        (first
          | (go_at_call 24; refine HCr.out.mono ?_; rintro e w4 ⟨c4, rfl, k4, hC4⟩; have HC4 : Hid (Calls _ _ _ _ _) := hC4; clear hC4; have k34 := HTf.out _ _ kd3 k4)
          | (go_at_call 41; refine HC4.out.mono ?_; rintro e w5 ⟨rfl, k5, hP5⟩; have k35 := HTf.out _ _ k34 k5))
      all_goals
        have HP5 : Hid (Pr w5 b x n (q + 1) F Y) := hP5.mono (Nat.le_succ _)
        have HK5 : Hid (Kp F w w5) := HKF.out.trans k35 (fun _ _ e => e)
        have gk1 := (HSc.out w5 k35).1
        clear hP5 HC4 HCr HSw k4 k5 k34 k35 kd3
        have HRd : Hid (Calls _ _ _ w5 _) := read_pair HP5.out i
        clear f0 f1 f2 f3 f4 f5
        have g1 := gk1
        go_wp2_with fail
        refine HRd.out.mono ?_
        rintro e wy ⟨q1, l, d1, cy, rfl, ky, hCy⟩
        have HCy : Hid (Calls _ _ _ _ _) := hCy
        have g2 := ky.cellv g1 id
        clear HRd g1 hCy
        go_wp2_with fail
        refine HCy.out.mono ?_
        rintro e wz ⟨q2, d2, ys, rfl, kz, r1, r2⟩
        have HEq : Hid (Calls _ _ _ wz _) := equal_same q1 q2 l l d1 d2 ys wz r1 r2
        have HPz : Hid (Pr wz b x n (q + 1) F N0) := ((HP5.out.keep0 ky).keep0 kz).fresh (fun _ e => e.elim)
        have HSm : Hid (Calls _ _ _ wz _) := same_pair HPz.out
        have HKz : Hid (Kp F w wz) := (HK5.out.trans ky (fun _ _ e => e.elim)).trans kz (fun _ _ e => e.elim)
        clear HCy g2 r1 r2 ky kz
        go_wp2_with (first
          | (go_at_call 31; refine HEq.out.mono ?_; rintro e w' ⟨rfl, hw⟩; obtain rfl := hw.symm)
          | (go_at_call 15; refine HSm.out.mono ?_; rintro e wl ⟨rfl, kl⟩))
        go_ret
        exact ⟨rfl, HKz.out.trans kl (fun _ _ e => e.elim), HPz.out.keep0 kl⟩
    · have HP5 : Hid (Pr w3 b x n (q + 1) F Y) := HP3.out.mono (Nat.le_succ _)
      have gk1 := (HSc.out w3 (Kp.refl _ _)).1
      have HRd : Hid (Calls _ _ _ w3 _) := read_pair HP5.out i
      clear f1 f2 f3 f4 f5
      have g1 := gk1
      go_wp2_with fail
      refine HRd.out.mono ?_
      rintro e wy ⟨q1, l, d1, cy, rfl, ky, hCy⟩
      have HCy : Hid (Calls _ _ _ _ _) := hCy
      have g2 := ky.cellv g1 id
      clear HRd g1 hCy
      go_wp2_with fail
      refine HCy.out.mono ?_
      rintro e wz ⟨q2, d2, ys, rfl, kz, r1, r2⟩
      have HEq : Hid (Calls _ _ _ wz _) := equal_same q1 q2 l l d1 d2 ys wz r1 r2
      have HPz : Hid (Pr wz b x n (q + 1) F N0) := ((HP5.out.keep0 ky).keep0 kz).fresh (fun _ e => e.elim)
      have HSm : Hid (Calls _ _ _ wz _) := same_pair HPz.out
      have HKz : Hid (Kp F w wz) := (HKF.out.trans ky (fun _ _ e => e.elim)).trans kz (fun _ _ e => e.elim)
      clear HCy g2 r1 r2 ky kz
      go_wp2_with (first
        | (go_at_call 31; refine HEq.out.mono ?_; rintro e w' ⟨rfl, hw⟩; obtain rfl := hw.symm)
        | (go_at_call 15; refine HSm.out.mono ?_; rintro e wl ⟨rfl, kl⟩))
      go_ret
      exact ⟨rfl, HKz.out.trans kl (fun _ _ e => e.elim), HPz.out.keep0 kl⟩
    · by_cases ht : tn = 7
      · subst ht
        have HFa : Hid (Calls _ _ _ w3 _) := fail_pair HP3.out HYl.out
        go_wp2_with fail
        refine HFa.out.mono ?_
        rintro e w4 ⟨c4, rfl, k4, hC4⟩
        have HC4 : Hid (Calls _ _ _ _ _) := hC4
        clear hC4 HFa
        go_wp2_with fail
        refine HC4.out.mono ?_
        rintro e w5 ⟨rfl, k5, hP5⟩
        have k35 := HTf.out _ _ k4 k5
        have HP5 : Hid (Pr w5 b x n (q + 1) F Y) := hP5.mono (Nat.le_succ _)
        have HK5 : Hid (Kp F w w5) := HKF.out.trans k35 (fun _ _ e => e)
        have gk1 := (HSc.out w5 k35).1
        clear hP5 HC4 k4 k5 k35
        have HRd : Hid (Calls _ _ _ w5 _) := read_pair HP5.out i
        clear f0 f1 f2 f3 f4 f5
        have g1 := gk1
        go_wp2_with fail
        refine HRd.out.mono ?_
        rintro e wy ⟨q1, l, d1, cy, rfl, ky, hCy⟩
        have HCy : Hid (Calls _ _ _ _ _) := hCy
        have g2 := ky.cellv g1 id
        clear HRd g1 hCy
        go_wp2_with fail
        refine HCy.out.mono ?_
        rintro e wz ⟨q2, d2, ys, rfl, kz, r1, r2⟩
        have HEq : Hid (Calls _ _ _ wz _) := equal_same q1 q2 l l d1 d2 ys wz r1 r2
        have HPz : Hid (Pr wz b x n (q + 1) F N0) := ((HP5.out.keep0 ky).keep0 kz).fresh (fun _ e => e.elim)
        have HSm : Hid (Calls _ _ _ wz _) := same_pair HPz.out
        have HKz : Hid (Kp F w wz) := (HK5.out.trans ky (fun _ _ e => e.elim)).trans kz (fun _ _ e => e.elim)
        clear HCy g2 r1 r2 ky kz
        go_wp2_with (first
          | (go_at_call 31; refine HEq.out.mono ?_; rintro e w' ⟨rfl, hw⟩; obtain rfl := hw.symm)
          | (go_at_call 15; refine HSm.out.mono ?_; rintro e wl ⟨rfl, kl⟩))
        go_ret
        exact ⟨rfl, HKz.out.trans kl (fun _ _ e => e.elim), HPz.out.keep0 kl⟩
      · have HP5 : Hid (Pr w3 b x n (q + 1) F Y) := HP3.out.mono (Nat.le_succ _)
        have gk1 := (HSc.out w3 (Kp.refl _ _)).1
        have HRd : Hid (Calls _ _ _ w3 _) := read_pair HP5.out i
        clear f1 f3 f4 f5
        have g1 := gk1
        go_wp2_with fail
        refine HRd.out.mono ?_
        rintro e wy ⟨q1, l, d1, cy, rfl, ky, hCy⟩
        have HCy : Hid (Calls _ _ _ _ _) := hCy
        have g2 := ky.cellv g1 id
        clear HRd g1 hCy
        go_wp2_with fail
        refine HCy.out.mono ?_
        rintro e wz ⟨q2, d2, ys, rfl, kz, r1, r2⟩
        have HEq : Hid (Calls _ _ _ wz _) := equal_same q1 q2 l l d1 d2 ys wz r1 r2
        have HPz : Hid (Pr wz b x n (q + 1) F N0) := ((HP5.out.keep0 ky).keep0 kz).fresh (fun _ e => e.elim)
        have HSm : Hid (Calls _ _ _ wz _) := same_pair HPz.out
        have HKz : Hid (Kp F w wz) := (HKF.out.trans ky (fun _ _ e => e.elim)).trans kz (fun _ _ e => e.elim)
        clear HCy g2 r1 r2 ky kz
        go_wp2_with (first
          | (go_at_call 31; refine HEq.out.mono ?_; rintro e w' ⟨rfl, hw⟩; obtain rfl := hw.symm)
          | (go_at_call 15; refine HSm.out.mono ?_; rintro e wl ⟨rfl, kl⟩))
        go_ret
        exact ⟨rfl, HKz.out.trans kl (fun _ _ e => e.elim), HPz.out.keep0 kl⟩
end Go.Proofs.Ytfaaikblkakiaaa
