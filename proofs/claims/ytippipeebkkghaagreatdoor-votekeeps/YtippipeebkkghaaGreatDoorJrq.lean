/- A shelf: write, where the log is written anew first. -/
import Derived.Test.YtippipeebkkghaaGreatDoorJrp
namespace Go.Proofs.YtippipeebkkghaaGreatDoor
set_option linter.unusedVariables false
set_option linter.unusedSimpArgs false
open Go.RowKit Go.Deep Go.Maps

theorem Ths.len2 {w : World} {Z : Nat → Prop} {sh mp g : Nat} {h : List Rc} (x : Sk w Z sh mp g h) {ss : List K3} (hs : Ths h ss) : ss.length ≤ h.length := by
  have h1 := len_sub ss (h.map subS) hs.1 (fun y hy => by
    obtain ⟨_, o, ho⟩ := (hs.2 y).1 hy
    rw [(stS_sub h y o ho).1]
    exact List.mem_map_of_mem ((stS_bd x.g x.n).2.2 y o ho))
  rwa [List.length_map] at h1

set_option maxRecDepth 100000 in
set_option maxHeartbeats 3200000 in
theorem swrite_ck {w : World} {Z : Nat → Prop} {sh mp g bp d m gf s q a b c e lt y : Nat} {h : List Rc} {dur : List Nat} {T : Nat → Option (List Nat)} (hl : Lg w g bp d m gf s q a b c e lt y (h.map wrS) dur T) (x : Sk w Z sh mp g h) (r : Rc) (p : Option Addr) (cp : Nat)
    (hr : Rb w p r.b.length r.b) (hg : GoodR r) (hn : h.length + 1 ≤ 1000) (hz : ∀ a, p = some a → Z a.block) (hZb : ∀ b, Z b → b < w.heap.size) (hd : sh ≠ mp ∧ ¬ Z sh ∧ ¬ Z mp) (hq : ∀ b, (b = d ∨ b = m ∨ b = g ∨ b = gf) → ¬ Z b ∧ b ≠ sh ∧ b ≠ mp) (hq2 : bp ≠ sh ∧ bp ≠ mp)
    (hroom : (totW (h.map wrS) : Int) + (stS h).2 ≤ (s : Int)) (hroom2 : (secS r : Int) + behS (stS h).1 (stS h).2 r + (stS h).2 ≤ (s : Int)) (hfit : (stS h).2 + (secS r : Int) ≤ (s : Int)) (hno : (s : Int) < (secS r : Int) + behS (stS h).1 (stS h).2 r + (totW (h.map wrS) : Int)) (htu : Turns w) (ha : a < 1152921504606846976) (hlt : lt + 1 + s < 1152921504606846976) :
    Calls Tryz.prog 50 #[.pointer (some ⟨sh, 0, none⟩), rcV r p cp] w fun e9 w' => e9 = .returned (.int .i64 0) ∧ Kp (fun x => x = d ∨ x = m ∨ x = g ∨ x = gf ∨ x = sh ∨ x = mp) w w' ∧ ∃ ss gf' q' dur' T', Ths h ss ∧ w.heap.size ≤ gf' ∧ Sk w' Z sh mp g (ckL h ss ++ [r]) ∧ Lg w' g bp d m gf' s q' (a + 1) b ((c + totW (h.map wrS)) % s) (lt + 1) (lt + (ckL h ss).length + 1) (ckL h ss).length ((ckL h ss ++ [r]).map wrS) dur' T' := by
  obtain ⟨u1, u2, u3, u4, u5⟩ := hl.bounds
  have hbd := stS_bd x.g x.n
  have hsr := secS_le hg
  obtain ⟨t, ht⟩ : ∃ t, t = behS (stS h).1 (stS h).2 r := ⟨_, rfl⟩
  rw [← ht] at hroom2 hno
  obtain ⟨W, hW⟩ : ∃ W, W = (secS r : Int) + t := ⟨_, rfl⟩
  obtain ⟨k, hk⟩ : ∃ k, k = s - totW (h.map wrS) := ⟨_, rfl⟩
  have hWk : (k : Int) < W := by omega
  have htlo : -60000 ≤ t ∧ t ≤ 60000 := by
    have h1 : (0 : Int) ≤ (secS r : Int) := Int.natCast_nonneg _
    rw [ht]
    unfold behS
    cases hM : (stS h).1 (subS r) with
    | none => dsimp only; split <;> omega
    | some o =>
      have h2 := (secS_le (x.g o (hbd.2.2 _ _ hM))).2
      dsimp only
      split <;> omega
  have HW : Hid (IntKind.i64.wrap ((secS r : Int) + t) = W) := by
    have h3 : -100000 ≤ W ∧ W ≤ 100000 := by omega
    refine wrapI ?_
    rw [← hW]
    clear hroom hroom2 hno hfit hsr hbd u1 u2 u3 u4 u5 ht hk hWk htlo hW hlt ha
    unfold wrap64
    omega
  obtain ⟨r0, hr0⟩ : ∃ r0, r0 = w.heap.size := ⟨_, rfl⟩
  obtain ⟨w0, hw0⟩ : ∃ y, y = w.alloc (.cells #[.int .i64 (r.k : Int), .int .i64 (r.n : Int), .int .i64 (r.i : Int), .int .i64 (r.e : Int), .slice p r.b.length cp] 122) := ⟨_, rfl⟩
  have HK0 : Hid (Kp (fun _ => False) w w0) := by rw [hw0]; exact (Kp.refl _ _).alloc _
  have HL0 : Hid (Lv w0 r0 [.int .i64 (r.k : Int), .int .i64 (r.n : Int), .int .i64 (r.i : Int), .int .i64 (r.e : Int), .slice p r.b.length cp]) := by rw [hw0, hr0]; exact Lv.new _ _ _
  have HLg : Hid (Lg w0 g bp d m gf s q a b c e lt y (h.map wrS) dur T) := hl.keep0 HK0.out
  have HSk : Hid (Sk w0 Z sh mp g h) := x.keep HK0.out (fun e => e) (fun e => e) (fun _ _ e => e)
  have HB0 : Hid (Rb w0 p r.b.length r.b) := hr.keep0 HK0.out
  have HTu : Hid (Turns w0) := htu.keep0 HK0.out
  have HQ4 : Hid (∀ b, (b = d ∨ b = m ∨ b = g ∨ b = gf) → ¬ Z b ∧ b ≠ sh ∧ b ≠ mp) := hq
  have HQb : Hid ((bp ≠ sh ∧ bp ≠ mp) ∧ (∀ b, Z b → b < w.heap.size) ∧ sh < w.heap.size ∧ mp < w.heap.size) := by
    have h2 : mp < w.heap.size := by obtain ⟨c9, T9, _, h2, _⟩ := x.m; exact h2.lt
    exact ⟨hq2, hZb, x.l.lt (by simp), h2⟩
  have HD : Hid (sh ≠ mp ∧ ¬ Z sh ∧ ¬ Z mp) := hd
  have HG0 : Hid (GoodR r ∧ h.length + 1 ≤ 1000 ∧ ∀ a, p = some a → Z a.block) := ⟨hg, hn, hz⟩
  have HRs : Hid (r0 ≠ sh ∧ r0 ≠ mp ∧ r0 < w0.heap.size) := by
    have h1 := HQb.out.2.2
    exact ⟨by omega, by omega, HL0.out.lt (by simp)⟩
  have HR4 : Hid (¬ (r0 = d ∨ r0 = m ∨ r0 = g ∨ r0 = gf)) := by
    have h3 := hl.blk
    show ¬ _
    omega
  have HT4 : Hid (¬ ((0 : Nat) = d ∨ (0 : Nat) = m ∨ (0 : Nat) = g ∨ (0 : Nat) = gf)) := fun e => by
    rcases e with e | e | e | e
    · exact hl.lp.td e
    · exact hl.lp.tm e
    · exact hl.lp.tg e
    · exact hl.lp.tf e
  have HSe : Hid (∀ u, Kp (fun _ => False) w0 u → Calls Tryz.prog 81 #[.agg #[.int .i64 (r.k : Int), .int .i64 (r.n : Int), .int .i64 (r.i : Int), .int .i64 (r.e : Int), .slice p r.b.length cp]] u fun e w' => e = .returned (.int .i64 (secS r : Int)) ∧ Kp (fun _ => False) u w') := fun u ku => recsec_ok r p cp u (HB0.out.keep0 ku) hg
  have HBe : Hid (∀ u, Kp (fun _ => False) w0 u → Calls Tryz.prog 82 #[.pointer (some ⟨sh, 1, none⟩), .agg #[.int .i64 (r.k : Int), .int .i64 (r.n : Int), .int .i64 (r.i : Int), .int .i64 (r.e : Int), .slice p r.b.length cp]] u fun e w' => e = .returned (.int .i64 t) ∧ Kp (fun _ => False) u w') := fun u ku => by rw [ht]; exact behind_ok (HSk.out.keep ku (fun e => e) (fun e => e) (fun _ _ e => e)) r p cp (HB0.out.keep0 ku) hg
  have HS1 : Hid (∀ z, Kp (fun _ => False) w0 z → Kp (fun _ => False) w0 z ∧ z.cell? ⟨r0, 0, none⟩ = some (.int .i64 (r.k : Int)) ∧ z.cell? ⟨r0, 1, none⟩ = some (.int .i64 (r.n : Int)) ∧ z.cell? ⟨r0, 2, none⟩ = some (.int .i64 (r.i : Int)) ∧ z.cell? ⟨r0, 3, none⟩ = some (.int .i64 (r.e : Int)) ∧ z.cell? ⟨r0, 4, none⟩ = some (.slice p r.b.length cp)) := fun z kz => ⟨kz, kz.cellv (HL0.out.cell (j := 0) rfl) id, kz.cellv (HL0.out.cell (j := 1) rfl) id, kz.cellv (HL0.out.cell (j := 2) rfl) id, kz.cellv (HL0.out.cell (j := 3) rfl) id, kz.cellv (HL0.out.cell (j := 4) rfl) id⟩
  have HTr : Hid (∀ u u' : World, Kp (fun _ => False) w0 u → Kp (fun _ => False) u u' → Kp (fun _ => False) w0 u') := fun u u' h1 h2 => h1.trans h2 (fun _ _ e => e)
  have HKk : Hid (k = s - totW (h.map wrS)) := hk
  have HAr : Hid ((totW (h.map wrS) : Int) + (stS h).2 ≤ (s : Int) ∧ W + (stS h).2 ≤ (s : Int) ∧ (stS h).2 + (secS r : Int) ≤ (s : Int) ∧ a < 1152921504606846976 ∧ lt + 1 + s < 1152921504606846976) := ⟨hroom, by rw [hW]; exact hroom2, hfit, ha, hlt⟩
  show Calls Tryz.prog 50 #[.pointer (some ⟨sh, 0, none⟩), .agg #[.int .i64 (r.k : Int), .int .i64 (r.n : Int), .int .i64 (r.i : Int), .int .i64 (r.e : Int), .slice p r.b.length cp]] w _
  clear hl x hr hg hn hz hZb hd hq hq2 hroom hroom2 hno hfit htu ha hlt u1 u2 u3 u4 u5 hbd hsr ht hW hk htlo
  go_enter Tryz.func50, Tryz.ntmps50
  go_upto_region 1 with fail
  rw [← hw0, ← hr0]
  clear hw0 hr0
  go_cut [5] (fun v wz => v = .int .i64 W ∧ Hid (Kp (fun _ => False) w0 wz))
  case first =>
    have kd : Kp (fun _ => False) w0 w0.drew := (Kp.refl _ _).drew
    have hw1 := HW.out
    go_region_held3 (fun z => Kp (fun _ => False) w0 z ∧ z.cell? ⟨r0, 0, none⟩ = some (.int .i64 (r.k : Int)) ∧ z.cell? ⟨r0, 1, none⟩ = some (.int .i64 (r.n : Int)) ∧ z.cell? ⟨r0, 2, none⟩ = some (.int .i64 (r.i : Int)) ∧ z.cell? ⟨r0, 3, none⟩ = some (.int .i64 (r.e : Int)) ∧ z.cell? ⟨r0, 4, none⟩ = some (.slice p r.b.length cp))
      (first
        | exact HS1.out _ kd
        | exact HS1.out _ kw2
        | exact HS1.out _ kw1)
      (first
        | (go_at_call 81; first | (refine (HSe.out _ kw1).mono ?_; rintro e9 w2 ⟨rfl, k2⟩; have kw2 := HTr.out _ _ kw1 k2) | (refine (HSe.out _ kd).mono ?_; rintro e9 w1 ⟨rfl, k1⟩; have kw1 := HTr.out _ _ kd k1))
        | (go_at_call 82; first | (refine (HBe.out _ kw1).mono ?_; rintro e9 w2 ⟨rfl, k2⟩; have kw2 := HTr.out _ _ kw1 k2) | (refine (HBe.out _ kd).mono ?_; rintro e9 w1 ⟨rfl, k1⟩; have kw1 := HTr.out _ _ kd k1)))
    all_goals
      go_simp
      go_wp2_with fail
      go_meet
      first
        | exact ⟨by first | rfl | rw [hw1], kw2⟩
        | trace_state
  case rest =>
    obtain ⟨rfl, HKd⟩ := hcut
    clear HS1 HTr HSe HBe HW
    have HLd : Hid (Lg wc g bp d m gf s q a b c e lt y (h.map wrS) dur T) := HLg.out.keep0 HKd.out
    have HSd : Hid (Sk wc Z sh mp g h) := HSk.out.keep HKd.out (fun e => e) (fun e => e) (fun _ _ e => e)
    have HTd : Hid (Turns wc) := HTu.out.keep0 HKd.out
    have HRm : Hid (Calls Tryz.prog 83 #[.pointer (some ⟨g, 0, none⟩)] wc fun e9 w' => e9 = .returned (.int .i64 (k : Int)) ∧ w' = wc) := by rw [HKk.out]; exact room_ok HLd.out.wl
    have s0 : wc.cell? ⟨sh, 0, none⟩ = some (.pointer (some ⟨g, 0, none⟩)) := HSd.out.l.cell (j := 0) rfl
    clear HLg HSk
    go_wp2_with fail
    refine HRm.out.mono ?_
    rintro e9 w9 ⟨rfl, hw9⟩
    have hw8 := hw9.symm
    subst hw8
    clear hw9 HRm
    go_upto_region 3 with fail
    obtain ⟨wd, hwd⟩ : ∃ z, z = wc := ⟨_, rfl⟩
    rw [← hwd] at HKd HLd HSd HTd s0 ⊢
    clear hwd
    have HWn : Hid (∀ u, Kp (fun _ => False) wd u → Calls Tryz.prog 85 #[.pointer (some ⟨sh, 1, none⟩)] u fun e w' => ∃ v ss, e = .returned v ∧ Kp (fun _ => False) u w' ∧ Rw w' u.heap.size v ((ckL h ss).map wrS) ∧ Ths h ss ∧ ss.length ≤ 1000) := fun u ku => swritten_ok (HSd.out.keep ku (fun e => e) (fun e => e) (fun _ _ e => e))
    have HCk : Hid (∀ (u0 u : World) (v : Value) (ss : List K3), Kp (fun _ => False) wd u0 → Kp (fun _ => False) u0 u → Rw u u0.heap.size v ((ckL h ss).map wrS) → Ths h ss → Calls Tryz.prog 84 #[.pointer (some ⟨g, 0, none⟩), v] u fun e9 w' => e9 = .returned (.int .i64 0) ∧ Kp (fun x => x = d ∨ x = m ∨ x = g ∨ x = gf) wd w' ∧ Ckd wd w' g bp d m gf s a b c e lt h) := fun u0 u v ss k0 k1 hr hs => by
      refine (sck_ok (HLd.out.keep0 k0) (HSd.out.keep k0 (fun e => e) (fun e => e) (fun _ _ e => e)) (HTd.out.keep0 k0) k1 hr hs HAr.out.1 HAr.out.2.2.2.1 HAr.out.2.2.2.2).mono ?_
      rintro e9 w' ⟨rfl, kk, ss', gf', dur', a1, a2, a3⟩
      have kk2 : Kp (fun x => x = d ∨ x = m ∨ x = g ∨ x = gf) wd w' := (k0.mono (fun _ _ e => e.elim)).trans kk (fun _ _ e => e)
      exact ⟨rfl, kk2, kk2, ss', gf', dur', a1, Nat.le_trans k0.size a2, a3⟩
    have HS3 : Hid (∀ z, Kp (fun x => x = d ∨ x = m ∨ x = g ∨ x = gf) wd z → Kp (fun x => x = d ∨ x = m ∨ x = g ∨ x = gf) wd z ∧ z.cell? ⟨sh, 0, none⟩ = some (.pointer (some ⟨g, 0, none⟩))) := fun z kz => ⟨kz, kz.cellv (HSd.out.l.cell (j := 0) rfl) (fun e => (HQ4.out sh e).2.1 rfl)⟩
    have HM3 : Hid (∀ z, Kp (fun _ => False) wd z → Kp (fun x => x = d ∨ x = m ∨ x = g ∨ x = gf) wd z) := fun z kz => kz.mono (fun _ _ e => e.elim)
    have HT3 : Hid (∀ u u' : World, Kp (fun _ => False) wd u → Kp (fun _ => False) u u' → Kp (fun _ => False) wd u') := fun u u' h1 h2 => h1.trans h2 (fun _ _ e => e)
    clear s0
    go_cut [6] (fun v wz => v = .int .i64 0 ∧ Hid (Ckd wd wz g bp d m gf s a b c e lt h))
    case first =>
      have kd : Kp (fun _ => False) wd wd.drew := (Kp.refl _ _).drew
      go_region_held3 (fun z => Kp (fun x => x = d ∨ x = m ∨ x = g ∨ x = gf) wd z ∧ z.cell? ⟨sh, 0, none⟩ = some (.pointer (some ⟨g, 0, none⟩)))
        (first
          | exact HS3.out _ (HM3.out _ kd)
          | exact HS3.out _ (HM3.out _ kw1)
          | exact HS3.out _ kw3)
        (first
          | (go_at_call 85; refine (HWn.out _ kd).mono ?_; rintro e9 w1 ⟨v1, ss1, rfl, k1, rw1, th1, ln1⟩; have kw1 := HT3.out _ _ kd k1)
          | (go_at_call 84; refine (HCk.out _ _ _ ss1 kd k1 rw1 th1).mono ?_; rintro e9 w3 ⟨rfl, kw3, ck3⟩))
      all_goals
        go_simp
        go_wp2_with fail
        go_meet
        first
          | exact ⟨rfl, ck3⟩
          | trace_state
    case rest =>
      obtain ⟨rfl, HCd⟩ := hcut
      obtain ⟨HKe, ss, gf9, dur9, hth, hgf, hlg⟩ := HCd.out
      obtain ⟨h9, hh9⟩ : ∃ z, z = ckL h ss := ⟨_, rfl⟩
      rw [← hh9] at hlg
      obtain ⟨a9, ha9⟩ : ∃ z, z = a + 1 := ⟨_, rfl⟩
      obtain ⟨cc9, hcc9⟩ : ∃ z, z = (c + totW (h.map wrS)) % s := ⟨_, rfl⟩
      obtain ⟨ee9, hee9⟩ : ∃ z, z = lt + 1 := ⟨_, rfl⟩
      obtain ⟨lt0, hlt0⟩ : ∃ z, z = lt + h9.length := ⟨_, rfl⟩
      obtain ⟨lt1, hlt1⟩ : ∃ z, z = lt0 + 1 := ⟨_, rfl⟩
      obtain ⟨yy9, hyy9⟩ : ∃ z, z = h9.length := ⟨_, rfl⟩
      rw [← ha9, ← hcc9, ← hee9, ← hlt0, ← hyy9] at hlg
      have HLc : Hid (Lg wc g bp d m gf9 s 0 a9 b cc9 ee9 lt0 yy9 (h9.map wrS) dur9 (fun _ => none)) := hlg
      have HLt1 : Hid (lt1 = lt0 + 1) := hlt1
      have HKc : Hid (Kp (fun x => x = d ∨ x = m ∨ x = g ∨ x = gf) w0 wc) := (HKd.out.mono (fun _ _ e => e.elim)).trans HKe (fun _ _ e => e)
      have HSc : Hid (Sk wc Z sh mp g h9) := by
        have h1 := (HSd.out.anew hth).keep HKe (fun e => (HQ4.out sh e).2.1 rfl) (fun e => (HQ4.out mp e).2.2 rfl) (fun b hb e => (HQ4.out b e).1 hb)
        rw [← hh9] at h1
        exact h1
      have HGf : Hid (w.heap.size ≤ gf9 ∧ w0.heap.size ≤ gf9) := ⟨Nat.le_trans HK0.out.size (Nat.le_trans HKd.out.size hgf), Nat.le_trans HKd.out.size hgf⟩
      have HG : Hid (GoodR r ∧ h9.length + 1 ≤ 1000 ∧ ∀ a, p = some a → Z a.block) := by
        have h1 : h9.length = ss.length := by rw [hh9, ← List.length_map (f := subS), (ckL_dst hth).2, srt3_len]
        have h2 := hth.len2 HSd.out
        exact ⟨HG0.out.1, by have := HG0.out.2.1; omega, HG0.out.2.2⟩
      have HQ : Hid ((∀ b, (b = m ∨ b = g ∨ b = gf9) → ¬ Z b ∧ b ≠ sh ∧ b ≠ mp) ∧ bp ≠ sh ∧ bp ≠ mp ∧ d ≠ sh ∧ d ≠ mp) := by
        have h1 := HQb.out
        refine ⟨fun b hb => ?_, h1.1.1, h1.1.2, (HQ4.out d (Or.inl rfl)).2⟩
        rcases hb with e | e | e
        · exact HQ4.out b (Or.inr (Or.inl e))
        · exact HQ4.out b (Or.inr (Or.inr (Or.inl e)))
        · have h2 := HGf.out.1
          exact ⟨fun hz => by have := h1.2.1 b hz; omega, by omega, by omega⟩
      have HR : Hid (r0 ≠ sh ∧ r0 ≠ mp ∧ ¬ (r0 = m ∨ r0 = g ∨ r0 = gf9)) := by
        have h1 := HRs.out
        have h2 := HGf.out.2
        have h3 := HR4.out
        exact ⟨h1.1, h1.2.1, by omega⟩
      have htt : (totW (h9.map wrS) : Int) = (stS h).2 := by rw [hh9]; exact ckL_tot HSd.out hth
      have HFt : Hid (totW (h9.map wrS) + secS r ≤ s) := by have := HAr.out; show _ ≤ _; omega
      obtain ⟨k9, hk9⟩ : ∃ z, z = s - totW (h9.map wrS) := ⟨_, rfl⟩
      have HRm2 : Hid (Calls Tryz.prog 83 #[.pointer (some ⟨g, 0, none⟩)] wc fun e9 w' => e9 = .returned (.int .i64 (k9 : Int)) ∧ w' = wc) := by rw [hk9]; exact room_ok HLc.out.wl
      have hlt : ¬ ((k9 : Int) < W) := by have := HAr.out; have := HFt.out; omega
      have s0 : wc.cell? ⟨sh, 0, none⟩ = some (.pointer (some ⟨g, 0, none⟩)) := HSc.out.l.cell (j := 0) rfl
      have HEnd : Hid (Ths h ss ∧ h9 = ckL h ss ∧ a9 = a + 1 ∧ cc9 = (c + totW (h.map wrS)) % s ∧ ee9 = lt + 1 ∧ lt1 = lt + h9.length + 1 ∧ yy9 = h9.length) := ⟨hth, hh9, ha9, hcc9, hee9, by omega, hyy9⟩
      clear HWn HCk HS3 HM3 HT3 HCd HKe hth hgf hlg hh9 ha9 hcc9 hee9 hlt0 hlt1 hyy9 htt hk9 hWk HSd HLd HTd HQb HRs HG0
      go_wp2_with fail
      refine HRm2.out.mono ?_
      rintro e9 w9 ⟨rfl, hw9⟩
      have hw8 := hw9.symm
      subst hw8
      clear hw9 HRm2
      go_upto_region 8 with fail
      have HLr : Hid (Lv wc r0 [.int .i64 (r.k : Int), .int .i64 (r.n : Int), .int .i64 (r.i : Int), .int .i64 (r.e : Int), .slice p r.b.length cp]) := HL0.out.keep HKc.out HR4.out
      have HBc : Hid (Rb wc p r.b.length r.b) := HB0.out.keep HKc.out (fun a ha _ e => (HQ4.out _ e).1 (HG.out.2.2 a ha))
      have HTc : Hid (Turns wc) := HTu.out.keep HKc.out HT4.out
      have HWr : Hid (∀ u, Kp (fun _ => False) wc u → Calls Tryz.prog 87 #[.agg #[.int .i64 (r.k : Int), .int .i64 (r.n : Int), .int .i64 (r.i : Int), .int .i64 (r.e : Int), .slice p r.b.length cp]] u fun e w' => ∃ v, e = .returned v ∧ Kp (fun _ => False) u w' ∧ Ow w' u.heap.size v (wrS r)) := fun u ku => written_ok r p cp u (HBc.out.keep0 ku) HG.out.1
      have HAp : Hid (∀ (u0 u : World) (v : Value), Kp (fun _ => False) wc u0 → Kp (fun _ => False) u0 u → Ow u u0.heap.size v (wrS r) → Calls Tryz.prog 86 #[.pointer (some ⟨g, 0, none⟩), v] u fun e9 w' => e9 = .returned (.tuple #[.int .i64 (lt1 : Int), .int .i64 0]) ∧ Kp (fun x => x = m ∨ x = g ∨ x = gf9) wc w' ∧ ∃ q' T', Lg w' g bp d m gf9 s q' a9 b cc9 ee9 lt1 yy9 (h9.map wrS ++ [wrS r]) dur9 T') := fun u0 u v k0 k1 ov => by
        rw [HLt1.out]
        obtain ⟨q9, c9, rfl, hc9, hr9, hb9⟩ := ov.rb (wrS_b HG.out.1)
        have hln := wrS_len HG.out.1
        have ku : Kp (fun _ => False) wc u := k0.trans k1 (fun _ _ e => e)
        have hbk := HLc.out.blk
        have hsz := k0.size
        refine (lg_append (HLc.out.keep0 ku) q9 (wrS r).length c9 (wrS r) hr9 hc9 (fun z hz _ => ?_) (HTc.out.keep0 ku)).mono ?_
        · have := (hb9 z hz).1
          omega
        · rintro e9 w' (⟨hx, _, _⟩ | ⟨_, hx, _, _⟩ | ⟨_, _, rfl, kk, q', T', l', _⟩)
          · omega
          · have := HFt.out
            have e9 : secS r = needW (wrS r) := rfl
            omega
          · exact ⟨rfl, (ku.mono (fun _ _ e => e.elim)).trans kk (fun _ _ e => e), q', T', l'⟩
      have HS8 : Hid (∀ z, Kp (fun x => x = m ∨ x = g ∨ x = gf9) wc z → Kp (fun x => x = m ∨ x = g ∨ x = gf9) wc z ∧ z.cell? ⟨sh, 0, none⟩ = some (.pointer (some ⟨g, 0, none⟩)) ∧ z.cell? ⟨r0, 0, none⟩ = some (.int .i64 (r.k : Int)) ∧ z.cell? ⟨r0, 1, none⟩ = some (.int .i64 (r.n : Int)) ∧ z.cell? ⟨r0, 2, none⟩ = some (.int .i64 (r.i : Int)) ∧ z.cell? ⟨r0, 3, none⟩ = some (.int .i64 (r.e : Int)) ∧ z.cell? ⟨r0, 4, none⟩ = some (.slice p r.b.length cp)) := fun z kz => ⟨kz, kz.cellv (HSc.out.l.cell (j := 0) rfl) (fun e => (HQ.out.1 sh e).2.1 rfl), kz.cellv (HLr.out.cell (j := 0) rfl) HR.out.2.2, kz.cellv (HLr.out.cell (j := 1) rfl) HR.out.2.2, kz.cellv (HLr.out.cell (j := 2) rfl) HR.out.2.2, kz.cellv (HLr.out.cell (j := 3) rfl) HR.out.2.2, kz.cellv (HLr.out.cell (j := 4) rfl) HR.out.2.2⟩
      have kd0 : Kp (fun _ => False) wc wc.drew := (Kp.refl _ _).drew
      have kd8 : Kp (fun x => x = m ∨ x = g ∨ x = gf9) wc wc.drew := (Kp.refl _ _).drew
      have HM8 : Hid (∀ z, Kp (fun _ => False) wc z → Kp (fun x => x = m ∨ x = g ∨ x = gf9) wc z) := fun z kz => kz.mono (fun _ _ e => e.elim)
      have HT8 : Hid (∀ u u' : World, Kp (fun _ => False) wc u → Kp (fun _ => False) u u' → Kp (fun _ => False) wc u') := fun u u' h1 h2 => h1.trans h2 (fun _ _ e => e)
      clear s0 hlt
      go_region_held3 (fun z => Kp (fun x => x = m ∨ x = g ∨ x = gf9) wc z ∧ z.cell? ⟨sh, 0, none⟩ = some (.pointer (some ⟨g, 0, none⟩)) ∧ z.cell? ⟨r0, 0, none⟩ = some (.int .i64 (r.k : Int)) ∧ z.cell? ⟨r0, 1, none⟩ = some (.int .i64 (r.n : Int)) ∧ z.cell? ⟨r0, 2, none⟩ = some (.int .i64 (r.i : Int)) ∧ z.cell? ⟨r0, 3, none⟩ = some (.int .i64 (r.e : Int)) ∧ z.cell? ⟨r0, 4, none⟩ = some (.slice p r.b.length cp))
        (first
          | exact HS8.out _ kd8
          | exact HS8.out _ (HM8.out _ kw1)
          | exact HS8.out _ kw8)
        (first
          | (go_at_call 87; refine (HWr.out _ kd0).mono ?_; rintro e9 w1 ⟨v1, rfl, k1, ov1⟩; have kw1 := HT8.out _ _ kd0 k1)
          | (go_at_call 86; refine (HAp.out _ _ _ kd0 k1 ov1).mono ?_; rintro e9 w8 ⟨rfl, kw8, lg8⟩))
      all_goals
        have HK8 : Hid (Kp (fun x => x = m ∨ x = g ∨ x = gf9) wc w8) := kw8
        have HL8 : Hid (∃ q' T', Lg w8 g bp d m gf9 s q' a9 b cc9 ee9 lt1 yy9 (h9.map wrS ++ [wrS r]) dur9 T') := lg8
        have HS8k : Hid (Sk w8 Z sh mp g h9) := HSc.out.keep kw8 (fun e => (HQ.out.1 sh e).2.1 rfl) (fun e => (HQ.out.1 mp e).2.2 rfl) (fun b hb e => (HQ.out.1 b e).1 hb)
        have HLr8 : Hid (Lv w8 r0 [.int .i64 (r.k : Int), .int .i64 (r.n : Int), .int .i64 (r.i : Int), .int .i64 (r.e : Int), .slice p r.b.length cp]) := HLr.out.keep kw8 HR.out.2.2
        have HB8 : Hid (Rb w8 p r.b.length r.b) := HBc.out.keep kw8 (fun a ha _ e => (HQ.out.1 _ e).1 (HG.out.2.2 a ha))
        clear HS8 HM8 HT8 HAp HWr kw8 lg8 kd0 kd8 kw1 k1 ov1
        have HTk : Hid (∀ u, Kp (fun _ => False) w8 u → Calls Tryz.prog 63 #[.pointer (some ⟨sh, 1, none⟩), .agg #[.int .i64 (r.k : Int), .int .i64 (r.n : Int), .int .i64 (r.i : Int), .int .i64 (r.e : Int), .slice p r.b.length cp]] u fun e w' => e = .returned (.tuple #[]) ∧ Kp (fun b => b = sh ∨ b = mp) w8 w' ∧ Sk w' Z sh mp g (h9 ++ [r])) := fun u ku => by
          refine (take_ok (HS8k.out.keep ku (fun e => e) (fun e => e) (fun _ _ e => e)) r p cp (HB8.out.keep0 ku) HG.out.1 HG.out.2.1 HG.out.2.2 HD.out).mono ?_
          rintro e9 w' ⟨rfl, kk, sk⟩
          exact ⟨rfl, (ku.mono (fun _ _ e => e.elim)).trans kk (fun _ _ e => e), sk⟩
        have HS11 : Hid (∀ z, Kp (fun b => b = sh ∨ b = mp) w8 z → Kp (fun b => b = sh ∨ b = mp) w8 z ∧ z.cell? ⟨r0, 0, none⟩ = some (.int .i64 (r.k : Int)) ∧ z.cell? ⟨r0, 1, none⟩ = some (.int .i64 (r.n : Int)) ∧ z.cell? ⟨r0, 2, none⟩ = some (.int .i64 (r.i : Int)) ∧ z.cell? ⟨r0, 3, none⟩ = some (.int .i64 (r.e : Int)) ∧ z.cell? ⟨r0, 4, none⟩ = some (.slice p r.b.length cp)) := fun z kz => ⟨kz, kz.cellv (HLr8.out.cell (j := 0) rfl) (fun e => e.elim HR.out.1 HR.out.2.1), kz.cellv (HLr8.out.cell (j := 1) rfl) (fun e => e.elim HR.out.1 HR.out.2.1), kz.cellv (HLr8.out.cell (j := 2) rfl) (fun e => e.elim HR.out.1 HR.out.2.1), kz.cellv (HLr8.out.cell (j := 3) rfl) (fun e => e.elim HR.out.1 HR.out.2.1), kz.cellv (HLr8.out.cell (j := 4) rfl) (fun e => e.elim HR.out.1 HR.out.2.1)⟩
        have kd1 : Kp (fun _ => False) w8 w8.drew := (Kp.refl _ _).drew
        have kd11 : Kp (fun b => b = sh ∨ b = mp) w8 w8.drew := (Kp.refl _ _).drew
        go_simp
        go_upto_region 11 with fail
        go_region_held3 (fun z => Kp (fun b => b = sh ∨ b = mp) w8 z ∧ z.cell? ⟨r0, 0, none⟩ = some (.int .i64 (r.k : Int)) ∧ z.cell? ⟨r0, 1, none⟩ = some (.int .i64 (r.n : Int)) ∧ z.cell? ⟨r0, 2, none⟩ = some (.int .i64 (r.i : Int)) ∧ z.cell? ⟨r0, 3, none⟩ = some (.int .i64 (r.e : Int)) ∧ z.cell? ⟨r0, 4, none⟩ = some (.slice p r.b.length cp))
          (first
            | exact HS11.out _ kd11
            | exact HS11.out _ kwT)
          (first
            | (go_at_call 63; refine (HTk.out _ kd1).mono ?_; rintro e9 wT ⟨rfl, kwT, skT⟩))
        obtain ⟨q', T', lgq⟩ := HL8.out
        have HF : Hid (Kp (fun x => x = d ∨ x = m ∨ x = g ∨ x = gf ∨ x = sh ∨ x = mp) w wT ∧ ∃ ss gf' q' dur' T', Ths h ss ∧ w.heap.size ≤ gf' ∧ Sk wT Z sh mp g (ckL h ss ++ [r]) ∧ Lg wT g bp d m gf' s q' (a + 1) b ((c + totW (h.map wrS)) % s) (lt + 1) (lt + (ckL h ss).length + 1) (ckL h ss).length ((ckL h ss ++ [r]).map wrS) dur' T') := by
          have h0 : Kp (fun x => x = d ∨ x = m ∨ x = g ∨ x = gf) w wc := (HK0.out.mono (fun _ _ e => e.elim)).trans HKc.out (fun _ _ e => e)
          have h1 : Kp (fun x => x = d ∨ x = m ∨ x = g ∨ x = gf ∨ x = sh ∨ x = mp) w w8 := (h0.mono (fun b _ e => by
            rcases e with e | e | e | e
            · exact Or.inl e
            · exact Or.inr (Or.inl e)
            · exact Or.inr (Or.inr (Or.inl e))
            · exact Or.inr (Or.inr (Or.inr (Or.inl e))))).trans HK8.out (fun b hb e => by
            rcases e with e | e | e
            · exact Or.inr (Or.inl e)
            · exact Or.inr (Or.inr (Or.inl e))
            · exact absurd hb (by have := HGf.out.1; omega))
          obtain ⟨z1, z2, z3, z4, z5, z6, z7⟩ := HEnd.out
          refine ⟨h1.trans kwT (fun b _ e => by
            rcases e with e | e
            · exact Or.inr (Or.inr (Or.inr (Or.inr (Or.inl e))))
            · exact Or.inr (Or.inr (Or.inr (Or.inr (Or.inr e))))), ss, gf9, q', dur9, T', z1, HGf.out.1, by rw [← z2]; exact skT, ?_⟩
          rw [← z2, ← z3, ← z4, ← z5, ← z6, ← z7, List.map_append]
          have hQ := HQ.out
          have hgg := (hQ.1 g (Or.inr (Or.inl rfl))).2
          have hmm := (hQ.1 m (Or.inl rfl)).2
          have hff := (hQ.1 gf9 (Or.inr (Or.inr rfl))).2
          exact lgq.keep kwT (fun e => e.elim hgg.1 hgg.2) (fun e => e.elim hQ.2.1 hQ.2.2.1) (fun e => e.elim hQ.2.2.2.1 hQ.2.2.2.2) (fun e => e.elim hmm.1 hmm.2) (fun e => e.elim hff.1 hff.2)
        clear HS11 HTk kd1 kd11 lgq kwT skT
        go_simp
        go_wp2_with fail
        go_ret
        exact ⟨rfl, HF.out⟩
end Go.Proofs.YtippipeebkkghaaGreatDoor
