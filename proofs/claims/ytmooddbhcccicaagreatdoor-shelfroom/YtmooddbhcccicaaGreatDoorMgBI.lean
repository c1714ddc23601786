/- Texts of this proof, joined: Jrq, Jrs, Jrt. -/
import Derived.Test.YtmooddbhcccicaaGreatDoorMgBH
/- A shelf: write, where the log is written anew first. -/
namespace Go.Proofs.YtmooddbhcccicaaGreatDoor
set_option linter.unusedVariables false
set_option linter.unusedSimpArgs false
open Go.RowKit Go.Deep Go.Maps

theorem Ths.len2 {w : World} {Z : Nat → Prop} {sh mp g : Nat} {h : List Rc} (x : Sk w Z sh mp g h) {ss : List K3} (hs : Ths h ss) : ss.length ≤ h.length := by
  have h1 := len_sub ss (h.map subS) hs.1 (fun y hy => by
    obtain ⟨_, o, ho⟩ := (hs.2 y).1 hy
    rw [(stS_sub h y o ho).1]
    exact List.mem_map_of_mem ((stS_bd x.g x.n).2.2 y o ho))
  rwa [List.length_map] at h1
set_option maxRecDepth 100000 in
set_option maxHeartbeats 3200000 in
theorem swrite_ck {w : World} {Z : Nat → Prop} {sh mp g bp d m gf s q a b c e lt y : Nat} {h : List Rc} {dur : List Nat} {T : Nat → Option (List Nat)} (hl : Lg w g bp d m gf s q a b c e lt y (h.map wrS) dur T) (x : Sk w Z sh mp g h) (r : Rc) (p : Option Addr) (cp : Nat)
    (hr : Rb w p r.b.length r.b) (hg : GoodR r) (hn : h.length + 1 ≤ 1000) (hz : ∀ a, p = some a → Z a.block) (hZb : ∀ b, Z b → b < w.heap.size) (hd : sh ≠ mp ∧ ¬ Z sh ∧ ¬ Z mp) (hq : ∀ b, (b = d ∨ b = m ∨ b = g ∨ b = gf) → ¬ Z b ∧ b ≠ sh ∧ b ≠ mp) (hq2 : bp ≠ sh ∧ bp ≠ mp)
    (hroom : (totW (h.map wrS) : Int) + (stS h).2 ≤ (s : Int)) (hroom2 : (secS r : Int) + behS (stS h).1 (stS h).2 r + (stS h).2 ≤ (s : Int)) (hfit : (stS h).2 + (secS r : Int) ≤ (s : Int)) (hno : (s : Int) < (secS r : Int) + behS (stS h).1 (stS h).2 r + (totW (h.map wrS) : Int)) (htu : Turns w) (ha : a < 1152921504606846976) (hlt : lt + 1 + s < 1152921504606846976) :
    Calls Tryz.prog 45 #[.pointer (some ⟨sh, 0, none⟩), rcV r p cp] w fun e9 w' => e9 = .returned (.int .i64 0) ∧ Kp (fun x => x = d ∨ x = m ∨ x = g ∨ x = gf ∨ x = sh ∨ x = mp) w w' ∧ ∃ ss gf' q' dur' T', Ths h ss ∧ w.heap.size ≤ gf' ∧ Sk w' Z sh mp g (ckL h ss ++ [r]) ∧ Lg w' g bp d m gf' s q' (a + 1) b ((c + totW (h.map wrS)) % s) (lt + 1) (lt + (ckL h ss).length + 1) (ckL h ss).length ((ckL h ss ++ [r]).map wrS) dur' T' := by
  obtain ⟨u1, u2, u3, u4, u5⟩ := hl.bounds
  have hbd := stS_bd x.g x.n
  have hsr := secS_le hg
  obtain ⟨t, ht⟩ : ∃ t, t = behS (stS h).1 (stS h).2 r := ⟨_, rfl⟩
  rw [← ht] at hroom2 hno
  obtain ⟨W, hW⟩ : ∃ W, W = (secS r : Int) + t := ⟨_, rfl⟩
  obtain ⟨k, hk⟩ : ∃ k, k = s - totW (h.map wrS) := ⟨_, rfl⟩
  have hWk : (k : Int) < W := by omega
  have htlo : -60000 ≤ t ∧ t ≤ 60000 := by
    have h1 : (0 : Int) ≤ (secS r : Int) := Int.natCast_nonneg _
    rw [ht]
    unfold behS
    cases hM : (stS h).1 (subS r) with
    | none => dsimp only; split <;> omega
    | some o =>
      have h2 := (secS_le (x.g o (hbd.2.2 _ _ hM))).2
      dsimp only
      split <;> omega
  have HW : Hid (IntKind.i64.wrap ((secS r : Int) + t) = W) := by
    have h3 : -100000 ≤ W ∧ W ≤ 100000 := by omega
    refine wrapI ?_
    rw [← hW]
    clear hroom hroom2 hno hfit hsr hbd u1 u2 u3 u4 u5 ht hk hWk htlo hW hlt ha
    unfold wrap64
    omega
  obtain ⟨r0, hr0⟩ : ∃ r0, r0 = w.heap.size := ⟨_, rfl⟩
  obtain ⟨w0, hw0⟩ : ∃ y, y = w.alloc (.cells #[.int .i64 (r.k : Int), .int .i64 (r.n : Int), .int .i64 (r.i : Int), .int .i64 (r.e : Int), .slice p r.b.length cp] 85) := ⟨_, rfl⟩
  have HK0 : Hid (Kp (fun _ => False) w w0) := by rw [hw0]; exact (Kp.refl _ _).alloc _
  have HL0 : Hid (Lv w0 r0 [.int .i64 (r.k : Int), .int .i64 (r.n : Int), .int .i64 (r.i : Int), .int .i64 (r.e : Int), .slice p r.b.length cp]) := by rw [hw0, hr0]; exact Lv.new _ _ _
  have HLg : Hid (Lg w0 g bp d m gf s q a b c e lt y (h.map wrS) dur T) := hl.keep0 HK0.out
  have HSk : Hid (Sk w0 Z sh mp g h) := x.keep HK0.out (fun e => e) (fun e => e) (fun _ _ e => e)
  have HB0 : Hid (Rb w0 p r.b.length r.b) := hr.keep0 HK0.out
  have HTu : Hid (Turns w0) := htu.keep0 HK0.out
  have HQ4 : Hid (∀ b, (b = d ∨ b = m ∨ b = g ∨ b = gf) → ¬ Z b ∧ b ≠ sh ∧ b ≠ mp) := hq
  have HQb : Hid ((bp ≠ sh ∧ bp ≠ mp) ∧ (∀ b, Z b → b < w.heap.size) ∧ sh < w.heap.size ∧ mp < w.heap.size) := by
    have h2 : mp < w.heap.size := by obtain ⟨c9, T9, _, h2, _⟩ := x.m; exact h2.lt
    exact ⟨hq2, hZb, x.l.lt (by simp), h2⟩
  have HD : Hid (sh ≠ mp ∧ ¬ Z sh ∧ ¬ Z mp) := hd
  have HG0 : Hid (GoodR r ∧ h.length + 1 ≤ 1000 ∧ ∀ a, p = some a → Z a.block) := ⟨hg, hn, hz⟩
  have HRs : Hid (r0 ≠ sh ∧ r0 ≠ mp ∧ r0 < w0.heap.size) := by
    have h1 := HQb.out.2.2
    exact ⟨by omega, by omega, HL0.out.lt (by simp)⟩
  have HR4 : Hid (¬ (r0 = d ∨ r0 = m ∨ r0 = g ∨ r0 = gf)) := by
    have h3 := hl.blk
    show ¬ _
    omega
  have HT4 : Hid (¬ ((0 : Nat) = d ∨ (0 : Nat) = m ∨ (0 : Nat) = g ∨ (0 : Nat) = gf)) := fun e => by
    rcases e with e | e | e | e
    · exact hl.lp.td e
    · exact hl.lp.tm e
    · exact hl.lp.tg e
    · exact hl.lp.tf e
  have HSe : Hid (∀ u, Kp (fun _ => False) w0 u → Calls Tryz.prog 80 #[.agg #[.int .i64 (r.k : Int), .int .i64 (r.n : Int), .int .i64 (r.i : Int), .int .i64 (r.e : Int), .slice p r.b.length cp]] u fun e w' => e = .returned (.int .i64 (secS r : Int)) ∧ Kp (fun _ => False) u w') := fun u ku => recsec_ok r p cp u (HB0.out.keep0 ku) hg
  have HBe : Hid (∀ u, Kp (fun _ => False) w0 u → Calls Tryz.prog 81 #[.pointer (some ⟨sh, 1, none⟩), .agg #[.int .i64 (r.k : Int), .int .i64 (r.n : Int), .int .i64 (r.i : Int), .int .i64 (r.e : Int), .slice p r.b.length cp]] u fun e w' => e = .returned (.int .i64 t) ∧ Kp (fun _ => False) u w') := fun u ku => by rw [ht]; exact behind_ok (HSk.out.keep ku (fun e => e) (fun e => e) (fun _ _ e => e)) r p cp (HB0.out.keep0 ku) hg
  have HS1 : Hid (∀ z, Kp (fun _ => False) w0 z → Kp (fun _ => False) w0 z ∧ z.cell? ⟨r0, 0, none⟩ = some (.int .i64 (r.k : Int)) ∧ z.cell? ⟨r0, 1, none⟩ = some (.int .i64 (r.n : Int)) ∧ z.cell? ⟨r0, 2, none⟩ = some (.int .i64 (r.i : Int)) ∧ z.cell? ⟨r0, 3, none⟩ = some (.int .i64 (r.e : Int)) ∧ z.cell? ⟨r0, 4, none⟩ = some (.slice p r.b.length cp)) := fun z kz => ⟨kz, kz.cellv (HL0.out.cell (j := 0) rfl) id, kz.cellv (HL0.out.cell (j := 1) rfl) id, kz.cellv (HL0.out.cell (j := 2) rfl) id, kz.cellv (HL0.out.cell (j := 3) rfl) id, kz.cellv (HL0.out.cell (j := 4) rfl) id⟩
  have HTr : Hid (∀ u u' : World, Kp (fun _ => False) w0 u → Kp (fun _ => False) u u' → Kp (fun _ => False) w0 u') := fun u u' h1 h2 => h1.trans h2 (fun _ _ e => e)
  have HKk : Hid (k = s - totW (h.map wrS)) := hk
  have HAr : Hid ((totW (h.map wrS) : Int) + (stS h).2 ≤ (s : Int) ∧ W + (stS h).2 ≤ (s : Int) ∧ (stS h).2 + (secS r : Int) ≤ (s : Int) ∧ a < 1152921504606846976 ∧ lt + 1 + s < 1152921504606846976) := ⟨hroom, by rw [hW]; exact hroom2, hfit, ha, hlt⟩
  show Calls Tryz.prog 45 #[.pointer (some ⟨sh, 0, none⟩), .agg #[.int .i64 (r.k : Int), .int .i64 (r.n : Int), .int .i64 (r.i : Int), .int .i64 (r.e : Int), .slice p r.b.length cp]] w _
  clear hl x hr hg hn hz hZb hd hq hq2 hroom hroom2 hno hfit htu ha hlt u1 u2 u3 u4 u5 hbd hsr ht hW hk htlo
  go_enter Tryz.func45, Tryz.ntmps45
  go_upto_region 1 with fail
  rw [← hw0, ← hr0]
  clear hw0 hr0
  go_cut [5] (fun v wz => v = .int .i64 W ∧ Hid (Kp (fun _ => False) w0 wz))
  case first =>
    have kd : Kp (fun _ => False) w0 w0.drew := (Kp.refl _ _).drew
    have hw1 := HW.out
    go_region_held3 (fun z => Kp (fun _ => False) w0 z ∧ z.cell? ⟨r0, 0, none⟩ = some (.int .i64 (r.k : Int)) ∧ z.cell? ⟨r0, 1, none⟩ = some (.int .i64 (r.n : Int)) ∧ z.cell? ⟨r0, 2, none⟩ = some (.int .i64 (r.i : Int)) ∧ z.cell? ⟨r0, 3, none⟩ = some (.int .i64 (r.e : Int)) ∧ z.cell? ⟨r0, 4, none⟩ = some (.slice p r.b.length cp))
      (first
        | exact HS1.out _ kd
        | exact HS1.out _ kw2
        | exact HS1.out _ kw1)
      (first
        | (go_at_call 80; first | (refine (HSe.out _ kw1).mono ?_; rintro e9 w2 ⟨rfl, k2⟩; have kw2 := HTr.out _ _ kw1 k2) | (refine (HSe.out _ kd).mono ?_; rintro e9 w1 ⟨rfl, k1⟩; have kw1 := HTr.out _ _ kd k1))
        | (go_at_call 81; first | (refine (HBe.out _ kw1).mono ?_; rintro e9 w2 ⟨rfl, k2⟩; have kw2 := HTr.out _ _ kw1 k2) | (refine (HBe.out _ kd).mono ?_; rintro e9 w1 ⟨rfl, k1⟩; have kw1 := HTr.out _ _ kd k1)))
    all_goals
      go_simp
      go_wp2_with fail
      go_meet
      first
        | exact ⟨by first | rfl | rw [hw1], kw2⟩
        | trace_state
  case rest =>
    obtain ⟨rfl, HKd⟩ := hcut
    clear HS1 HTr HSe HBe HW
    have HLd : Hid (Lg wc g bp d m gf s q a b c e lt y (h.map wrS) dur T) := HLg.out.keep0 HKd.out
    have HSd : Hid (Sk wc Z sh mp g h) := HSk.out.keep HKd.out (fun e => e) (fun e => e) (fun _ _ e => e)
    have HTd : Hid (Turns wc) := HTu.out.keep0 HKd.out
    have HRm : Hid (Calls Tryz.prog 82 #[.pointer (some ⟨g, 0, none⟩)] wc fun e9 w' => e9 = .returned (.int .i64 (k : Int)) ∧ w' = wc) := by rw [HKk.out]; exact room_ok HLd.out.wl
    have s0 : wc.cell? ⟨sh, 0, none⟩ = some (.pointer (some ⟨g, 0, none⟩)) := HSd.out.l.cell (j := 0) rfl
    clear HLg HSk
    go_wp2_with fail
    refine HRm.out.mono ?_
    rintro e9 w9 ⟨rfl, hw9⟩
    have hw8 := hw9.symm
    subst hw8
    clear hw9 HRm
    go_upto_region 3 with fail
    obtain ⟨wd, hwd⟩ : ∃ z, z = wc := ⟨_, rfl⟩
    rw [← hwd] at HKd HLd HSd HTd s0 ⊢
    clear hwd
    have HWn : Hid (∀ u, Kp (fun _ => False) wd u → Calls Tryz.prog 84 #[.pointer (some ⟨sh, 1, none⟩)] u fun e w' => ∃ v ss, e = .returned v ∧ Kp (fun _ => False) u w' ∧ Rw w' u.heap.size v ((ckL h ss).map wrS) ∧ Ths h ss ∧ ss.length ≤ 1000) := fun u ku => swritten_ok (HSd.out.keep ku (fun e => e) (fun e => e) (fun _ _ e => e))
    have HCk : Hid (∀ (u0 u : World) (v : Value) (ss : List K3), Kp (fun _ => False) wd u0 → Kp (fun _ => False) u0 u → Rw u u0.heap.size v ((ckL h ss).map wrS) → Ths h ss → Calls Tryz.prog 83 #[.pointer (some ⟨g, 0, none⟩), v] u fun e9 w' => e9 = .returned (.int .i64 0) ∧ Kp (fun x => x = d ∨ x = m ∨ x = g ∨ x = gf) wd w' ∧ Ckd wd w' g bp d m gf s a b c e lt h) := fun u0 u v ss k0 k1 hr hs => by
      refine (sck_ok (HLd.out.keep0 k0) (HSd.out.keep k0 (fun e => e) (fun e => e) (fun _ _ e => e)) (HTd.out.keep0 k0) k1 hr hs HAr.out.1 HAr.out.2.2.2.1 HAr.out.2.2.2.2).mono ?_
      rintro e9 w' ⟨rfl, kk, ss', gf', dur', a1, a2, a3⟩
      have kk2 : Kp (fun x => x = d ∨ x = m ∨ x = g ∨ x = gf) wd w' := (k0.mono (fun _ _ e => e.elim)).trans kk (fun _ _ e => e)
      exact ⟨rfl, kk2, kk2, ss', gf', dur', a1, Nat.le_trans k0.size a2, a3⟩
    have HS3 : Hid (∀ z, Kp (fun x => x = d ∨ x = m ∨ x = g ∨ x = gf) wd z → Kp (fun x => x = d ∨ x = m ∨ x = g ∨ x = gf) wd z ∧ z.cell? ⟨sh, 0, none⟩ = some (.pointer (some ⟨g, 0, none⟩))) := fun z kz => ⟨kz, kz.cellv (HSd.out.l.cell (j := 0) rfl) (fun e => (HQ4.out sh e).2.1 rfl)⟩
    have HM3 : Hid (∀ z, Kp (fun _ => False) wd z → Kp (fun x => x = d ∨ x = m ∨ x = g ∨ x = gf) wd z) := fun z kz => kz.mono (fun _ _ e => e.elim)
    have HT3 : Hid (∀ u u' : World, Kp (fun _ => False) wd u → Kp (fun _ => False) u u' → Kp (fun _ => False) wd u') := fun u u' h1 h2 => h1.trans h2 (fun _ _ e => e)
    clear s0
    go_cut [6] (fun v wz => v = .int .i64 0 ∧ Hid (Ckd wd wz g bp d m gf s a b c e lt h))
    case first =>
      have kd : Kp (fun _ => False) wd wd.drew := (Kp.refl _ _).drew
      go_region_held3 (fun z => Kp (fun x => x = d ∨ x = m ∨ x = g ∨ x = gf) wd z ∧ z.cell? ⟨sh, 0, none⟩ = some (.pointer (some ⟨g, 0, none⟩)))
        (first
          | exact HS3.out _ (HM3.out _ kd)
          | exact HS3.out _ (HM3.out _ kw1)
          | exact HS3.out _ kw3)
        (first
          | (go_at_call 84; refine (HWn.out _ kd).mono ?_; rintro e9 w1 ⟨v1, ss1, rfl, k1, rw1, th1, ln1⟩; have kw1 := HT3.out _ _ kd k1)
          | (go_at_call 83; refine (HCk.out _ _ _ ss1 kd k1 rw1 th1).mono ?_; rintro e9 w3 ⟨rfl, kw3, ck3⟩))
      all_goals
        go_simp
        go_wp2_with fail
        go_meet
        first
          | exact ⟨rfl, ck3⟩
          | trace_state
    case rest =>
      obtain ⟨rfl, HCd⟩ := hcut
      obtain ⟨HKe, ss, gf9, dur9, hth, hgf, hlg⟩ := HCd.out
      obtain ⟨h9, hh9⟩ : ∃ z, z = ckL h ss := ⟨_, rfl⟩
      rw [← hh9] at hlg
      obtain ⟨a9, ha9⟩ : ∃ z, z = a + 1 := ⟨_, rfl⟩
      obtain ⟨cc9, hcc9⟩ : ∃ z, z = (c + totW (h.map wrS)) % s := ⟨_, rfl⟩
      obtain ⟨ee9, hee9⟩ : ∃ z, z = lt + 1 := ⟨_, rfl⟩
      obtain ⟨lt0, hlt0⟩ : ∃ z, z = lt + h9.length := ⟨_, rfl⟩
      obtain ⟨lt1, hlt1⟩ : ∃ z, z = lt0 + 1 := ⟨_, rfl⟩
      obtain ⟨yy9, hyy9⟩ : ∃ z, z = h9.length := ⟨_, rfl⟩
      rw [← ha9, ← hcc9, ← hee9, ← hlt0, ← hyy9] at hlg
      have HLc : Hid (Lg wc g bp d m gf9 s 0 a9 b cc9 ee9 lt0 yy9 (h9.map wrS) dur9 (fun _ => none)) := hlg
      have HLt1 : Hid (lt1 = lt0 + 1) := hlt1
      have HKc : Hid (Kp (fun x => x = d ∨ x = m ∨ x = g ∨ x = gf) w0 wc) := (HKd.out.mono (fun _ _ e => e.elim)).trans HKe (fun _ _ e => e)
      have HSc : Hid (Sk wc Z sh mp g h9) := by
        have h1 := (HSd.out.anew hth).keep HKe (fun e => (HQ4.out sh e).2.1 rfl) (fun e => (HQ4.out mp e).2.2 rfl) (fun b hb e => (HQ4.out b e).1 hb)
        rw [← hh9] at h1
        exact h1
      have HGf : Hid (w.heap.size ≤ gf9 ∧ w0.heap.size ≤ gf9) := ⟨Nat.le_trans HK0.out.size (Nat.le_trans HKd.out.size hgf), Nat.le_trans HKd.out.size hgf⟩
      have HG : Hid (GoodR r ∧ h9.length + 1 ≤ 1000 ∧ ∀ a, p = some a → Z a.block) := by
        have h1 : h9.length = ss.length := by rw [hh9, ← List.length_map (f := subS), (ckL_dst hth).2, srt3_len]
        have h2 := hth.len2 HSd.out
        exact ⟨HG0.out.1, by have := HG0.out.2.1; omega, HG0.out.2.2⟩
      have HQ : Hid ((∀ b, (b = m ∨ b = g ∨ b = gf9) → ¬ Z b ∧ b ≠ sh ∧ b ≠ mp) ∧ bp ≠ sh ∧ bp ≠ mp ∧ d ≠ sh ∧ d ≠ mp) := by
        have h1 := HQb.out
        refine ⟨fun b hb => ?_, h1.1.1, h1.1.2, (HQ4.out d (Or.inl rfl)).2⟩
        rcases hb with e | e | e
        · exact HQ4.out b (Or.inr (Or.inl e))
        · exact HQ4.out b (Or.inr (Or.inr (Or.inl e)))
        · have h2 := HGf.out.1
          exact ⟨fun hz => by have := h1.2.1 b hz; omega, by omega, by omega⟩
      have HR : Hid (r0 ≠ sh ∧ r0 ≠ mp ∧ ¬ (r0 = m ∨ r0 = g ∨ r0 = gf9)) := by
        have h1 := HRs.out
        have h2 := HGf.out.2
        have h3 := HR4.out
        exact ⟨h1.1, h1.2.1, by omega⟩
      have htt : (totW (h9.map wrS) : Int) = (stS h).2 := by rw [hh9]; exact ckL_tot HSd.out hth
      have HFt : Hid (totW (h9.map wrS) + secS r ≤ s) := by have := HAr.out; show _ ≤ _; omega
      obtain ⟨k9, hk9⟩ : ∃ z, z = s - totW (h9.map wrS) := ⟨_, rfl⟩
      have HRm2 : Hid (Calls Tryz.prog 82 #[.pointer (some ⟨g, 0, none⟩)] wc fun e9 w' => e9 = .returned (.int .i64 (k9 : Int)) ∧ w' = wc) := by rw [hk9]; exact room_ok HLc.out.wl
      have hlt : ¬ ((k9 : Int) < W) := by have := HAr.out; have := HFt.out; omega
      have s0 : wc.cell? ⟨sh, 0, none⟩ = some (.pointer (some ⟨g, 0, none⟩)) := HSc.out.l.cell (j := 0) rfl
      have HEnd : Hid (Ths h ss ∧ h9 = ckL h ss ∧ a9 = a + 1 ∧ cc9 = (c + totW (h.map wrS)) % s ∧ ee9 = lt + 1 ∧ lt1 = lt + h9.length + 1 ∧ yy9 = h9.length) := ⟨hth, hh9, ha9, hcc9, hee9, by omega, hyy9⟩
      clear HWn HCk HS3 HM3 HT3 HCd HKe hth hgf hlg hh9 ha9 hcc9 hee9 hlt0 hlt1 hyy9 htt hk9 hWk HSd HLd HTd HQb HRs HG0
      go_wp2_with fail
      refine HRm2.out.mono ?_
      rintro e9 w9 ⟨rfl, hw9⟩
      have hw8 := hw9.symm
      subst hw8
      clear hw9 HRm2
      go_upto_region 8 with fail
      have HLr : Hid (Lv wc r0 [.int .i64 (r.k : Int), .int .i64 (r.n : Int), .int .i64 (r.i : Int), .int .i64 (r.e : Int), .slice p r.b.length cp]) := HL0.out.keep HKc.out HR4.out
      have HBc : Hid (Rb wc p r.b.length r.b) := HB0.out.keep HKc.out (fun a ha _ e => (HQ4.out _ e).1 (HG.out.2.2 a ha))
      have HTc : Hid (Turns wc) := HTu.out.keep HKc.out HT4.out
      have HWr : Hid (∀ u, Kp (fun _ => False) wc u → Calls Tryz.prog 86 #[.agg #[.int .i64 (r.k : Int), .int .i64 (r.n : Int), .int .i64 (r.i : Int), .int .i64 (r.e : Int), .slice p r.b.length cp]] u fun e w' => ∃ v, e = .returned v ∧ Kp (fun _ => False) u w' ∧ Ow w' u.heap.size v (wrS r)) := fun u ku => written_ok r p cp u (HBc.out.keep0 ku) HG.out.1
      have HAp : Hid (∀ (u0 u : World) (v : Value), Kp (fun _ => False) wc u0 → Kp (fun _ => False) u0 u → Ow u u0.heap.size v (wrS r) → Calls Tryz.prog 85 #[.pointer (some ⟨g, 0, none⟩), v] u fun e9 w' => e9 = .returned (.tuple #[.int .i64 (lt1 : Int), .int .i64 0]) ∧ Kp (fun x => x = m ∨ x = g ∨ x = gf9) wc w' ∧ ∃ q' T', Lg w' g bp d m gf9 s q' a9 b cc9 ee9 lt1 yy9 (h9.map wrS ++ [wrS r]) dur9 T') := fun u0 u v k0 k1 ov => by
        rw [HLt1.out]
        obtain ⟨q9, c9, rfl, hc9, hr9, hb9⟩ := ov.rb (wrS_b HG.out.1)
        have hln := wrS_len HG.out.1
        have ku : Kp (fun _ => False) wc u := k0.trans k1 (fun _ _ e => e)
        have hbk := HLc.out.blk
        have hsz := k0.size
        refine (lg_append (HLc.out.keep0 ku) q9 (wrS r).length c9 (wrS r) hr9 hc9 (fun z hz _ => ?_) (HTc.out.keep0 ku)).mono ?_
        · have := (hb9 z hz).1
          omega
        · rintro e9 w' (⟨hx, _, _⟩ | ⟨_, hx, _, _⟩ | ⟨_, _, rfl, kk, q', T', l', _⟩)
          · omega
          · have := HFt.out
            have e9 : secS r = needW (wrS r) := rfl
            omega
          · exact ⟨rfl, (ku.mono (fun _ _ e => e.elim)).trans kk (fun _ _ e => e), q', T', l'⟩
      have HS8 : Hid (∀ z, Kp (fun x => x = m ∨ x = g ∨ x = gf9) wc z → Kp (fun x => x = m ∨ x = g ∨ x = gf9) wc z ∧ z.cell? ⟨sh, 0, none⟩ = some (.pointer (some ⟨g, 0, none⟩)) ∧ z.cell? ⟨r0, 0, none⟩ = some (.int .i64 (r.k : Int)) ∧ z.cell? ⟨r0, 1, none⟩ = some (.int .i64 (r.n : Int)) ∧ z.cell? ⟨r0, 2, none⟩ = some (.int .i64 (r.i : Int)) ∧ z.cell? ⟨r0, 3, none⟩ = some (.int .i64 (r.e : Int)) ∧ z.cell? ⟨r0, 4, none⟩ = some (.slice p r.b.length cp)) := fun z kz => ⟨kz, kz.cellv (HSc.out.l.cell (j := 0) rfl) (fun e => (HQ.out.1 sh e).2.1 rfl), kz.cellv (HLr.out.cell (j := 0) rfl) HR.out.2.2, kz.cellv (HLr.out.cell (j := 1) rfl) HR.out.2.2, kz.cellv (HLr.out.cell (j := 2) rfl) HR.out.2.2, kz.cellv (HLr.out.cell (j := 3) rfl) HR.out.2.2, kz.cellv (HLr.out.cell (j := 4) rfl) HR.out.2.2⟩
      have kd0 : Kp (fun _ => False) wc wc.drew := (Kp.refl _ _).drew
      have kd8 : Kp (fun x => x = m ∨ x = g ∨ x = gf9) wc wc.drew := (Kp.refl _ _).drew
      have HM8 : Hid (∀ z, Kp (fun _ => False) wc z → Kp (fun x => x = m ∨ x = g ∨ x = gf9) wc z) := fun z kz => kz.mono (fun _ _ e => e.elim)
      have HT8 : Hid (∀ u u' : World, Kp (fun _ => False) wc u → Kp (fun _ => False) u u' → Kp (fun _ => False) wc u') := fun u u' h1 h2 => h1.trans h2 (fun _ _ e => e)
      clear s0 hlt
      go_region_held3 (fun z => Kp (fun x => x = m ∨ x = g ∨ x = gf9) wc z ∧ z.cell? ⟨sh, 0, none⟩ = some (.pointer (some ⟨g, 0, none⟩)) ∧ z.cell? ⟨r0, 0, none⟩ = some (.int .i64 (r.k : Int)) ∧ z.cell? ⟨r0, 1, none⟩ = some (.int .i64 (r.n : Int)) ∧ z.cell? ⟨r0, 2, none⟩ = some (.int .i64 (r.i : Int)) ∧ z.cell? ⟨r0, 3, none⟩ = some (.int .i64 (r.e : Int)) ∧ z.cell? ⟨r0, 4, none⟩ = some (.slice p r.b.length cp))
        (first
          | exact HS8.out _ kd8
          | exact HS8.out _ (HM8.out _ kw1)
          | exact HS8.out _ kw8)
        (first
          | (go_at_call 86; refine (HWr.out _ kd0).mono ?_; rintro e9 w1 ⟨v1, rfl, k1, ov1⟩; have kw1 := HT8.out _ _ kd0 k1)
          | (go_at_call 85; refine (HAp.out _ _ _ kd0 k1 ov1).mono ?_; rintro e9 w8 ⟨rfl, kw8, lg8⟩))
      all_goals
        have HK8 : Hid (Kp (fun x => x = m ∨ x = g ∨ x = gf9) wc w8) := kw8
        have HL8 : Hid (∃ q' T', Lg w8 g bp d m gf9 s q' a9 b cc9 ee9 lt1 yy9 (h9.map wrS ++ [wrS r]) dur9 T') := lg8
        have HS8k : Hid (Sk w8 Z sh mp g h9) := HSc.out.keep kw8 (fun e => (HQ.out.1 sh e).2.1 rfl) (fun e => (HQ.out.1 mp e).2.2 rfl) (fun b hb e => (HQ.out.1 b e).1 hb)
        have HLr8 : Hid (Lv w8 r0 [.int .i64 (r.k : Int), .int .i64 (r.n : Int), .int .i64 (r.i : Int), .int .i64 (r.e : Int), .slice p r.b.length cp]) := HLr.out.keep kw8 HR.out.2.2
        have HB8 : Hid (Rb w8 p r.b.length r.b) := HBc.out.keep kw8 (fun a ha _ e => (HQ.out.1 _ e).1 (HG.out.2.2 a ha))
        clear HS8 HM8 HT8 HAp HWr kw8 lg8 kd0 kd8 kw1 k1 ov1
        have HTk : Hid (∀ u, Kp (fun _ => False) w8 u → Calls Tryz.prog 87 #[.pointer (some ⟨sh, 1, none⟩), .agg #[.int .i64 (r.k : Int), .int .i64 (r.n : Int), .int .i64 (r.i : Int), .int .i64 (r.e : Int), .slice p r.b.length cp]] u fun e w' => e = .returned (.tuple #[]) ∧ Kp (fun b => b = sh ∨ b = mp) w8 w' ∧ Sk w' Z sh mp g (h9 ++ [r])) := fun u ku => by
          refine (take_ok (HS8k.out.keep ku (fun e => e) (fun e => e) (fun _ _ e => e)) r p cp (HB8.out.keep0 ku) HG.out.1 HG.out.2.1 HG.out.2.2 HD.out).mono ?_
          rintro e9 w' ⟨rfl, kk, sk⟩
          exact ⟨rfl, (ku.mono (fun _ _ e => e.elim)).trans kk (fun _ _ e => e), sk⟩
        have HS11 : Hid (∀ z, Kp (fun b => b = sh ∨ b = mp) w8 z → Kp (fun b => b = sh ∨ b = mp) w8 z ∧ z.cell? ⟨r0, 0, none⟩ = some (.int .i64 (r.k : Int)) ∧ z.cell? ⟨r0, 1, none⟩ = some (.int .i64 (r.n : Int)) ∧ z.cell? ⟨r0, 2, none⟩ = some (.int .i64 (r.i : Int)) ∧ z.cell? ⟨r0, 3, none⟩ = some (.int .i64 (r.e : Int)) ∧ z.cell? ⟨r0, 4, none⟩ = some (.slice p r.b.length cp)) := fun z kz => ⟨kz, kz.cellv (HLr8.out.cell (j := 0) rfl) (fun e => e.elim HR.out.1 HR.out.2.1), kz.cellv (HLr8.out.cell (j := 1) rfl) (fun e => e.elim HR.out.1 HR.out.2.1), kz.cellv (HLr8.out.cell (j := 2) rfl) (fun e => e.elim HR.out.1 HR.out.2.1), kz.cellv (HLr8.out.cell (j := 3) rfl) (fun e => e.elim HR.out.1 HR.out.2.1), kz.cellv (HLr8.out.cell (j := 4) rfl) (fun e => e.elim HR.out.1 HR.out.2.1)⟩
        have kd1 : Kp (fun _ => False) w8 w8.drew := (Kp.refl _ _).drew
        have kd11 : Kp (fun b => b = sh ∨ b = mp) w8 w8.drew := (Kp.refl _ _).drew
        go_simp
        go_upto_region 11 with fail
        go_region_held3 (fun z => Kp (fun b => b = sh ∨ b = mp) w8 z ∧ z.cell? ⟨r0, 0, none⟩ = some (.int .i64 (r.k : Int)) ∧ z.cell? ⟨r0, 1, none⟩ = some (.int .i64 (r.n : Int)) ∧ z.cell? ⟨r0, 2, none⟩ = some (.int .i64 (r.i : Int)) ∧ z.cell? ⟨r0, 3, none⟩ = some (.int .i64 (r.e : Int)) ∧ z.cell? ⟨r0, 4, none⟩ = some (.slice p r.b.length cp))
          (first
            | exact HS11.out _ kd11
            | exact HS11.out _ kwT)
          (first
            | (go_at_call 87; refine (HTk.out _ kd1).mono ?_; rintro e9 wT ⟨rfl, kwT, skT⟩))
        obtain ⟨q', T', lgq⟩ := HL8.out
        have HF : Hid (Kp (fun x => x = d ∨ x = m ∨ x = g ∨ x = gf ∨ x = sh ∨ x = mp) w wT ∧ ∃ ss gf' q' dur' T', Ths h ss ∧ w.heap.size ≤ gf' ∧ Sk wT Z sh mp g (ckL h ss ++ [r]) ∧ Lg wT g bp d m gf' s q' (a + 1) b ((c + totW (h.map wrS)) % s) (lt + 1) (lt + (ckL h ss).length + 1) (ckL h ss).length ((ckL h ss ++ [r]).map wrS) dur' T') := by
          have h0 : Kp (fun x => x = d ∨ x = m ∨ x = g ∨ x = gf) w wc := (HK0.out.mono (fun _ _ e => e.elim)).trans HKc.out (fun _ _ e => e)
          have h1 : Kp (fun x => x = d ∨ x = m ∨ x = g ∨ x = gf ∨ x = sh ∨ x = mp) w w8 := (h0.mono (fun b _ e => by
            rcases e with e | e | e | e
            · exact Or.inl e
            · exact Or.inr (Or.inl e)
            · exact Or.inr (Or.inr (Or.inl e))
            · exact Or.inr (Or.inr (Or.inr (Or.inl e))))).trans HK8.out (fun b hb e => by
            rcases e with e | e | e
            · exact Or.inr (Or.inl e)
            · exact Or.inr (Or.inr (Or.inl e))
            · exact absurd hb (by have := HGf.out.1; omega))
          obtain ⟨z1, z2, z3, z4, z5, z6, z7⟩ := HEnd.out
          refine ⟨h1.trans kwT (fun b _ e => by
            rcases e with e | e
            · exact Or.inr (Or.inr (Or.inr (Or.inr (Or.inl e))))
            · exact Or.inr (Or.inr (Or.inr (Or.inr (Or.inr e))))), ss, gf9, q', dur9, T', z1, HGf.out.1, by rw [← z2]; exact skT, ?_⟩
          rw [← z2, ← z3, ← z4, ← z5, ← z6, ← z7, List.map_append]
          have hQ := HQ.out
          have hgg := (hQ.1 g (Or.inr (Or.inl rfl))).2
          have hmm := (hQ.1 m (Or.inl rfl)).2
          have hff := (hQ.1 gf9 (Or.inr (Or.inr rfl))).2
          exact lgq.keep kwT (fun e => e.elim hgg.1 hgg.2) (fun e => e.elim hQ.2.1 hQ.2.2.1) (fun e => e.elim hQ.2.2.2.1 hQ.2.2.2.2) (fun e => e.elim hmm.1 hmm.2) (fun e => e.elim hff.1 hff.2)
        clear HS11 HTk kd1 kd11 lgq kwT skT
        go_simp
        go_wp2_with fail
        go_ret
        exact ⟨rfl, HF.out⟩
end Go.Proofs.YtmooddbhcccicaaGreatDoor

/- A shelf whose log may be written anew: write. -/
namespace Go.Proofs.YtmooddbhcccicaaGreatDoor
set_option linter.unusedVariables false
set_option linter.unusedSimpArgs false
open Go.RowKit Go.Deep Go.Maps

theorem fS_nn (h : List Rc) (x : K3) : 0 ≤ fS h x := by
  unfold fS
  split
  · exact Int.natCast_nonneg _
  · exact Int.le_refl _
theorem sumI_nn {f : K3 → Int} (hf : ∀ x, 0 ≤ f x) : ∀ l : List K3, 0 ≤ sumI (l.map f)
  | [] => Int.le_refl _
  | x :: l => by
    rw [List.map_cons, sumI_cons]
    have := sumI_nn hf l
    have := hf x
    omega
theorem keys_of : ∀ h : List Rc, ∃ ks : List K3, ks.Nodup ∧ ∀ r ∈ h, subS r ∈ ks
  | [] => ⟨[], List.nodup_nil, fun r hr => by cases hr⟩
  | r :: h => by
    obtain ⟨ks, h1, h2⟩ := keys_of h
    by_cases hm : subS r ∈ ks
    · exact ⟨ks, h1, fun q hq => (List.mem_cons.1 hq).elim (fun e => e ▸ hm) (h2 q)⟩
    · exact ⟨subS r :: ks, List.nodup_cons.2 ⟨hm, h1⟩, fun q hq => (List.mem_cons.1 hq).elim (fun e => e ▸ List.mem_cons_self) (fun e => List.mem_cons_of_mem _ (h2 q e))⟩
theorem stS_nn {h : List Rc} (hg : ∀ r ∈ h, GoodR r) (hn : h.length ≤ 1000) : 0 ≤ (stS h).2 := by
  obtain ⟨ks, h1, h2⟩ := keys_of h
  rw [stS_sum h ks h1 (fun x o ho => by rw [(stS_sub h x o ho).1]; exact h2 o ((stS_bd hg hn).2.2 x o ho))]
  exact sumI_nn (fS_nn h) ks
/-- what a call may write -/
abbrev SW6 (sh mp g m gf d : Nat) : Nat → Prop := fun x => x = d ∨ x = m ∨ x = g ∨ x = gf ∨ x = sh ∨ x = mp
/-- a shelf, its log and its plate, behind N records written -/
structure Shr (w : World) (Z : Nat → Prop) (sh mp g bp d m gf s b N : Nat) (h : List Rc) : Prop where
  lg : ∃ q a c e lt y dur T, Lg w g bp d m gf s q a b c e lt y (h.map wrS) dur T ∧ a ≤ N + 1 ∧ lt ≤ 2000 * N
  sk : Sk w Z sh mp g h
  tu : Turns w
  zb : ∀ x, Z x → x < w.heap.size
  ap : sh ≠ mp ∧ ¬ Z sh ∧ ¬ Z mp
  aq : ∀ x, (x = d ∨ x = m ∨ x = g ∨ x = gf) → ¬ Z x ∧ x ≠ sh ∧ x ≠ mp
  ar : bp ≠ sh ∧ bp ≠ mp
  at_ : (0 : Nat) ≠ sh ∧ (0 : Nat) ≠ mp
  rm : (totW (h.map wrS) : Int) + (stS h).2 ≤ (s : Int)
  hl : h.length ≤ N
/-- a record was written -/
def Wrd (w' : World) (w0 sh mp g bp d m gf s b N : Nat) (h : List Rc) (r : Rc) : Prop := ∃ Z' gf' h', (gf' = gf ∨ w0 ≤ gf') ∧ Shr w' Z' sh mp g bp d m gf' s b (N + 1) h' ∧ stS h' = stS (h ++ [r])
section
variable {w : World} {Z : Nat → Prop} {sh mp g bp d m gf s b N : Nat} {h : List Rc}
theorem Shr.keep {S : Nat → Prop} (x : Shr w Z sh mp g bp d m gf s b N h) {w' : World} (k : Kp S w w') (hS : ∀ v, (v = bp ∨ SW6 sh mp g m gf d v ∨ Z v ∨ v = (0 : Nat)) → ¬ S v) : Shr w' Z sh mp g bp d m gf s b N h := by
  obtain ⟨q, a, c, e, lt, y, dur, T, hl, h1, h2⟩ := x.lg
  have hs : ∀ v, SW6 sh mp g m gf d v → ¬ S v := fun v hv => hS v (Or.inr (Or.inl hv))
  exact ⟨⟨q, a, c, e, lt, y, dur, T, hl.keep k (hs _ (Or.inr (Or.inr (Or.inl rfl)))) (hS _ (Or.inl rfl)) (hs _ (Or.inl rfl)) (hs _ (Or.inr (Or.inl rfl))) (hs _ (Or.inr (Or.inr (Or.inr (Or.inl rfl))))), h1, h2⟩,
    x.sk.keep k (hs _ (Or.inr (Or.inr (Or.inr (Or.inr (Or.inl rfl)))))) (hs _ (Or.inr (Or.inr (Or.inr (Or.inr (Or.inr rfl)))))) (fun v hv => hS v (Or.inr (Or.inr (Or.inl hv)))), x.tu.keep k (hS _ (Or.inr (Or.inr (Or.inr rfl)))), fun v hv => Nat.lt_of_lt_of_le (x.zb v hv) k.size, x.ap, x.aq, x.ar, x.at_, x.rm, x.hl⟩
theorem Shr.keep0 (x : Shr w Z sh mp g bp d m gf s b N h) {w' : World} (k : Kp (fun _ => False) w w') : Shr w' Z sh mp g bp d m gf s b N h := x.keep k (fun _ _ e => e)
theorem Shr.blk (x : Shr w Z sh mp g bp d m gf s b N h) : ∀ v, SW6 sh mp g m gf d v → v < w.heap.size := fun v hv => by
  obtain ⟨q, a, c, e, lt, y, dur, T, hl, _⟩ := x.lg
  have h1 := hl.blk
  have h2 := x.sk.l.lt (by simp)
  have h3 : mp < w.heap.size := by obtain ⟨c9, T9, _, h2, _⟩ := x.sk.m; exact h2.lt
  rcases hv with e | e | e | e | e | e <;> omega
theorem Shr.write (x : Shr w Z sh mp g bp d m gf s b N h) (r : Rc) (p : Option Addr) (cp : Nat) (hr : Rb w p r.b.length r.b) (hg : GoodR r) (hN : N + 1 ≤ 1000) (hz : ∀ v, p = some v → v.block < w.heap.size ∧ ¬ SW6 sh mp g m gf d v.block)
    (hroom : 2 * (secS r : Int) + 2 * (stS h).2 ≤ (s : Int)) :
    Calls Tryz.prog 45 #[.pointer (some ⟨sh, 0, none⟩), rcV r p cp] w fun e9 w' => e9 = .returned (.int .i64 0) ∧ Kp (SW6 sh mp g m gf d) w w' ∧ Wrd w' w.heap.size sh mp g bp d m gf s b N h r := by
  obtain ⟨q, a, c, e, lt, y, dur, T, hl, ha, hlt⟩ := x.lg
  have h1 := behS_le (stS h).1 (stS h).2 r
  have hln := x.hl
  have hrm := x.rm
  obtain ⟨Z', hZ'⟩ : ∃ Z' : Nat → Prop, Z' = fun v => Z v ∨ ∃ z, p = some z ∧ v = z.block := ⟨_, rfl⟩
  have hZ : ∀ v, Z' v → Z v ∨ (v < w.heap.size ∧ ¬ SW6 sh mp g m gf d v) := fun v hv => by
    rw [hZ'] at hv
    rcases hv with hv | ⟨z, hz1, rfl⟩
    · exact Or.inl hv
    · exact Or.inr (hz z hz1)
  have sk' : Sk w Z' sh mp g h := x.sk.zm (fun v hv => by rw [hZ']; exact Or.inl hv)
  have hz' : ∀ v, p = some v → Z' v.block := fun v hv => by rw [hZ']; exact Or.inr ⟨v, hv, rfl⟩
  have zb' : ∀ v, Z' v → v < w.heap.size := fun v hv => (hZ v hv).elim (x.zb v) (fun e => e.1)
  have ap' : sh ≠ mp ∧ ¬ Z' sh ∧ ¬ Z' mp := ⟨x.ap.1, fun e => (hZ _ e).elim x.ap.2.1 (fun e => e.2 (Or.inr (Or.inr (Or.inr (Or.inr (Or.inl rfl)))))), fun e => (hZ _ e).elim x.ap.2.2 (fun e => e.2 (Or.inr (Or.inr (Or.inr (Or.inr (Or.inr rfl))))))⟩
  have aq' : ∀ v, (v = d ∨ v = m ∨ v = g ∨ v = gf) → ¬ Z' v ∧ v ≠ sh ∧ v ≠ mp := fun v hv => ⟨fun e => (hZ _ e).elim (x.aq v hv).1 (fun e => e.2 (by
    rcases hv with e | e | e | e
    · exact Or.inl e
    · exact Or.inr (Or.inl e)
    · exact Or.inr (Or.inr (Or.inl e))
    · exact Or.inr (Or.inr (Or.inr (Or.inl e))))), (x.aq v hv).2⟩
  have hnn : 0 ≤ behS (stS h).1 (stS h).2 r := by
    have h2 := stS_nn (h := h ++ [r]) (fun q hq => (List.mem_append.1 hq).elim (x.sk.g q) (fun e => by rw [List.mem_singleton.1 e]; exact hg)) (by rw [List.length_append]; simp only [List.length_cons, List.length_nil]; omega)
    rw [stS_snoc] at h2
    exact h2
  have hbd := hl.bounds
  have tu' : ∀ {w' : World}, Kp (SW6 sh mp g m gf d) w w' → Turns w' := fun k => x.tu.keep k (fun e => by
    rcases e with e | e | e | e | e | e
    · exact hl.lp.td e
    · exact hl.lp.tm e
    · exact hl.lp.tg e
    · exact hl.lp.tf e
    · exact x.at_.1 e
    · exact x.at_.2 e)
  by_cases hw : (s : Int) < (secS r : Int) + behS (stS h).1 (stS h).2 r + (totW (h.map wrS) : Int)
  · refine (swrite_ck hl sk' r p cp hr hg (by omega) hz' zb' ap' aq' x.ar hrm (by omega) (by omega) hw x.tu (by omega) (by omega)).mono ?_
    rintro e9 w' ⟨rfl, k, ss, gf', q', dur', T', hth, hgf, sk2, lg2⟩
    have hck := ckL_same hth x.sk.wf
    have hst : stS (ckL h ss ++ [r]) = stS (h ++ [r]) := by
      rw [stS_snoc, stS_snoc, hck.1, hck.2]
    have hcl : (ckL h ss).length ≤ h.length := by
      rw [← List.length_map (f := subS), (ckL_dst hth).2, srt3_len]
      exact hth.len2 x.sk
    have hbk := x.blk
    refine ⟨rfl, k, Z', gf', ckL h ss ++ [r], Or.inr hgf, ⟨⟨q', _, _, _, _, _, dur', T', lg2, by omega, by omega⟩, sk2, tu' k, fun v hv => Nat.lt_of_lt_of_le (zb' v hv) k.size, ap', fun v hv => ?_, x.ar, x.at_, ?_, ?_⟩, hst⟩
    · rcases hv with e | e | e | e
      · exact aq' v (Or.inl e)
      · exact aq' v (Or.inr (Or.inl e))
      · exact aq' v (Or.inr (Or.inr (Or.inl e)))
      · have b1 := hbk sh (Or.inr (Or.inr (Or.inr (Or.inr (Or.inl rfl)))))
        have b2 := hbk mp (Or.inr (Or.inr (Or.inr (Or.inr (Or.inr rfl)))))
        exact ⟨fun hv => by have := zb' v hv; omega, by omega, by omega⟩
    · rw [hst, List.map_append, totW_app, stS_snoc]
      have h3 := ckL_tot x.sk hth
      show ((totW ((ckL h ss).map wrS) + secS r : Nat) : Int) + behS _ _ _ ≤ _
      omega
    · rw [List.length_append]
      simp only [List.length_cons, List.length_nil]
      omega
  · refine (swrite_ok hl sk' r p cp hr hg (by omega) hz' ap' (fun v hv => aq' v (Or.inr hv)) ⟨x.ar.1, x.ar.2, (aq' d (Or.inl rfl)).2⟩ (by omega) (by omega) x.tu).mono ?_
    rintro e9 w' ⟨rfl, k, sk2, q', T', lg2⟩
    have k6 : Kp (SW6 sh mp g m gf d) w w' := k.mono (fun v _ e => Or.inr e)
    refine ⟨rfl, k6, Z', gf, h ++ [r], Or.inl rfl, ⟨⟨q', _, _, _, _, _, dur, T', lg2, by omega, by omega⟩, sk2, tu' k6, fun v hv => Nat.lt_of_lt_of_le (zb' v hv) k.size, ap', aq', x.ar, x.at_, ?_, ?_⟩, rfl⟩
    · rw [List.map_append, totW_app, stS_snoc]
      show ((totW (h.map wrS) + secS r : Nat) : Int) + behS _ _ _ ≤ _
      omega
    · rw [List.length_append]
      simp only [List.length_cons, List.length_nil]
      omega
end
end Go.Proofs.YtmooddbhcccicaaGreatDoor

/- A shelf whose log may be written anew: Drop, Store. -/
namespace Go.Proofs.YtmooddbhcccicaaGreatDoor
set_option linter.unusedVariables false
set_option linter.unusedSimpArgs false
open Go.RowKit Go.Deep Go.Maps

theorem Wrd.mono {w' : World} {w0 w1 sh mp g bp d m gf s b N : Nat} {h : List Rc} {r : Rc} (x : Wrd w' w0 sh mp g bp d m gf s b N h r) (hw : w1 ≤ w0) : Wrd w' w1 sh mp g bp d m gf s b N h r := by
  obtain ⟨Z', gf', h', e, a, b⟩ := x
  exact ⟨Z', gf', h', e.imp id (fun e => Nat.le_trans hw e), a, b⟩
section
variable {w : World} {Z : Nat → Prop} {sh mp g bp d m gf s b N : Nat} {h : List Rc}
set_option maxRecDepth 100000 in
set_option maxHeartbeats 3200000 in
theorem rdrop_ok (x : Shr w Z sh mp g bp d m gf s b N h) (bl ix : Nat) (hbl : bl ≤ 1152921504606846976) (hix : ix ≤ 1152921504606846976) (hN : N + 1 ≤ 1000)
    (hroom : 2 * (secS ⟨2, bl, ix, 0, []⟩ : Int) + 2 * (stS h).2 ≤ (s : Int)) :
    Calls Tryz.prog 22 #[.pointer (some ⟨sh, 0, none⟩), .int .i64 (bl : Int), .int .i64 (ix : Int)] w fun e9 w' =>
      ((stS h).1 ⟨1, (bl : Int), (ix : Int)⟩ = none ∧ e9 = .returned (.int .i64 80) ∧ Kp (fun _ => False) w w') ∨
      ((∃ o, (stS h).1 ⟨1, (bl : Int), (ix : Int)⟩ = some o) ∧ e9 = .returned (.int .i64 0) ∧ Kp (SW6 sh mp g m gf d) w w' ∧ Wrd w' w.heap.size sh mp g bp d m gf s b N h ⟨2, bl, ix, 0, []⟩) := by
  obtain ⟨r0, hr0⟩ : ∃ r0, r0 = w.heap.size := ⟨_, rfl⟩
  obtain ⟨w0, hw0⟩ : ∃ y, y = w.alloc (.cells #[.int .i64 (bl : Int), .int .i64 (ix : Int)] 3) := ⟨_, rfl⟩
  have HK0 : Hid (Kp (fun _ => False) w w0) := by rw [hw0]; exact (Kp.refl _ _).alloc _
  have HS0 : Hid (Shr w0 Z sh mp g bp d m gf s b N h) := x.keep0 HK0.out
  have HA : Hid (Calls Tryz.prog 44 #[.pointer (some ⟨sh, 0, none⟩), .slice (some ⟨r0, 0, none⟩) 2 2] w0 fun e w' => e = .returned (.int .i64 0) ∧ w' = w0) := by
    have h1 := asked_ok (HS0.out.sk.l.cell (j := 0) rfl) (some ⟨r0, 0, none⟩) 2 2 [(bl : Int), (ix : Int)] (by rw [hw0, hr0]; exact rz2 w _ _ _) rfl (by omega)
    rw [upTo2 hbl hix] at h1
    exact h1
  have hwf : wf3 ⟨1, (bl : Int), (ix : Int)⟩ := ⟨wf_n60 (n := 1) (by omega), wf_n60 hbl, wf_n60 hix⟩
  obtain ⟨a1, a2, a3, a4, qq, nn, cc, ok, hlk, hM⟩ := HS0.out.sk.look _ hwf
  have hlk0 : (Instr.lookup 88 (.map (some mp)) (.agg #[.int .i64 1, .int .i64 (bl : Int), .int .i64 (ix : Int)]) true).run Tryz.prog w0 = .ok (.tuple #[.agg #[.int .i64 a1, .int .i64 a2, .int .i64 a3, .int .i64 a4, .slice qq nn cc], .bool ok]) w0 := hlk w0 (Kp.refl _ _)
  have HM : Hid ((ok = false ∧ (stS h).1 ⟨1, (bl : Int), (ix : Int)⟩ = none) ∨ (ok = true ∧ ∃ o, (stS h).1 ⟨1, (bl : Int), (ix : Int)⟩ = some o)) := by
    rcases hM with hM | ⟨h1, o, h2, _⟩
    · exact Or.inl hM
    · exact Or.inr ⟨h1, o, h2⟩
  have HWr : Hid (∀ u, Kp (fun _ => False) w0 u → Calls Tryz.prog 45 #[.pointer (some ⟨sh, 0, none⟩), .agg #[.int .i64 2, .int .i64 (bl : Int), .int .i64 (ix : Int), .int .i64 0, .slice none 0 0]] u fun e9 w' => e9 = .returned (.int .i64 0) ∧ Kp (SW6 sh mp g m gf d) u w' ∧ Wrd w' w.heap.size sh mp g bp d m gf s b N h ⟨2, bl, ix, 0, []⟩) := fun u ku =>
    ((HS0.out.keep0 ku).write ⟨2, bl, ix, 0, []⟩ none 0 rb_nil0 ⟨⟨show 1 ≤ 2 by omega, show 2 ≤ 4 by omega⟩, hbl, hix, show 0 ≤ 1152921504606846976 by omega, fun x hx => absurd hx List.not_mem_nil, show 0 ≤ 1980 by omega, fun _ => rfl⟩ hN (fun a ha => absurd ha (by simp)) hroom).mono (fun e9 w' hh => ⟨hh.1, hh.2.1, hh.2.2.mono (Nat.le_trans HK0.out.size ku.size)⟩)
  have c1 : w0.cell? ⟨sh, 1, none⟩ = some (.map (some mp)) := HS0.out.sk.l.cell (j := 1) rfl
  clear x hbl hix hN hroom hwf hlk hM
  go_enter Tryz.func22, Tryz.ntmps22
  go_wp2_with fail
  rw [← hw0, ← hr0]
  clear hw0 hr0
  refine HA.out.mono ?_
  rintro e9 w9 ⟨rfl, hw9⟩
  have hw8 := hw9.symm
  subst hw8
  clear hw9 HA
  have HKa : Hid (∀ o : Obj, Kp (fun _ => False) w0 (w0.alloc o)) := fun o => (Kp.refl _ _).alloc o
  rcases HM.out with ⟨rfl, hno⟩ | ⟨rfl, hyes⟩
  · have HN : Hid ((stS h).1 ⟨1, (bl : Int), (ix : Int)⟩ = none) := hno
    clear hno HM HWr
    go_wp2_with fail
    go_ret
    exact Or.inl ⟨HN.out, rfl, HK0.out.trans (HKa.out _) (fun _ _ e => e)⟩
  · have HY : Hid (∃ o, (stS h).1 ⟨1, (bl : Int), (ix : Int)⟩ = some o) := hyes
    clear hyes HM
    go_wp2_with fail
    refine (HWr.out _ (HKa.out _)).mono ?_
    rintro e9 w3 ⟨rfl, k3, s3⟩
    have HF : Hid (Kp (SW6 sh mp g m gf d) w w3 ∧ Wrd w3 w.heap.size sh mp g bp d m gf s b N h ⟨2, bl, ix, 0, []⟩) := ⟨((HK0.out.trans (HKa.out _) (fun _ _ e => e)).mono (fun _ _ e => e.elim)).trans k3 (fun _ _ e => e), s3⟩
    clear k3 s3 HWr
    go_wp2_with fail
    go_ret
    exact Or.inr ⟨HY.out, rfl, HF.out⟩
set_option maxRecDepth 100000 in
set_option maxHeartbeats 3200000 in
theorem rstore_ok (x : Shr w Z sh mp g bp d m gf s b N h) (bl ix ep : Nat) (hbl : bl ≤ 1152921504606846976) (hix : ix ≤ 1152921504606846976) (hep : ep ≤ 1152921504606846976) (p : Option Addr) (n cp : Nat) (xs : List Nat) (hr : Rb w p n xs) (hxn : n = xs.length) (hx1 : 1 ≤ n ∧ n ≤ 1980) (hxb : ∀ v ∈ xs, v < 256)
    (hN : N + 1 ≤ 1000) (hroom : 2 * (secS ⟨1, bl, ix, 0, xs⟩ : Int) + 2 * (stS h).2 ≤ (s : Int)) :
    Calls Tryz.prog 14 #[.pointer (some ⟨sh, 0, none⟩), .int .i64 (bl : Int), .int .i64 (ix : Int), .int .i64 (ep : Int), .slice p n cp] w fun e9 w' =>
      (ep < fncd h bl ix ∧ e9 = .returned (.int .i64 81) ∧ Kp (fun _ => False) w w') ∨
      (fncd h bl ix ≤ ep ∧ (stS h).1 ⟨1, (bl : Int), (ix : Int)⟩ = none ∧ e9 = .returned (.int .i64 0) ∧ Kp (SW6 sh mp g m gf d) w w' ∧ Wrd w' w.heap.size sh mp g bp d m gf s b N h ⟨1, bl, ix, 0, xs⟩) ∨
      (fncd h bl ix ≤ ep ∧ ∃ o, (stS h).1 ⟨1, (bl : Int), (ix : Int)⟩ = some o ∧ e9 = .returned (.int .i64 (if o.b = xs then 0 else 82)) ∧ Kp (fun _ => False) w w') := by
  obtain ⟨r0, hr0⟩ : ∃ r0, r0 = w.heap.size := ⟨_, rfl⟩
  obtain ⟨w0, hw0⟩ : ∃ y, y = w.alloc (.cells #[.int .i64 (bl : Int), .int .i64 (ix : Int), .int .i64 (ep : Int)] 3) := ⟨_, rfl⟩
  have HK0 : Hid (Kp (fun _ => False) w w0) := by rw [hw0]; exact (Kp.refl _ _).alloc _
  have HS0 : Hid (Shr w0 Z sh mp g bp d m gf s b N h) := x.keep0 HK0.out
  have HA : Hid (Calls Tryz.prog 44 #[.pointer (some ⟨sh, 0, none⟩), .slice (some ⟨r0, 0, none⟩) 3 3] w0 fun e w' => e = .returned (.int .i64 0) ∧ w' = w0) := by
    have h1 := asked_ok (HS0.out.sk.l.cell (j := 0) rfl) (some ⟨r0, 0, none⟩) 3 3 [(bl : Int), (ix : Int), (ep : Int)] (by rw [hw0, hr0]; exact rz3 w _ _ _ _) rfl (by omega)
    rw [upTo3 hbl hix hep] at h1
    exact h1
  have HFe : Hid (Calls _ _ _ w0 _) := fenced_ok HS0.out.sk bl ix hbl hix
  obtain ⟨F, hF⟩ : ∃ F, F = fncd h bl ix := ⟨_, rfl⟩
  rw [← hF] at HFe ⊢
  have hwf : wf3 ⟨1, (bl : Int), (ix : Int)⟩ := ⟨wf_n60 (n := 1) (by omega), wf_n60 hbl, wf_n60 hix⟩
  obtain ⟨a1, a2, a3, a4, qq, nn, cc, ok, hlk, hM⟩ := HS0.out.sk.look _ hwf
  have hlk0 : (Instr.lookup 88 (.map (some mp)) (.agg #[.int .i64 1, .int .i64 (bl : Int), .int .i64 (ix : Int)]) true).run Tryz.prog w0 = .ok (.tuple #[.agg #[.int .i64 a1, .int .i64 a2, .int .i64 a3, .int .i64 a4, .slice qq nn cc], .bool ok]) w0 := hlk w0 (Kp.refl _ _)
  have HM : Hid ((ok = false ∧ (stS h).1 ⟨1, (bl : Int), (ix : Int)⟩ = none) ∨ (ok = true ∧ ∃ o, (stS h).1 ⟨1, (bl : Int), (ix : Int)⟩ = some o ∧ nn = o.b.length ∧ Rb w0 qq o.b.length o.b ∧ GoodR o)) := by
    rcases hM with hM | ⟨h1, o, h2, _, _, _, _, h3, h4, h5, _⟩
    · exact Or.inl hM
    · exact Or.inr ⟨h1, o, h2, h3, h4, h5⟩
  have c1 : w0.cell? ⟨sh, 1, none⟩ = some (.map (some mp)) := HS0.out.sk.l.cell (j := 1) rfl
  have HF1 : Hid (F = fncd h bl ix) := hF
  have HLk : Hid (∀ z, Kp (fun _ => False) w0 z → (Instr.lookup 88 (.map (some mp)) (.agg #[.int .i64 1, .int .i64 (bl : Int), .int .i64 (ix : Int)]) true).run Tryz.prog z = .ok (.tuple #[.agg #[.int .i64 a1, .int .i64 a2, .int .i64 a3, .int .i64 a4, .slice qq nn cc], .bool ok]) z) := hlk
  have HB0 : Hid (Rb w0 p n xs) := hr.keep0 HK0.out
  have HX : Hid (n = xs.length ∧ 1 ≤ n ∧ n ≤ 1980) := ⟨hxn, hx1⟩
  have HSB : Hid (∀ v, SW6 sh mp g m gf d v → v < w0.heap.size) := HS0.out.blk
  have HWr : Hid (∀ (u u2 : World) (v : Value), Kp (fun _ => False) w0 u → Kp (fun _ => False) u u2 → Ow u2 u.heap.size v xs → Calls Tryz.prog 45 #[.pointer (some ⟨sh, 0, none⟩), .agg #[.int .i64 1, .int .i64 (bl : Int), .int .i64 (ix : Int), .int .i64 0, v]] u2 fun e9 w' => e9 = .returned (.int .i64 0) ∧ Kp (SW6 sh mp g m gf d) u2 w' ∧ Wrd w' w.heap.size sh mp g bp d m gf s b N h ⟨1, bl, ix, 0, xs⟩) := fun u u2 v k1 k2 ov => by
    obtain ⟨q9, c9, rfl, hc9, hr9, hb9⟩ := ov.rb hxb
    have hbl9 : xs.length ≤ 1980 := by omega
    exact (((HS0.out.keep0 k1).keep0 k2).write ⟨1, bl, ix, 0, xs⟩ q9 c9 hr9 ⟨⟨show 1 ≤ 1 by omega, show 1 ≤ 4 by omega⟩, hbl, hix, show 0 ≤ 1152921504606846976 by omega, hxb, hbl9, fun e => by rcases e with e | e <;> cases e⟩ hN (fun z hz => ⟨(ownBlock_lt ov (hb9 z hz).2).2, fun e => by
      have := (hb9 z hz).1
      have h2 := k1.size
      have h3 := HSB.out _ e
      omega⟩) hroom).mono (fun e9 w' hh => ⟨hh.1, hh.2.1, hh.2.2.mono (Nat.le_trans HK0.out.size (Nat.le_trans k1.size k2.size))⟩)
  have HXb : Hid (∀ v ∈ xs, v < 256) := hxb
  have hn1 : ¬ ((n : Int) < 1) := by omega
  have hn2 : ¬ ((1980 : Int) < (n : Int)) := by omega
  clear x hbl hix hep hwf hlk hlk0 hM hF HS0 hr hxn hx1 hxb hN hroom
  go_enter Tryz.func14, Tryz.ntmps14
  go_wp2_with fail
  rw [← hw0, ← hr0]
  clear hw0 hr0
  refine HA.out.mono ?_
  rintro e9 w9 ⟨rfl, hw9⟩
  have hw8 := hw9.symm
  subst hw8
  clear hw9 HA
  go_wp2_with fail
  refine HFe.out.mono ?_
  rintro e9 w9 ⟨rfl, hw9⟩
  have hw8 := hw9.symm
  subst hw8
  clear hw9 HFe
  by_cases hlt : (ep : Int) < (F : Int)
  · have HL : Hid (ep < F) := by show _ < _; omega
    clear HM HWr
    go_wp2_with fail
    go_ret
    exact Or.inl ⟨HL.out, rfl, HK0.out⟩
  · have HL : Hid (F ≤ ep) := by show _ ≤ _; omega
    obtain ⟨tb, htb⟩ : ∃ tb, tb = w0.heap.size := ⟨_, rfl⟩
    obtain ⟨w1, hw1⟩ : ∃ y, y = w0.alloc (.cells #[.int .i64 1, .int .i64 (bl : Int), .int .i64 (ix : Int)] 83) := ⟨_, rfl⟩
    have HK1 : Hid (Kp (fun _ => False) w0 w1) := by rw [hw1]; exact (Kp.refl _ _).alloc _
    have HT1 : Hid (Lv w1 tb [.int .i64 1, .int .i64 (bl : Int), .int .i64 (ix : Int)]) := by rw [hw1, htb]; exact Lv.new _ _ _
    have HTb : Hid (tb = w0.heap.size) := htb
    go_upto_region 9 with fail
    rw [← hw1, ← htb]
    clear hw1 htb
    have HSl : Hid (∀ z, Kp (fun _ => False) w1 z → Kp (fun _ => False) w1 z ∧ z.cell? ⟨sh, 1, none⟩ = some (.map (some mp)) ∧ z.cell? ⟨tb, 0, none⟩ = some (.int .i64 1) ∧ z.cell? ⟨tb, 1, none⟩ = some (.int .i64 (bl : Int)) ∧ z.cell? ⟨tb, 2, none⟩ = some (.int .i64 (ix : Int)) ∧ (Instr.lookup 88 (.map (some mp)) (.agg #[.int .i64 1, .int .i64 (bl : Int), .int .i64 (ix : Int)]) true).run Tryz.prog z = .ok (.tuple #[.agg #[.int .i64 a1, .int .i64 a2, .int .i64 a3, .int .i64 a4, .slice qq nn cc], .bool ok]) z) := fun z k => ⟨k, (HK1.out.trans k (fun _ _ e => e)).cellv c1 id, k.cellv (HT1.out.cell (j := 0) rfl) id, k.cellv (HT1.out.cell (j := 1) rfl) id, k.cellv (HT1.out.cell (j := 2) rfl) id, HLk.out z (HK1.out.trans k (fun _ _ e => e))⟩
    go_cut [13, 14] (fun v6 v7 wz => ∃ q, v6 = .pointer (some ⟨q, 0, none⟩) ∧ v7 = .bool ok ∧ Hid (Kp (fun _ => False) w1 wz) ∧ Hid (Lv wz q [.int .i64 a1, .int .i64 a2, .int .i64 a3, .int .i64 a4, .slice qq nn cc]))
    case first =>
      clear HM HWr c1
      have kd : Kp (fun _ => False) w1 w1.drew := (Kp.refl _ _).drew
      have kda : ∀ o : Obj, Kp (fun _ => False) w1 (w1.drew.alloc o) := fun o => (Kp.refl _ _).drew.alloc o
      go_region_held3 (fun z => Kp (fun _ => False) w1 z ∧ z.cell? ⟨sh, 1, none⟩ = some (.map (some mp)) ∧ z.cell? ⟨tb, 0, none⟩ = some (.int .i64 1) ∧ z.cell? ⟨tb, 1, none⟩ = some (.int .i64 (bl : Int)) ∧ z.cell? ⟨tb, 2, none⟩ = some (.int .i64 (ix : Int)) ∧ (Instr.lookup 88 (.map (some mp)) (.agg #[.int .i64 1, .int .i64 (bl : Int), .int .i64 (ix : Int)]) true).run Tryz.prog z = .ok (.tuple #[.agg #[.int .i64 a1, .int .i64 a2, .int .i64 a3, .int .i64 a4, .slice qq nn cc], .bool ok]) z)
        (first
          | exact HSl.out _ kd
          | exact HSl.out _ (kda _))
        (fail)
      all_goals
        go_simp
        go_wp2_with fail
        go_meet
        first
          | exact ⟨_, rfl, rfl, kda _, Lv.new _ _ _⟩
          | exact ⟨_, rfl, rfl, ((Kp.refl _ _).alloc _).drew, (Lv.new _ _ _).keep (S := fun _ => False) ((Kp.refl _ _).drew) id⟩
          | trace_state
    case rest =>
      obtain ⟨q, rfl, rfl, HKc, HLc⟩ := hcut
      have HKc0 : Hid (Kp (fun _ => False) w0 wc) := HK1.out.trans HKc.out (fun _ _ e => e)
      have HTc : Hid (Lv wc tb [.int .i64 1, .int .i64 (bl : Int), .int .i64 (ix : Int)]) := HT1.out.keep HKc.out id
      clear HSl c1 HLk
      rcases HM.out with ⟨rfl, hno⟩ | ⟨rfl, o, ho, rfl, hrb, hgo⟩
      · have HN : Hid ((stS h).1 ⟨1, (bl : Int), (ix : Int)⟩ = none) := hno
        clear hno HM
        have HCl : Hid (∀ u, Kp (fun _ => False) wc u → Calls Tryz.prog 13 #[.slice p n cp] u fun e w' => ∃ v, e = .returned v ∧ Kp (fun _ => False) u w' ∧ Ow w' u.heap.size v xs) := fun u ku => clone_any p n cp xs u (HB0.out.keep0 (HKc0.out.trans ku (fun _ _ e => e))) (by have := HX.out; show _ ≤ _; omega)
        have HBk : Hid (¬ SW6 sh mp g m gf d tb) := by
          have h2 := HTb.out
          show ¬ _
          intro e
          have h1 := HSB.out _ e
          omega
        have HS1 : Hid (∀ z, Kp (SW6 sh mp g m gf d) wc z → Kp (SW6 sh mp g m gf d) wc z ∧ z.cell? ⟨tb, 0, none⟩ = some (.int .i64 1) ∧ z.cell? ⟨tb, 1, none⟩ = some (.int .i64 (bl : Int)) ∧ z.cell? ⟨tb, 2, none⟩ = some (.int .i64 (ix : Int))) := fun z k => ⟨k, k.cellv (HTc.out.cell (j := 0) rfl) HBk.out, k.cellv (HTc.out.cell (j := 1) rfl) HBk.out, k.cellv (HTc.out.cell (j := 2) rfl) HBk.out⟩
        have HS0 : Hid (∀ z, Kp (fun _ => False) wc z → Kp (SW6 sh mp g m gf d) wc z ∧ z.cell? ⟨tb, 0, none⟩ = some (.int .i64 1) ∧ z.cell? ⟨tb, 1, none⟩ = some (.int .i64 (bl : Int)) ∧ z.cell? ⟨tb, 2, none⟩ = some (.int .i64 (ix : Int))) := fun z k => HS1.out z (k.mono (fun _ _ e => e.elim))
        have HSt : Hid (∀ z z2, Kp (fun _ => False) wc z → Kp (SW6 sh mp g m gf d) z z2 → Kp (SW6 sh mp g m gf d) wc z2 ∧ z2.cell? ⟨tb, 0, none⟩ = some (.int .i64 1) ∧ z2.cell? ⟨tb, 1, none⟩ = some (.int .i64 (bl : Int)) ∧ z2.cell? ⟨tb, 2, none⟩ = some (.int .i64 (ix : Int))) := fun z z2 k k2 => HS1.out z2 ((k.mono (fun _ _ e => e.elim)).trans k2 (fun _ _ e => e))
        have HWc : Hid (∀ (u u2 : World) (v : Value), Kp (fun _ => False) wc u → Kp (fun _ => False) u u2 → Ow u2 u.heap.size v xs → Calls Tryz.prog 45 #[.pointer (some ⟨sh, 0, none⟩), .agg #[.int .i64 1, .int .i64 (bl : Int), .int .i64 (ix : Int), .int .i64 0, v]] u2 fun e9 w' => e9 = .returned (.int .i64 0) ∧ Kp (SW6 sh mp g m gf d) u2 w' ∧ Wrd w' w.heap.size sh mp g bp d m gf s b N h ⟨1, bl, ix, 0, xs⟩) := fun u u2 v k1 k2 ov => HWr.out u u2 v (HKc0.out.trans k1 (fun _ _ e => e)) k2 ov
        have kd : Kp (fun _ => False) wc wc.drew := (Kp.refl _ _).drew
        have HTr : Hid (∀ u u' : World, Kp (fun _ => False) wc u → Kp (fun _ => False) u u' → Kp (fun _ => False) wc u') := fun u u' h1 h2 => h1.trans h2 (fun _ _ e => e)
        clear HWr HS1
        go_upto_region 11 with fail
        go_region_held3 (fun z => Kp (SW6 sh mp g m gf d) wc z ∧ z.cell? ⟨tb, 0, none⟩ = some (.int .i64 1) ∧ z.cell? ⟨tb, 1, none⟩ = some (.int .i64 (bl : Int)) ∧ z.cell? ⟨tb, 2, none⟩ = some (.int .i64 (ix : Int)))
          (first
            | exact HS0.out _ kd
            | exact HS0.out _ kw1
            | exact HSt.out _ _ kw1 k8)
          (first
            | (go_at_call 13; refine (HCl.out _ kd).mono ?_; rintro e9 w7 ⟨v7, rfl, k7, o7⟩; obtain ⟨q7, c7, hv7, hc7, hr7, hb7⟩ := o7.rb HXb.out; subst hv7; clear hc7 hr7 hb7; have kw1 := HTr.out _ _ kd k7)
            | (go_at_call 45; refine (HWc.out _ _ _ kd k7 o7).mono ?_; rintro e9 w8 ⟨rfl, k8, s8⟩))
        all_goals
          have HF : Hid (Kp (SW6 sh mp g m gf d) w w8 ∧ Wrd w8 w.heap.size sh mp g bp d m gf s b N h ⟨1, bl, ix, 0, xs⟩) := ⟨(((HK0.out.trans HKc0.out (fun _ _ e => e)).trans kw1 (fun _ _ e => e)).mono (fun _ _ e => e.elim)).trans k8 (fun _ _ e => e), s8⟩
          clear HS0 HSt HWc HCl HTr kd kw1 k7 o7 k8 s8
          go_simp
          go_wp2_with fail
          go_ret
          exact Or.inr (Or.inl ⟨HL.out, HN.out, rfl, HF.out⟩)
      · have HO : Hid ((stS h).1 ⟨1, (bl : Int), (ix : Int)⟩ = some o) := ho
        have HEq : Hid (Calls Tryz.prog 20 #[.slice qq o.b.length cc, .slice p n cp] wc fun e w' => e = .returned (.bool (decide (o.b = xs))) ∧ w' = wc) := equal_any cc cp wc (hrb.keep0 HKc0.out) (HB0.out.keep0 HKc0.out)
        have v4 : wc.cell? ⟨q, 4, none⟩ = some (.slice qq o.b.length cc) := HLc.out.cell (j := 4) rfl
        clear ho hrb hgo HM HWr
        by_cases hEq : o.b = xs
        · have HE : Hid (o.b = xs) := hEq
          have hdE : decide (o.b = xs) = true := decide_eq_true hEq
          rw [hdE] at HEq
          clear hEq hdE
          go_wp2_with fail
          refine HEq.out.mono ?_
          rintro e9 w9 ⟨rfl, hw9⟩
          have hw8 := hw9.symm
          subst hw8
          clear hw9 HEq
          go_wp2_with fail
          go_ret
          exact Or.inr (Or.inr ⟨HL.out, o, HO.out, by rw [if_pos HE.out]; rfl, HK0.out.trans HKc0.out (fun _ _ e => e)⟩)
        · have HE : Hid (¬ o.b = xs) := hEq
          have hdE : decide (o.b = xs) = false := decide_eq_false hEq
          rw [hdE] at HEq
          clear hEq hdE
          go_wp2_with fail
          refine HEq.out.mono ?_
          rintro e9 w9 ⟨rfl, hw9⟩
          have hw8 := hw9.symm
          subst hw8
          clear hw9 HEq
          go_wp2_with fail
          go_ret
          exact Or.inr (Or.inr ⟨HL.out, o, HO.out, by rw [if_neg HE.out]; rfl, HK0.out.trans HKc0.out (fun _ _ e => e)⟩)

end
end Go.Proofs.YtmooddbhcccicaaGreatDoor
